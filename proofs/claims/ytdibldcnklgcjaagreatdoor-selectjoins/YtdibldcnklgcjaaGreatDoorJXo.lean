/- gouachelaw05.SelectJoins: the walk. Three specificities that came in. -/
import Derived.Test.YtdibldcnklgcjaaGreatDoorJSm
import Derived.Test.YtdibldcnklgcjaaGreatDoorRFb
import Derived.Deep.RegionHeld3
import Derived.Deep.DeepMust
import Derived.Deep.DeepCutAuto
import Derived.Test.YtdibldcnklgcjaaGreatDoorKLv
import Derived.Test.YtdibldcnklgcjaaGreatDoorLMz
import Derived.ProofKit
import Derived.OpenShut
namespace Go.Proofs.YtdibldcnklgcjaaGreatDoor.L
open Go.RowKit
set_option maxRecDepth 100000

def OkB (c : Int) : Prop := c ≠ 34 ∧ c ≠ 39 ∧ c ≠ 92 ∧ c ≠ 47 ∧ c ≠ 40 ∧ c ≠ 41 ∧ c ≠ 91 ∧ c ≠ 93 ∧ c ≠ 123 ∧ c ≠ 125 ∧ c ≠ 60 ∧ c ≠ 45 ∧ c ≠ 13
theorem okB_or (c : Int) : OkB c ∨ c = 34 ∨ c = 39 ∨ c = 92 ∨ c = 47 ∨ c = 40 ∨ c = 41 ∨ c = 91 ∨ c = 93 ∨ c = 123 ∨ c = 125 ∨ c = 60 ∨ c = 45 ∨ c = 13 := by
  unfold OkB
  omega
theorem okB_bars {s : ByteArray} (h : ∀ j (hj : j < s.size), OkB ((s[j]'hj).toNat : Int)) : Bars (nums s) := by
  have : ∀ c ∈ nums s, OkB c := by
    intro c hc
    obtain ⟨j, hj, rfl⟩ := List.getElem_of_mem hc
    have hj' : j < s.size := by simpa [nums] using hj
    have := h j hj'
    have e : (nums s)[j]'hj = ((s[j]'hj').toNat : Int) := by simp only [nums, List.getElem_map]; rfl
    rw [e]
    exact this
  refine ⟨fun c hc => ?_, fun c hc => ?_⟩
  · obtain ⟨h1, h2, h3, h4, h5, h6, h7, h8, h9, h10, h11, h12, h13⟩ := this c hc
    exact ⟨h1, h2, h3, h4, h5, h6, h7, h8, h9, h10, h11, h12⟩
  · exact (this c hc).2.2.2.2.2.2.2.2.2.2.2.2
theorem tx_q {W w' : World} {R : Option (List Cx)} {e : Ending} (h : TxPost W R e w') : ∃ a n c k, e = .returned (.tuple #[.slice a n c, .int .i64 k]) ∧ Hid ((R = none ∧ k = 4) ∨ ∃ l, R = some l ∧ k = 0 ∧ n = l.length ∧ ClAt w' (.slice a n c) l) ∧ Below W.heap.size W w' := by
  cases R with
  | none =>
    obtain ⟨h1, h2⟩ := h
    exact ⟨none, 0, 0, 4, h1, .inl ⟨rfl, rfl⟩, h2⟩
  | some l =>
    obtain ⟨u, h1, h2, h3⟩ := h
    obtain ⟨_, _, ⟨a, c, rfl, _⟩, _⟩ := h2.at
    exact ⟨a, _, c, 0, h1, .inr ⟨l, rfl, rfl, rfl, h2⟩, h3⟩
theorem text_small (s : ByteArray) (hs : s.size ≤ 65536) (w : World) (h : Signs w) : Calls Tryz.prog 5 #[.string s] w (TxPost w (parseZ (valsS s))) := by
  obtain ⟨h1, h2, h3⟩ := vals_fit s hs
  exact text_any s w h hs h1 h2 h3
theorem joins_len {a b : ByteArray} {l m : List Cx} (h1 : parseZ (valsS a) = some l) (h2 : parseZ (valsS b) = some m) (ha : a.size ≤ 65536) (hb : b.size ≤ 65536) : l.length + m.length ≤ 2000000 := by
  have := parse_len h1
  have := parse_len h2
  have := len_cnt (valsS a)
  have := len_cnt (valsS b)
  have := (vals_fit a ha).2.2
  have := (vals_fit b hb).2.2
  omega
theorem lessS_iff (x y : S3) : lessS x y = true ↔ x.a < y.a ∨ x.a = y.a ∧ (x.b < y.b ∨ x.b = y.b ∧ x.c < y.c) := by
  unfold lessS
  by_cases h1 : x.a = y.a
  · by_cases h2 : x.b = y.b
    · simp [h1, h2]
    · simp [h1, h2]
  · simp [h1]
theorem less_facts (x y z : S3) : (lessS x y = true → lessS y x = false) ∧ (lessS x y = true → lessS y z = true → lessS x z = true) ∧ ((lessS x y || lessS y x) = (x.a != y.a || x.b != y.b || x.c != y.c)) := by
  have e : ∀ {b : Bool} {p : Prop}, (b = true ↔ p) → (b = false ↔ ¬ p) := fun {b} {p} h => by rw [← h]; cases b <;> simp
  refine ⟨fun h => ?_, fun h k => ?_, ?_⟩
  · rw [e (lessS_iff _ _)]
    rw [lessS_iff] at h
    omega
  · rw [lessS_iff] at *
    omega
  · rw [Bool.eq_iff_iff, Bool.or_eq_true, lessS_iff, lessS_iff, Bool.or_eq_true, Bool.or_eq_true, bne_iff_ne, bne_iff_ne, bne_iff_ne]
    omega
/-- A box of three numbers. -/
def B3 (w : World) (b : Nat) (x : S3) : Prop := w.heap[b]? = some (.cells #[.int .i64 x.a, .int .i64 x.b, .int .i64 x.c] 23 (0, 0))
theorem B3.keep {w w' : World} {b : Nat} {x : S3} (h : B3 w b x) (hb : Below w.heap.size w w') : B3 w' b x := (hb.block b (Array.getElem?_eq_some_iff.1 h).1).trans h
theorem B3.cells {w : World} {b : Nat} {x : S3} (h : B3 w b x) : w.cell? ⟨b, 0, none⟩ = some (.int .i64 x.a) ∧ w.cell? ⟨b, 1, none⟩ = some (.int .i64 x.b) ∧ w.cell? ⟨b, 2, none⟩ = some (.int .i64 x.c) := ⟨cellAt h 0, cellAt h 1, cellAt h 2⟩
/-- Three boxes: which was made first is left open. -/
def Three (w : World) (x y z : S3) (p q r : Value) (w' : World) : Prop := ∃ b1 b2 b3, p = .pointer (some ⟨b1, 0, none⟩) ∧ q = .pointer (some ⟨b2, 0, none⟩) ∧ r = .pointer (some ⟨b3, 0, none⟩) ∧ B3 w' b1 x ∧ B3 w' b2 y ∧ B3 w' b3 z ∧ Below w.heap.size w w'
theorem three_boxes (w : World) (o1 o2 o3 : Obj) : (((w.alloc o1).alloc o2).alloc o3).drew.heap[w.heap.size]? = some o1 ∧ (((w.alloc o1).alloc o2).alloc o3).drew.heap[w.heap.size + 1]? = some o2 ∧ (((w.alloc o1).alloc o2).alloc o3).drew.heap[w.heap.size + 1 + 1]? = some o3 ∧ Below w.heap.size w (((w.alloc o1).alloc o2).alloc o3).drew := by
  have h1 := World.alloc_heap_new w o1
  have h2 := World.alloc_heap_new (w.alloc o1) o2
  have h3 := World.alloc_heap_new ((w.alloc o1).alloc o2) o3
  rw [World.size_alloc] at h2
  rw [World.size_alloc, World.size_alloc] at h3
  have k1 := Below.heap_alloc (w.alloc o1) o2 w.heap.size (by simp)
  have k2 := Below.heap_alloc ((w.alloc o1).alloc o2) o3 w.heap.size (by simp; omega)
  have k3 := Below.heap_alloc ((w.alloc o1).alloc o2) o3 (w.heap.size + 1) (by simp)
  exact ⟨k2.trans (k1.trans h1), k3.trans h2, h3, ((((Below.refl _ _).alloc (Nat.le_refl _) _).alloc (by simp) _).alloc (by simp; omega) _).drew⟩
set_option maxHeartbeats 40000000 in
theorem joins_any (a b : ByteArray) (x y z : S3) (W : World) (hsg : Signs W) (ha : a.size ≤ 140737488351232) (hb : b.size ≤ 140737488351232) : Calls Tryz.prog 3 #[.string a, .string b, .agg #[.int .i64 x.a, .int .i64 x.b, .int .i64 x.c, .int .i64 y.a, .int .i64 y.b, .int .i64 y.c, .int .i64 z.a, .int .i64 z.b, .int .i64 z.c]] W fun e w' => e = .returned (.bool true) ∧ Below W.heap.size W w' := by
  have HSG : Hid (∀ w, Below W.heap.size W w → Signs w) := fun w h => hsg.keep h
  obtain ⟨W0, hW0⟩ : ∃ W0, W0 = W.alloc (.cells #[.int .i64 x.a, .int .i64 x.b, .int .i64 x.c, .int .i64 y.a, .int .i64 y.b, .int .i64 y.c, .int .i64 z.a, .int .i64 z.b, .int .i64 z.c] 24) := ⟨_, rfl⟩
  have hB0 : Below W.heap.size W W0 := by rw [hW0]; exact (Below.refl _ _).alloc (Nat.le_refl _) _
  have HB0 := hid_mk hB0
  clear hsg
  by_cases hbig : 1500 < a.size + b.size
  · have d1 : (1500 : Int) < (a.size : Int) + (b.size : Int) := by omega
    have hli := lives_any W0 (HSG.out _ hB0)
    rw [hW0] at hli hB0
    clear hW0 HB0
    go_enter Tryz.func3, Tryz.ntmps3
    go_wp2_with (go_at_call 4; fail)
    refine hli.mono ?_
    rintro e w1 ⟨rfl, b1⟩
    clear hli
    go_wp2
    go_ret
    exact ⟨rfl, hB0.trans (b1.mono hB0.size)⟩
  · have d1 : (a.size : Int) + (b.size : Int) ≤ 1500 := by omega
    go_enter Tryz.func3, Tryz.ntmps3
    go_upto_region 3 with (fail)
    rw [← hW0]
    have HSG0 : Hid (∀ w, Below W0.heap.size W0 w → Signs w) := fun w h => HSG.out w (hB0.trans (h.mono hB0.size))
    have HFIN : Hid (∀ w, Below W0.heap.size W0 w → Below W.heap.size W w) := fun w h => hB0.trans (h.mono hB0.size)
    have hx : W0.heap[W.heap.size]? = some (.cells #[.int .i64 x.a, .int .i64 x.b, .int .i64 x.c, .int .i64 y.a, .int .i64 y.b, .int .i64 y.c, .int .i64 z.a, .int .i64 z.b, .int .i64 z.c] 24 (0, 0)) := by rw [hW0]; exact heap_alloc_last W _
    have HX : Hid (∀ w, Below W0.heap.size W0 w → w.heap[W.heap.size]? = some (.cells #[.int .i64 x.a, .int .i64 x.b, .int .i64 x.c, .int .i64 y.a, .int .i64 y.b, .int .i64 y.c, .int .i64 z.a, .int .i64 z.b, .int .i64 z.c] 24 (0, 0))) := fun w h => (h.block _ (Array.getElem?_eq_some_iff.1 hx).1).trans hx
    clear hB0 hW0 hbig HSG HB0 hx
    go_wp2
    refine wp_loop_rounds 3 ?_
    rw [rounds_succ]
    go_wp2
    obtain ⟨W1, hW1⟩ : ∃ W1, W1 = W0.alloc (.cells #[.string a, .string b] 9) := ⟨_, rfl⟩
    have HB1 : Hid (Below W0.heap.size W0 W1) := by
      rw [hW1]
      exact (Below.refl _ _).alloc (Nat.le_refl _) _
    have HSL : Hid (W1.cell? ⟨W0.heap.size, 0, none⟩ = some (.string a) ∧ W1.cell? ⟨W0.heap.size, 1, none⟩ = some (.string b)) := by
      have hx : W1.heap[W0.heap.size]? = some (.cells #[.string a, .string b] 9 (0, 0)) := by rw [hW1]; exact heap_alloc_last W0 _
      exact ⟨cellAt hx 0, cellAt hx 1⟩
    have HW1 := hid_mk hW1
    clear hW1
    go_loopw [9] (fun a9 wq => ∃ i : Nat, i ≤ a.size ∧ a9 = .int .i64 (i : Int) ∧ W1 = wq ∧ Hid (∀ j (hj : j < a.size), j < i → OkB ((a[j]'hj).toNat : Int))) (fun a9 _ => a.size + 1 - (intOf a9).toNat)
    case atStart => exact ⟨0, Nat.zero_le _, rfl, HW1.out, fun j _ h => absurd h (by omega)⟩
    case round =>
      obtain ⟨i, hi, rfl, rfl, HBAR⟩ := hrel
      by_cases hil : i < a.size
      · have HN : Hid (OkB ((a[i]'hil).toNat : Int) → ∀ j (hj : j < a.size), j < i + 1 → OkB ((a[j]'hj).toNat : Int)) := fun h j hj hji => by
          by_cases e : j = i
          · subst e; exact h
          · exact HBAR.out j hj (by omega)
        go_upto_region 10 with (fail)
        have hor := okB_or ((a[i]'hil).toNat : Int)
        generalize ((a[i]'hil).toNat : Int) = c at *
        rcases hor with hok | hor
        · obtain ⟨h1, h2, h3, h4, h5, h6, h7, h8, h9, h10, h11, h12, h13⟩ := hok
          have hok : Hid (OkB c) := ⟨h1, h2, h3, h4, h5, h6, h7, h8, h9, h10, h11, h12, h13⟩
          go_wp2
          exact ⟨⟨i + 1, hil, by go_num, trivial, HN.out hok.out⟩, by simp only [intOf]; omega⟩
        · have hli := lives_any W1 (HSG0.out _ HB1.out)
          clear HN HBAR
          rcases hor with rfl | rfl | rfl | rfl | rfl | rfl | rfl | rfl | rfl | rfl | rfl | rfl | rfl
          all_goals
            go_wp2_with (go_at_call 4; fail)
            refine hli.mono ?_
            rintro e w1 ⟨rfl, b1⟩
            clear hli
            go_wp2
            go_ret
            exact ⟨rfl, HFIN.out _ (HB1.out.trans (b1.mono HB1.out.size))⟩
      · obtain rfl : i = a.size := by omega
        have HBAR_a : Hid (Bars (nums a)) := okB_bars fun j hj => HBAR.out j hj hj
        clear HBAR hi hil
        go_wp2
        rw [rounds_succ]
        have hsl := HSL.out.2
        go_wp2
        clear hsl
        go_loopw [9] (fun a9 wq => ∃ i : Nat, i ≤ b.size ∧ a9 = .int .i64 (i : Int) ∧ W1 = wq ∧ Hid (∀ j (hj : j < b.size), j < i → OkB ((b[j]'hj).toNat : Int))) (fun a9 _ => b.size + 1 - (intOf a9).toNat)
        case atStart => exact ⟨0, Nat.zero_le _, rfl, rfl, fun j _ h => absurd h (by omega)⟩
        case round =>
          obtain ⟨i, hi, rfl, rfl, HBAR⟩ := hrel
          by_cases hil : i < b.size
          · have HN : Hid (OkB ((b[i]'hil).toNat : Int) → ∀ j (hj : j < b.size), j < i + 1 → OkB ((b[j]'hj).toNat : Int)) := fun h j hj hji => by
              by_cases e : j = i
              · subst e; exact h
              · exact HBAR.out j hj (by omega)
            go_upto_region 10 with (fail)
            have hor := okB_or ((b[i]'hil).toNat : Int)
            generalize ((b[i]'hil).toNat : Int) = c at *
            rcases hor with hok | hor
            · obtain ⟨h1, h2, h3, h4, h5, h6, h7, h8, h9, h10, h11, h12, h13⟩ := hok
              have hok : Hid (OkB c) := ⟨h1, h2, h3, h4, h5, h6, h7, h8, h9, h10, h11, h12, h13⟩
              go_wp2
              exact ⟨⟨i + 1, hil, by go_num, trivial, HN.out hok.out⟩, by simp only [intOf]; omega⟩
            · have hli := lives_any W1 (HSG0.out _ HB1.out)
              clear HN HBAR
              rcases hor with rfl | rfl | rfl | rfl | rfl | rfl | rfl | rfl | rfl | rfl | rfl | rfl | rfl
              all_goals
                go_wp2_with (go_at_call 4; fail)
                refine hli.mono ?_
                rintro e w1 ⟨rfl, b1⟩
                clear hli
                go_wp2
                go_ret
                exact ⟨rfl, HFIN.out _ (HB1.out.trans (b1.mono HB1.out.size))⟩
          · obtain rfl : i = b.size := by omega
            have HBAR_b : Hid (Bars (nums b)) := okB_bars fun j hj => HBAR.out j hj hj
            clear HBAR hi hil
            go_wp2
            rw [rounds_succ]
            go_upto_region 25 with (fail)
            have hTa := text_small a (by omega) W1 (HSG0.out _ HB1.out)
            have HTb : Hid (∀ w, Below W0.heap.size W0 w → Calls Tryz.prog 5 #[.string b] w (TxPost w (parseZ (valsS b)))) := fun w h => text_small b (by omega) w (HSG0.out _ h)
            have HTc : Hid (∀ w, Below W0.heap.size W0 w → Calls Tryz.prog 5 #[.string (a ++ ⟨#[44]⟩ ++ b)] w (TxPost w (bothO (parseZ (valsS a)) (parseZ (valsS b))))) := fun w h => by
              rw [← vals_text HBAR_a.out HBAR_b.out]
              exact text_small _ (by simp only [ByteArray.size_append]; show a.size + 1 + b.size ≤ 65536; omega) w (HSG0.out _ h)
            have HNa : Hid (∀ l, parseZ (valsS a) = some l → NoL l) := fun l h => text_nol HBAR_a.out h
            have HNb : Hid (∀ l, parseZ (valsS b) = some l → NoL l) := fun l h => text_nol HBAR_b.out h
            have HLM : Hid (∀ l m, parseZ (valsS a) = some l → parseZ (valsS b) = some m → l.length + m.length ≤ 2000000) := fun l m h1 h2 => joins_len h1 h2 (by omega) (by omega)
            generalize parseZ (valsS a) = R1 at *
            generalize parseZ (valsS b) = R2 at *
            clear HBAR_a HBAR_b HSL HW1
            go_wp2_with (go_at_call 5; fail)
            refine hTa.mono ?_
            intro e w2 hT
            obtain ⟨a1, n1, c1, k1, rfl, HC1, hb2⟩ := tx_q hT
            have HB2 : Hid (Below W0.heap.size W0 w2) := HB1.out.trans (hb2.mono HB1.out.size)
            have hTb := HTb.out w2 HB2.out
            clear hTa hT hb2 HTb HB1
            go_wp2_with (go_at_call 5; fail)
            refine hTb.mono ?_
            intro e w3 hT
            obtain ⟨a2, n2, c2, k2, rfl, HC2, hb3⟩ := tx_q hT
            have HB3 : Hid (Below W0.heap.size W0 w3) := HB2.out.trans (hb3.mono HB2.out.size)
            have HB23 := hid_mk hb3
            have hTc := HTc.out w3 HB3.out
            clear hTb hT hb3 HTc HB2
            go_wp2_with (go_at_call 5; fail)
            refine hTc.mono ?_
            intro e w4 hT
            obtain ⟨a3, n3, c3, k3, rfl, HC3, hb4⟩ := tx_q hT
            have HB4 : Hid (Below W0.heap.size W0 w4) := HB3.out.trans (hb4.mono HB3.out.size)
            have HB34 := hid_mk hb4
            clear hTc hT hb4 HB3
            go_upto_region 28 with (fail)
            have hcases : (k3 = 4 ∧ (k1 = 4 ∨ (k1 = 0 ∧ k2 = 4))) ∨ (k1 = 0 ∧ k2 = 0 ∧ k3 = 0 ∧ ∃ l m, ClF w4 (.slice a1 n1 c1) l ∧ ClF w4 (.slice a2 n2 c2) m ∧ ClF w4 (.slice a3 n3 c3) (l ++ m) ∧ n1 = l.length ∧ n2 = m.length ∧ l.length + m.length ≤ 2000000) := by
              rcases HC1.out with ⟨rfl, e1⟩ | ⟨l, rfl, e1, en1, hl⟩
              · left
                rcases HC3.out with ⟨_, e3⟩ | ⟨l3, e3, _⟩
                · exact ⟨e3, .inl e1⟩
                · cases e3
              · rcases HC2.out with ⟨rfl, e2⟩ | ⟨m, rfl, e2, en2, hm⟩
                · left
                  rcases HC3.out with ⟨_, e3⟩ | ⟨l3, e3, _⟩
                  · exact ⟨e3, .inr ⟨e1, e2⟩⟩
                  · cases e3
                · right
                  rcases HC3.out with ⟨e3, _⟩ | ⟨l3, e3, e4, _, h3⟩
                  · cases e3
                  · obtain rfl := Option.some.inj e3
                    have hla := HNa.out l rfl
                    have hma := HNb.out m rfl
                    refine ⟨e1, e2, e4, l, m, ((hl.keep HB23.out).keep HB34.out).flat hla, (hm.keep HB34.out).flat hma, h3.flat ?_, en1, en2, HLM.out l m rfl rfl⟩
                    intro c hc
                    rcases List.mem_append.1 hc with h | h
                    · exact hla c h
                    · exact hma c h
            clear HC1 HC2 HC3 HNa HNb HB23 HB34 HLM
            go_cut [99] (fun s99 wx => s99 = .bool false ∧ Hid (Below W0.heap.size W0 wx))
            case first =>
              rcases hcases with ⟨rfl, hk⟩ | ⟨rfl, rfl, rfl, l, m, hl, hm, h3, hn1, hn2, hlm⟩
              · rcases hk with rfl | ⟨rfl, rfl⟩
                · go_wp2_with fail
                  go_meet
                  exact ⟨rfl, HB4⟩
                · go_wp2_with fail
                  go_meet
                  exact ⟨rfl, HB4⟩
              · obtain ⟨_, _, qs, e1, r1, s1⟩ := hl.row
                obtain ⟨_, _, rs, e2, r2, s2⟩ := hm.row
                rw [hn1] at e1
                rw [hn2] at e2
                cases e1
                cases e2
                rw [← hn1] at s1 hlm
                rw [← hn2] at s2 hlm
                have R1 := hid_mk r1
                have R2 := hid_mk r2
                have S1 := hid_mk s1
                have S2 := hid_mk s2
                have L1 : Hid (qs.length = n1 * 2) := by show _ = _; rw [r1.len, hn1]
                have L2 : Hid (rs.length = n2 * 2) := by show _ = _; rw [r2.len, hn2]
                have HN12 : Hid (n1 + n2 = (l ++ m).length) := by show _ = _; rw [List.length_append, hn1, hn2]
                have H3 := hid_mk h3
                have HOW := hid_mk (own_empty2 w4)
                clear hl hm h3 hn1 hn2 r1 r2 s1 s2
                go_wp2_with (first
                  | (at_builtin; (refine wpList_append_cl (by simp [Region.wanted, yielded]) _ _ rfl w4.heap.size 0 (.slice (some ⟨w4.heap.size, 0, none⟩) 0 0) [] rfl HOW.out a1 n1 c1 qs rfl L1.out (fun h0 => by obtain ⟨ad, h1, h2⟩ := S1.out h0; exact ⟨ad, h1, fun j u hu => news_keep ((Below.refl _ _).alloc (Nat.le_refl _) _) (h2 j u hu)⟩) R1.out.one (by omega) (by simp) ?_); intro v5 w5 hown5 hgr5; rw [Nat.zero_add, List.nil_append] at hown5; have HB45 : Hid (Below w4.heap.size w4 w5) := ((Below.refl _ _).alloc (Nat.le_refl _) _).grown hgr5 (by simp) (fun k hk => (HOW.out.lt k hk).1); have HO5 := hid_mk hown5; clear hown5 hgr5; obtain ⟨va5, vc5, rfl⟩ := own_sl2 HO5.out)
                  | (at_builtin; (refine wpList_append_cl (by simp [Region.wanted, yielded]) _ _ rfl w4.heap.size n1 (.slice va5 n1 vc5) qs rfl HO5.out a2 n2 c2 rs rfl L2.out (fun h0 => by obtain ⟨ad, h1, h2⟩ := S2.out h0; exact ⟨ad, h1, fun j u hu => news_keep HB45.out (h2 j u hu)⟩) R2.out.one hlm HB45.out.size ?_); intro v6 w6 hown6 hgr6; have HB46 : Hid (Below w4.heap.size w4 w6) := HB45.out.grown hgr6 HB45.out.size (fun k hk => (HO5.out.lt k hk).1); have HCL : Hid (ClF w6 v6 (l ++ m)) := ((R1.out.app R2.out).keep HB46.out).cl HN12.out hown6; have HO6 := hid_mk hown6; clear hown6 hgr6; obtain ⟨va6, vc6, rfl⟩ := own_sl2 HO6.out)
                  | (go_at_call 6; refine (same_yes (H3.out.keep HB46.out) HCL.out).mono ?_; rintro e w7 ⟨rfl, hb7⟩; have HB47 : Hid (Below w4.heap.size w4 w7) := HB46.out.trans (hb7.mono HB46.out.size); clear hb7))
                go_meet
                exact ⟨rfl, HB4.out.trans (HB47.out.mono HB4.out.size)⟩
            case rest =>
              obtain ⟨rfl, HBc⟩ := hcut
              clear hcases HB4
              have HSGc := HSG0
              have hx := HX.out wc HBc.out
              have y0 := cellAt hx 0
              have y1 := cellAt hx 1
              have y2 := cellAt hx 2
              have y3 := cellAt hx 3
              have y4 := cellAt hx 4
              have y5 := cellAt hx 5
              have y6 := cellAt hx 6
              have y7 := cellAt hx 7
              have y8 := cellAt hx 8
              simp only [List.getElem?_toArray, List.getElem?_cons_zero, List.getElem?_cons_succ] at y0 y1 y2 y3 y4 y5 y6 y7 y8
              have npa : W.heap.size < wc.heap.size := (Array.getElem?_eq_some_iff.1 hx).1
              have np1 : ¬ wc.heap.size = W.heap.size := by omega
              have np2 : ¬ wc.heap.size + 1 = W.heap.size := by omega
              have np3 : ¬ wc.heap.size + 1 + 1 = W.heap.size := by omega
              have np4 : W.heap.size < wc.heap.size + 1 := by omega
              have np5 : W.heap.size < wc.heap.size + 1 + 1 := by omega
              clear hx
              go_upto_region 30 with (fail)
              go_cut [16, 17, 18] (fun p q r wx => Three wc x y z p q r wx)
              case first =>
                go_region
                all_goals go_wp2_with fail
                all_goals go_meet
                all_goals first
                  | exact ⟨_, _, _, rfl, rfl, rfl, (three_boxes wc (.cells #[.int .i64 x.a, .int .i64 x.b, .int .i64 x.c] 23) (.cells #[.int .i64 y.a, .int .i64 y.b, .int .i64 y.c] 23) (.cells #[.int .i64 z.a, .int .i64 z.b, .int .i64 z.c] 23)).1, (three_boxes wc (.cells #[.int .i64 x.a, .int .i64 x.b, .int .i64 x.c] 23) (.cells #[.int .i64 y.a, .int .i64 y.b, .int .i64 y.c] 23) (.cells #[.int .i64 z.a, .int .i64 z.b, .int .i64 z.c] 23)).2.1, (three_boxes wc (.cells #[.int .i64 x.a, .int .i64 x.b, .int .i64 x.c] 23) (.cells #[.int .i64 y.a, .int .i64 y.b, .int .i64 y.c] 23) (.cells #[.int .i64 z.a, .int .i64 z.b, .int .i64 z.c] 23)).2.2.1, (three_boxes wc (.cells #[.int .i64 x.a, .int .i64 x.b, .int .i64 x.c] 23) (.cells #[.int .i64 y.a, .int .i64 y.b, .int .i64 y.c] 23) (.cells #[.int .i64 z.a, .int .i64 z.b, .int .i64 z.c] 23)).2.2.2⟩
                  | exact ⟨_, _, _, rfl, rfl, rfl, (three_boxes wc (.cells #[.int .i64 x.a, .int .i64 x.b, .int .i64 x.c] 23) (.cells #[.int .i64 z.a, .int .i64 z.b, .int .i64 z.c] 23) (.cells #[.int .i64 y.a, .int .i64 y.b, .int .i64 y.c] 23)).1, (three_boxes wc (.cells #[.int .i64 x.a, .int .i64 x.b, .int .i64 x.c] 23) (.cells #[.int .i64 z.a, .int .i64 z.b, .int .i64 z.c] 23) (.cells #[.int .i64 y.a, .int .i64 y.b, .int .i64 y.c] 23)).2.2.1, (three_boxes wc (.cells #[.int .i64 x.a, .int .i64 x.b, .int .i64 x.c] 23) (.cells #[.int .i64 z.a, .int .i64 z.b, .int .i64 z.c] 23) (.cells #[.int .i64 y.a, .int .i64 y.b, .int .i64 y.c] 23)).2.1, (three_boxes wc (.cells #[.int .i64 x.a, .int .i64 x.b, .int .i64 x.c] 23) (.cells #[.int .i64 z.a, .int .i64 z.b, .int .i64 z.c] 23) (.cells #[.int .i64 y.a, .int .i64 y.b, .int .i64 y.c] 23)).2.2.2⟩
                  | exact ⟨_, _, _, rfl, rfl, rfl, (three_boxes wc (.cells #[.int .i64 y.a, .int .i64 y.b, .int .i64 y.c] 23) (.cells #[.int .i64 x.a, .int .i64 x.b, .int .i64 x.c] 23) (.cells #[.int .i64 z.a, .int .i64 z.b, .int .i64 z.c] 23)).2.1, (three_boxes wc (.cells #[.int .i64 y.a, .int .i64 y.b, .int .i64 y.c] 23) (.cells #[.int .i64 x.a, .int .i64 x.b, .int .i64 x.c] 23) (.cells #[.int .i64 z.a, .int .i64 z.b, .int .i64 z.c] 23)).1, (three_boxes wc (.cells #[.int .i64 y.a, .int .i64 y.b, .int .i64 y.c] 23) (.cells #[.int .i64 x.a, .int .i64 x.b, .int .i64 x.c] 23) (.cells #[.int .i64 z.a, .int .i64 z.b, .int .i64 z.c] 23)).2.2.1, (three_boxes wc (.cells #[.int .i64 y.a, .int .i64 y.b, .int .i64 y.c] 23) (.cells #[.int .i64 x.a, .int .i64 x.b, .int .i64 x.c] 23) (.cells #[.int .i64 z.a, .int .i64 z.b, .int .i64 z.c] 23)).2.2.2⟩
                  | exact ⟨_, _, _, rfl, rfl, rfl, (three_boxes wc (.cells #[.int .i64 y.a, .int .i64 y.b, .int .i64 y.c] 23) (.cells #[.int .i64 z.a, .int .i64 z.b, .int .i64 z.c] 23) (.cells #[.int .i64 x.a, .int .i64 x.b, .int .i64 x.c] 23)).2.2.1, (three_boxes wc (.cells #[.int .i64 y.a, .int .i64 y.b, .int .i64 y.c] 23) (.cells #[.int .i64 z.a, .int .i64 z.b, .int .i64 z.c] 23) (.cells #[.int .i64 x.a, .int .i64 x.b, .int .i64 x.c] 23)).1, (three_boxes wc (.cells #[.int .i64 y.a, .int .i64 y.b, .int .i64 y.c] 23) (.cells #[.int .i64 z.a, .int .i64 z.b, .int .i64 z.c] 23) (.cells #[.int .i64 x.a, .int .i64 x.b, .int .i64 x.c] 23)).2.1, (three_boxes wc (.cells #[.int .i64 y.a, .int .i64 y.b, .int .i64 y.c] 23) (.cells #[.int .i64 z.a, .int .i64 z.b, .int .i64 z.c] 23) (.cells #[.int .i64 x.a, .int .i64 x.b, .int .i64 x.c] 23)).2.2.2⟩
                  | exact ⟨_, _, _, rfl, rfl, rfl, (three_boxes wc (.cells #[.int .i64 z.a, .int .i64 z.b, .int .i64 z.c] 23) (.cells #[.int .i64 x.a, .int .i64 x.b, .int .i64 x.c] 23) (.cells #[.int .i64 y.a, .int .i64 y.b, .int .i64 y.c] 23)).2.1, (three_boxes wc (.cells #[.int .i64 z.a, .int .i64 z.b, .int .i64 z.c] 23) (.cells #[.int .i64 x.a, .int .i64 x.b, .int .i64 x.c] 23) (.cells #[.int .i64 y.a, .int .i64 y.b, .int .i64 y.c] 23)).2.2.1, (three_boxes wc (.cells #[.int .i64 z.a, .int .i64 z.b, .int .i64 z.c] 23) (.cells #[.int .i64 x.a, .int .i64 x.b, .int .i64 x.c] 23) (.cells #[.int .i64 y.a, .int .i64 y.b, .int .i64 y.c] 23)).1, (three_boxes wc (.cells #[.int .i64 z.a, .int .i64 z.b, .int .i64 z.c] 23) (.cells #[.int .i64 x.a, .int .i64 x.b, .int .i64 x.c] 23) (.cells #[.int .i64 y.a, .int .i64 y.b, .int .i64 y.c] 23)).2.2.2⟩
                  | exact ⟨_, _, _, rfl, rfl, rfl, (three_boxes wc (.cells #[.int .i64 z.a, .int .i64 z.b, .int .i64 z.c] 23) (.cells #[.int .i64 y.a, .int .i64 y.b, .int .i64 y.c] 23) (.cells #[.int .i64 x.a, .int .i64 x.b, .int .i64 x.c] 23)).2.2.1, (three_boxes wc (.cells #[.int .i64 z.a, .int .i64 z.b, .int .i64 z.c] 23) (.cells #[.int .i64 y.a, .int .i64 y.b, .int .i64 y.c] 23) (.cells #[.int .i64 x.a, .int .i64 x.b, .int .i64 x.c] 23)).2.1, (three_boxes wc (.cells #[.int .i64 z.a, .int .i64 z.b, .int .i64 z.c] 23) (.cells #[.int .i64 y.a, .int .i64 y.b, .int .i64 y.c] 23) (.cells #[.int .i64 x.a, .int .i64 x.b, .int .i64 x.c] 23)).1, (three_boxes wc (.cells #[.int .i64 z.a, .int .i64 z.b, .int .i64 z.c] 23) (.cells #[.int .i64 y.a, .int .i64 y.b, .int .i64 y.c] 23) (.cells #[.int .i64 x.a, .int .i64 x.b, .int .i64 x.c] 23)).2.2.2⟩
              case rest =>
                obtain ⟨b1, b2, b3, rfl, rfl, rfl, t1, t2, t3, hBt⟩ := hcut
                have HBW : Hid (Below W0.heap.size W0 wc) := HBc.out.trans (hBt.mono HBc.out.size)
                obtain ⟨f1, f2, f3⟩ := less_facts x y z
                have HLV : Hid (∀ w, Below wc.heap.size wc w → Calls Tryz.prog 4 #[] w fun e w' => e = .returned (.bool true) ∧ Below wc.heap.size wc w') := fun w hw => (lives_any w (HSG0.out w (HBW.out.trans (hw.mono HBW.out.size)))).mono fun _ _ k => ⟨k.1, hw.trans (k.2.mono hw.size)⟩
                have H7 : Hid (∀ (u v : S3) w, Below wc.heap.size wc w → Calls Tryz.prog 7 #[u.v, v.v] w fun e w' => e = .returned (.bool (lessS u v)) ∧ Below wc.heap.size wc w') := fun u v w hw => (less_any w u v).mono fun _ _ k => ⟨k.1, hw.trans (k.2.mono hw.size)⟩
                have HPQ := H7.out x y
                have HQP := H7.out y x
                have HQR := H7.out y z
                have HPR := H7.out x z
                have HSS : Hid (∀ w, Below wc.heap.size wc w → (w.cell? ⟨b1, 0, none⟩ = some (.int .i64 x.a) ∧ w.cell? ⟨b1, 1, none⟩ = some (.int .i64 x.b) ∧ w.cell? ⟨b1, 2, none⟩ = some (.int .i64 x.c)) ∧ (w.cell? ⟨b2, 0, none⟩ = some (.int .i64 y.a) ∧ w.cell? ⟨b2, 1, none⟩ = some (.int .i64 y.b) ∧ w.cell? ⟨b2, 2, none⟩ = some (.int .i64 y.c)) ∧ (w.cell? ⟨b3, 0, none⟩ = some (.int .i64 z.a) ∧ w.cell? ⟨b3, 1, none⟩ = some (.int .i64 z.b) ∧ w.cell? ⟨b3, 2, none⟩ = some (.int .i64 z.c))) := fun w hw => ⟨(t1.keep hw).cells, (t2.keep hw).cells, (t3.keep hw).cells⟩
                have gd : Below wc.heap.size wc wc := Below.refl _ _
                have HFIN2 : Hid (∀ w, Below wc.heap.size wc w → Below W.heap.size W w) := fun w hw => HFIN.out w (HBW.out.trans (hw.mono HBW.out.size))
                unfold S3.v at HPQ HQP HQR HPR
                obtain ⟨xa, xb, xc⟩ := x
                obtain ⟨ya, yb, yc⟩ := y
                obtain ⟨za, zb, zc⟩ := z
                dsimp only at *
                generalize lessS ⟨xa, xb, xc⟩ ⟨ya, yb, yc⟩ = pq at *
                generalize lessS ⟨ya, yb, yc⟩ ⟨xa, xb, xc⟩ = qp at *
                generalize lessS ⟨ya, yb, yc⟩ ⟨za, zb, zc⟩ = qr at *
                generalize lessS ⟨xa, xb, xc⟩ ⟨za, zb, zc⟩ = pr at *
                have HPQ := hid_mk HPQ
                have HQP := hid_mk HQP
                have HQR := hid_mk HQR
                have HPR := hid_mk HPR
                have F1 := hid_mk f1
                have F2 := hid_mk f2
                have F3 := hid_mk f3
                obtain ⟨⟨c0, c1, c2⟩, ⟨d0, d1, d2⟩, ⟨e0, e1, e2⟩⟩ := HSS.out wc gd
                clear t1 t2 t3 hBt f1 f2 f3 H7 y0 y1 y2 y3 y4 y5 y6 y7 y8 npa np1 np2 np3 np4 np5 HBc HFIN HX HSG0 HSGc
                go_upto_region 31 with (fail)
                go_cut [124] (fun s wx => s = .bool false ∧ Hid (Below wc.heap.size wc wx))
                case first =>
                  cases pq with
                  | false =>
                    go_wp2_with (go_at_call 7; refine (HPQ.out _ gd).mono ?_; rintro e v1 ⟨rfl, g1⟩; have G1 := hid_mk g1; clear g1)
                    go_meet
                    exact ⟨rfl, G1⟩
                  | true =>
                    have hqp := F1.out rfl
                    subst hqp
                    cases qr with
                    | false =>
                      go_wp2_with (first
                        | (go_at_call 7; with_reducible refine (HPQ.out _ gd).mono ?_; rintro e v1 ⟨rfl, g1⟩; obtain ⟨⟨c0, c1, c2⟩, ⟨d0, d1, d2⟩, ⟨e0, e1, e2⟩⟩ := HSS.out v1 g1)
                        | (go_at_call 7; with_reducible refine (HQP.out _ g1).mono ?_; rintro e v2 ⟨rfl, g2⟩; obtain ⟨⟨c0, c1, c2⟩, ⟨d0, d1, d2⟩, ⟨e0, e1, e2⟩⟩ := HSS.out v2 g2)
                        | (go_at_call 7; with_reducible refine (HQR.out _ g2).mono ?_; rintro e v3 ⟨rfl, g3⟩; have G3 := hid_mk g3; obtain ⟨⟨c0, c1, c2⟩, ⟨d0, d1, d2⟩, ⟨e0, e1, e2⟩⟩ := HSS.out v3 g3))
                      go_meet
                      exact ⟨rfl, G3⟩
                    | true =>
                      have hpr := F2.out rfl rfl
                      subst hpr
                      go_wp2_with (first
                        | (go_at_call 7; with_reducible refine (HPQ.out _ gd).mono ?_; rintro e v1 ⟨rfl, g1⟩; obtain ⟨⟨c0, c1, c2⟩, ⟨d0, d1, d2⟩, ⟨e0, e1, e2⟩⟩ := HSS.out v1 g1)
                        | (go_at_call 7; with_reducible refine (HQP.out _ g1).mono ?_; rintro e v2 ⟨rfl, g2⟩; obtain ⟨⟨c0, c1, c2⟩, ⟨d0, d1, d2⟩, ⟨e0, e1, e2⟩⟩ := HSS.out v2 g2)
                        | (go_at_call 7; with_reducible refine (HQR.out _ g2).mono ?_; rintro e v3 ⟨rfl, g3⟩; obtain ⟨⟨c0, c1, c2⟩, ⟨d0, d1, d2⟩, ⟨e0, e1, e2⟩⟩ := HSS.out v3 g3)
                        | (go_at_call 7; with_reducible refine (HPR.out _ g3).mono ?_; rintro e v4 ⟨rfl, g4⟩; have G4 := hid_mk g4; obtain ⟨⟨c0, c1, c2⟩, ⟨d0, d1, d2⟩, ⟨e0, e1, e2⟩⟩ := HSS.out v4 g4))
                      go_meet
                      exact ⟨rfl, G4⟩
                case rest =>
                  obtain ⟨rfl, HB5⟩ := hcut
                  have HSA : Hid (∀ w, Below _ _ w → (w.cell? ⟨b1, 0, none⟩ = some (.int .i64 xa) ∧ w.cell? ⟨b1, 1, none⟩ = some (.int .i64 xb) ∧ w.cell? ⟨b1, 2, none⟩ = some (.int .i64 xc)) ∧ (w.cell? ⟨b2, 0, none⟩ = some (.int .i64 ya) ∧ w.cell? ⟨b2, 1, none⟩ = some (.int .i64 yb) ∧ w.cell? ⟨b2, 2, none⟩ = some (.int .i64 yc))) := fun w hw => ⟨(HSS.out w hw).1, (HSS.out w hw).2.1⟩
                  have hd := HB5.out
                  have he := hd.drew
                  clear c0 c1 c2 d0 d1 d2 e0 e1 e2 HSS HQR HPR F2 gd HB5
                  go_upto_region 33 with (fail)
                  by_cases hne : xa = ya
                  · subst hne
                    by_cases hne : xb = yb
                    · subst hne
                      by_cases hne : xc = yc
                      · subst hne
                        have hpq : pq = false ∧ qp = false := by have := F3.out; simpa using this
                        obtain ⟨rfl, rfl⟩ := hpq
                        clear F1 F3
                        go_region_held3 (fun w => (w.cell? ⟨b1, 0, none⟩ = some (.int .i64 xa) ∧ w.cell? ⟨b1, 1, none⟩ = some (.int .i64 xb) ∧ w.cell? ⟨b1, 2, none⟩ = some (.int .i64 xc)) ∧ (w.cell? ⟨b2, 0, none⟩ = some (.int .i64 xa) ∧ w.cell? ⟨b2, 1, none⟩ = some (.int .i64 xb) ∧ w.cell? ⟨b2, 2, none⟩ = some (.int .i64 xc))) (first | with_reducible exact HSA.out _ hd | with_reducible exact HSA.out _ he | with_reducible exact HSA.out _ g1 | with_reducible exact HSA.out _ g2 | with_reducible exact HSA.out _ g3)
                          (first
                            | (go_at_call 7; with_reducible refine (HPQ.out _ he).mono ?_; rintro e v1 ⟨rfl, g1⟩)
                            | (go_at_call 7; with_reducible refine (HQP.out _ g1).mono ?_; rintro e v2 ⟨rfl, g2⟩)
                            | (go_at_call 4; with_reducible refine (HLV.out _ g2).mono ?_; rintro e v3 ⟨rfl, g3⟩))
                        have HE := hid_mk (HFIN2.out _ g3)
                        clear hd he g1 g2 g3 HSA
                        go_wp2
                        go_ret
                        exact ⟨rfl, HE.out⟩
                      · skip
                        clear F1
                        cases pq with
                        | true =>
                          clear F3
                          refine wp_region_held_drew (S := fun w => (w.cell? ⟨b1, 0, none⟩ = some (.int .i64 xa) ∧ w.cell? ⟨b1, 1, none⟩ = some (.int .i64 xb) ∧ w.cell? ⟨b1, 2, none⟩ = some (.int .i64 xc)) ∧ (w.cell? ⟨b2, 0, none⟩ = some (.int .i64 xa) ∧ w.cell? ⟨b2, 1, none⟩ = some (.int .i64 xb) ∧ w.cell? ⟨b2, 2, none⟩ = some (.int .i64 yc))) (by kernel_rfl) (HSA.out _ he) (fun hHeld => ?_)
                          refine wpAnyH_take (i := 0) (oi := { dst := some 125, op := Op.load 23 (Operand.tmp 16), type := 23, pos := "law.go:127", after := #[], guard := none }) (v := ?_) rfl (by kernel_rfl) (by kernel_rfl) (by kernel_rfl) (fun _ _ _ h => h) (Or.inl ⟨by rfl, ?_⟩) (by assumption) ?_
                          rotate_left
                          · intro w hSw
                            (try dsimp only at hSw)
                            go_simp
                            try with_reducible rfl
                          try simp only [Act.put, List.setIfInBounds_toArray, List.set_cons_zero, List.set_cons_succ]
                          refine wpAnyH_take (i := 1) (oi := { dst := some 126, op := Op.load 23 (Operand.tmp 17), type := 23, pos := "law.go:127", after := #[], guard := none }) (v := ?_) rfl (by kernel_rfl) (by kernel_rfl) (by kernel_rfl) (fun _ _ _ h => h) (Or.inl ⟨by rfl, ?_⟩) (by assumption) ?_
                          rotate_left
                          · intro w hSw
                            (try dsimp only at hSw)
                            go_simp
                            try with_reducible rfl
                          try simp only [Act.put, List.setIfInBounds_toArray, List.set_cons_zero, List.set_cons_succ]
                          refine wpAnyH_take (i := 8) (oi := { dst := some 133, op := Op.load 23 (Operand.tmp 16), type := 23, pos := "law.go:127", after := #[], guard := none }) (v := ?_) rfl (by kernel_rfl) (by kernel_rfl) (by kernel_rfl) (fun _ _ _ h => h) (Or.inl ⟨by rfl, ?_⟩) (by assumption) ?_
                          rotate_left
                          · intro w hSw
                            (try dsimp only at hSw)
                            go_simp
                            try with_reducible rfl
                          try simp only [Act.put, List.setIfInBounds_toArray, List.set_cons_zero, List.set_cons_succ]
                          refine wpAnyH_take (i := 9) (oi := { dst := some 134, op := Op.load 23 (Operand.tmp 17), type := 23, pos := "law.go:127", after := #[], guard := none }) (v := ?_) rfl (by kernel_rfl) (by kernel_rfl) (by kernel_rfl) (fun _ _ _ h => h) (Or.inl ⟨by rfl, ?_⟩) (by assumption) ?_
                          rotate_left
                          · intro w hSw
                            (try dsimp only at hSw)
                            go_simp
                            try with_reducible rfl
                          try simp only [Act.put, List.setIfInBounds_toArray, List.set_cons_zero, List.set_cons_succ]
                          refine wpAnyH_take (i := 10) (oi := { dst := some 135, op := Op.binOp BinOp.neq 23 (Operand.tmp 133) (Operand.tmp 134) 23, type := 4, pos := "law.go:127", after := #[{ on := 8, ground := Ground.data }, { on := 9, ground := Ground.data }], guard := none }) (v := ?_) rfl (by kernel_rfl) (by kernel_rfl) (by kernel_rfl) (fun _ _ _ h => h) (Or.inl ⟨by rfl, ?_⟩) (by assumption) ?_
                          rotate_left
                          · intro w hSw
                            (try dsimp only at hSw)
                            go_simp
                            try with_reducible rfl
                          try simp only [Act.put, List.setIfInBounds_toArray, List.set_cons_zero, List.set_cons_succ]
                          refine wpAnyH_ready (rs := [2]) (by kernel_rfl) (by simp) ?_
                          refine AllReadyH.cons (o := { dst := some 127, op := Op.call { callee := Callee.value (Operand.func 7), args := #[Operand.tmp 125, Operand.tmp 126], argTypes := #[23, 23] }, type := 4, pos := "law.go:127", after := #[{ on := 0, ground := Ground.data }, { on := 1, ground := Ground.data }], guard := none }) rfl (fun K hK => ?_) AllReadyH.nil
                          go_simp
                          refine (HPQ.out _ he).mono ?_
                          rintro e v1 ⟨rfl, g1⟩
                          refine hK.out _ _ (HSA.out _ g1) (fun hHeld => ?_)
                          clear hK K
                          try simp only [Act.put, List.setIfInBounds_toArray, List.set_cons_zero, List.set_cons_succ]
                          refine wpAnyH_take (i := 3) (oi := { dst := some 128, op := Op.move (Operand.tmp 127), type := 4, pos := "law.go:127", after := #[{ on := 2, ground := Ground.data }, { on := 2, ground := Ground.chain }], guard := none }) (v := ?_) rfl (by kernel_rfl) (by kernel_rfl) (by kernel_rfl) (fun _ _ _ h => h) (Or.inl ⟨by rfl, ?_⟩) (by assumption) ?_
                          rotate_left
                          · intro w hSw
                            (try dsimp only at hSw)
                            go_simp
                            try with_reducible rfl
                          try simp only [Act.put, List.setIfInBounds_toArray, List.set_cons_zero, List.set_cons_succ]
                          refine wpAnyH_take (i := 4) (oi := { dst := some 129, op := Op.load 23 (Operand.tmp 17), type := 23, pos := "law.go:127", after := #[{ on := 3, ground := Ground.guard }], guard := some (3, false) }) (v := undef) rfl (by kernel_rfl) (by kernel_rfl) (by kernel_rfl) (fun _ _ _ h => h) (Or.inr ⟨by rfl, rfl⟩) (by assumption) ?_
                          try simp only [Act.put, List.setIfInBounds_toArray, List.set_cons_zero, List.set_cons_succ]
                          refine wpAnyH_take (i := 5) (oi := { dst := some 130, op := Op.load 23 (Operand.tmp 16), type := 23, pos := "law.go:127", after := #[{ on := 3, ground := Ground.guard }], guard := some (3, false) }) (v := undef) rfl (by kernel_rfl) (by kernel_rfl) (by kernel_rfl) (fun _ _ _ h => h) (Or.inr ⟨by rfl, rfl⟩) (by assumption) ?_
                          try simp only [Act.put, List.setIfInBounds_toArray, List.set_cons_zero, List.set_cons_succ]
                          refine wpAnyH_take (i := 6) (oi := { dst := some 131, op := Op.call { callee := Callee.value (Operand.func 7), args := #[Operand.tmp 129, Operand.tmp 130], argTypes := #[23, 23] }, type := 4, pos := "law.go:127", after := #[{ on := 4, ground := Ground.data }, { on := 5, ground := Ground.data }, { on := 3, ground := Ground.chain }, { on := 3, ground := Ground.guard }], guard := some (3, false) }) (v := undef) rfl (by kernel_rfl) (by kernel_rfl) (by kernel_rfl) (fun _ _ _ h => h) (Or.inr ⟨by rfl, rfl⟩) (by assumption) ?_
                          try simp only [Act.put, List.setIfInBounds_toArray, List.set_cons_zero, List.set_cons_succ]
                          refine wpAnyH_take (i := 7) (oi := { dst := some 132, op := Op.pick (Operand.tmp 128) (Operand.const (Value.bool true)) (Operand.tmp 131), type := 4, pos := "law.go:127", after := #[{ on := 3, ground := Ground.data }, { on := 6, ground := Ground.data }], guard := none }) (v := ?_) rfl (by kernel_rfl) (by kernel_rfl) (by kernel_rfl) (fun _ _ _ h => h) (Or.inl ⟨by rfl, ?_⟩) (by assumption) ?_
                          rotate_left
                          · intro w hSw
                            (try dsimp only at hSw)
                            go_simp
                            try with_reducible rfl
                          try simp only [Act.put, List.setIfInBounds_toArray, List.set_cons_zero, List.set_cons_succ]
                          refine wpAnyH_take (i := 11) (oi := { dst := some 136, op := Op.binOp BinOp.eql 4 (Operand.tmp 132) (Operand.tmp 135) 4, type := 4, pos := "law.go:127", after := #[{ on := 7, ground := Ground.data }, { on := 10, ground := Ground.data }], guard := none }) (v := ?_) rfl (by kernel_rfl) (by kernel_rfl) (by kernel_rfl) (fun _ _ _ h => h) (Or.inl ⟨by rfl, ?_⟩) (by assumption) ?_
                          rotate_left
                          · intro w hSw
                            (try dsimp only at hSw)
                            go_simp
                            try with_reducible rfl
                          try simp only [Act.put, List.setIfInBounds_toArray, List.set_cons_zero, List.set_cons_succ]
                          refine wpAnyH_take (i := 12) (oi := { dst := some 137, op := Op.move (Operand.tmp 136), type := 4, pos := "law.go:127", after := #[{ on := 11, ground := Ground.data }, { on := 6, ground := Ground.chain }], guard := none }) (v := ?_) rfl (by kernel_rfl) (by kernel_rfl) (by kernel_rfl) (fun _ _ _ h => h) (Or.inl ⟨by rfl, ?_⟩) (by assumption) ?_
                          rotate_left
                          · intro w hSw
                            (try dsimp only at hSw)
                            go_simp
                            try with_reducible rfl
                          try simp only [Act.put, List.setIfInBounds_toArray, List.set_cons_zero, List.set_cons_succ]
                          refine wpAnyH_ready (rs := [13]) (by kernel_rfl) (by simp) ?_
                          refine AllReadyH.cons (o := { dst := some 138, op := Op.call { callee := Callee.value (Operand.func 4), args := #[], argTypes := #[] }, type := 4, pos := "law.go:127", after := #[{ on := 12, ground := Ground.chain }, { on := 12, ground := Ground.guard }], guard := some (12, true) }) rfl (fun K hK => ?_) AllReadyH.nil
                          go_simp
                          refine (HLV.out _ g1).mono ?_
                          rintro e v3 ⟨rfl, g3⟩
                          refine hK.out _ _ (HSA.out _ g3) (fun hHeld => ?_)
                          clear hK K
                          try simp only [Act.put, List.setIfInBounds_toArray, List.set_cons_zero, List.set_cons_succ]
                          refine wpAnyH_take (i := 14) (oi := { dst := some 139, op := Op.pick (Operand.tmp 137) (Operand.tmp 138) (Operand.const (Value.bool false)), type := 4, pos := "law.go:127", after := #[{ on := 12, ground := Ground.data }, { on := 13, ground := Ground.data }], guard := none }) (v := ?_) rfl (by kernel_rfl) (by kernel_rfl) (by kernel_rfl) (fun _ _ _ h => h) (Or.inl ⟨by rfl, ?_⟩) (by assumption) ?_
                          rotate_left
                          · intro w hSw
                            (try dsimp only at hSw)
                            go_simp
                            try with_reducible rfl
                          try simp only [Act.put, List.setIfInBounds_toArray, List.set_cons_zero, List.set_cons_succ]
                          refine wpAnyH_take (i := 15) (oi := { dst := some 6, op := Op.assign (Operand.tmp 139), type := 4, pos := "law.go:127", after := #[{ on := 14, ground := Ground.data }, { on := 13, ground := Ground.chain }, { on := 0, ground := Ground.phase }, { on := 1, ground := Ground.phase }, { on := 2, ground := Ground.phase }, { on := 3, ground := Ground.phase }, { on := 4, ground := Ground.phase }, { on := 5, ground := Ground.phase }, { on := 6, ground := Ground.phase }, { on := 7, ground := Ground.phase }, { on := 8, ground := Ground.phase }, { on := 9, ground := Ground.phase }, { on := 10, ground := Ground.phase }, { on := 11, ground := Ground.phase }, { on := 12, ground := Ground.phase }, { on := 13, ground := Ground.phase }, { on := 14, ground := Ground.phase }], guard := none }) (v := ?_) rfl (by kernel_rfl) (by kernel_rfl) (by kernel_rfl) (fun _ _ _ h => h) (Or.inl ⟨by rfl, ?_⟩) (by assumption) ?_
                          rotate_left
                          · intro w hSw
                            (try dsimp only at hSw)
                            go_simp
                            try with_reducible rfl
                          try simp only [Act.put, List.setIfInBounds_toArray, List.set_cons_zero, List.set_cons_succ]
                          refine wpAnyH_done (by kernel_rfl) ?_ _
                          have HE := hid_mk (HFIN2.out _ g3)
                          clear hd he g1 g3 HSA hHeld
                          go_wp2
                          go_ret
                          exact ⟨rfl, HE.out⟩
                        | false =>
                          have hqp : qp = true := by
                            have h0 := F3.out
                            have hb := bne_iff_ne.2 hne
                            simpa [hb] using h0
                          subst hqp
                          clear F3
                          go_region_held3 (fun w => (w.cell? ⟨b1, 0, none⟩ = some (.int .i64 xa) ∧ w.cell? ⟨b1, 1, none⟩ = some (.int .i64 xb) ∧ w.cell? ⟨b1, 2, none⟩ = some (.int .i64 xc)) ∧ (w.cell? ⟨b2, 0, none⟩ = some (.int .i64 xa) ∧ w.cell? ⟨b2, 1, none⟩ = some (.int .i64 xb) ∧ w.cell? ⟨b2, 2, none⟩ = some (.int .i64 yc))) (first | with_reducible exact HSA.out _ hd | with_reducible exact HSA.out _ he | with_reducible exact HSA.out _ g1 | with_reducible exact HSA.out _ g2 | with_reducible exact HSA.out _ g3)
                            (first
                              | (go_at_call 7; with_reducible refine (HPQ.out _ he).mono ?_; rintro e v1 ⟨rfl, g1⟩)
                              | (go_at_call 7; with_reducible refine (HQP.out _ g1).mono ?_; rintro e v2 ⟨rfl, g2⟩)
                              | (go_at_call 4; with_reducible refine (HLV.out _ g2).mono ?_; rintro e v3 ⟨rfl, g3⟩))
                          have HE := hid_mk (HFIN2.out _ g3)
                          clear hd he g1 g2 g3 HSA
                          go_wp2
                          go_ret
                          exact ⟨rfl, HE.out⟩
                    · skip
                      clear F1
                      cases pq with
                      | true =>
                        clear F3
                        refine wp_region_held_drew (S := fun w => (w.cell? ⟨b1, 0, none⟩ = some (.int .i64 xa) ∧ w.cell? ⟨b1, 1, none⟩ = some (.int .i64 xb) ∧ w.cell? ⟨b1, 2, none⟩ = some (.int .i64 xc)) ∧ (w.cell? ⟨b2, 0, none⟩ = some (.int .i64 xa) ∧ w.cell? ⟨b2, 1, none⟩ = some (.int .i64 yb) ∧ w.cell? ⟨b2, 2, none⟩ = some (.int .i64 yc))) (by kernel_rfl) (HSA.out _ he) (fun hHeld => ?_)
                        refine wpAnyH_take (i := 0) (oi := { dst := some 125, op := Op.load 23 (Operand.tmp 16), type := 23, pos := "law.go:127", after := #[], guard := none }) (v := ?_) rfl (by kernel_rfl) (by kernel_rfl) (by kernel_rfl) (fun _ _ _ h => h) (Or.inl ⟨by rfl, ?_⟩) (by assumption) ?_
                        rotate_left
                        · intro w hSw
                          (try dsimp only at hSw)
                          go_simp
                          try with_reducible rfl
                        try simp only [Act.put, List.setIfInBounds_toArray, List.set_cons_zero, List.set_cons_succ]
                        refine wpAnyH_take (i := 1) (oi := { dst := some 126, op := Op.load 23 (Operand.tmp 17), type := 23, pos := "law.go:127", after := #[], guard := none }) (v := ?_) rfl (by kernel_rfl) (by kernel_rfl) (by kernel_rfl) (fun _ _ _ h => h) (Or.inl ⟨by rfl, ?_⟩) (by assumption) ?_
                        rotate_left
                        · intro w hSw
                          (try dsimp only at hSw)
                          go_simp
                          try with_reducible rfl
                        try simp only [Act.put, List.setIfInBounds_toArray, List.set_cons_zero, List.set_cons_succ]
                        refine wpAnyH_take (i := 8) (oi := { dst := some 133, op := Op.load 23 (Operand.tmp 16), type := 23, pos := "law.go:127", after := #[], guard := none }) (v := ?_) rfl (by kernel_rfl) (by kernel_rfl) (by kernel_rfl) (fun _ _ _ h => h) (Or.inl ⟨by rfl, ?_⟩) (by assumption) ?_
                        rotate_left
                        · intro w hSw
                          (try dsimp only at hSw)
                          go_simp
                          try with_reducible rfl
                        try simp only [Act.put, List.setIfInBounds_toArray, List.set_cons_zero, List.set_cons_succ]
                        refine wpAnyH_take (i := 9) (oi := { dst := some 134, op := Op.load 23 (Operand.tmp 17), type := 23, pos := "law.go:127", after := #[], guard := none }) (v := ?_) rfl (by kernel_rfl) (by kernel_rfl) (by kernel_rfl) (fun _ _ _ h => h) (Or.inl ⟨by rfl, ?_⟩) (by assumption) ?_
                        rotate_left
                        · intro w hSw
                          (try dsimp only at hSw)
                          go_simp
                          try with_reducible rfl
                        try simp only [Act.put, List.setIfInBounds_toArray, List.set_cons_zero, List.set_cons_succ]
                        refine wpAnyH_take (i := 10) (oi := { dst := some 135, op := Op.binOp BinOp.neq 23 (Operand.tmp 133) (Operand.tmp 134) 23, type := 4, pos := "law.go:127", after := #[{ on := 8, ground := Ground.data }, { on := 9, ground := Ground.data }], guard := none }) (v := ?_) rfl (by kernel_rfl) (by kernel_rfl) (by kernel_rfl) (fun _ _ _ h => h) (Or.inl ⟨by rfl, ?_⟩) (by assumption) ?_
                        rotate_left
                        · intro w hSw
                          (try dsimp only at hSw)
                          go_simp
                          try with_reducible rfl
                        try simp only [Act.put, List.setIfInBounds_toArray, List.set_cons_zero, List.set_cons_succ]
                        refine wpAnyH_ready (rs := [2]) (by kernel_rfl) (by simp) ?_
                        refine AllReadyH.cons (o := { dst := some 127, op := Op.call { callee := Callee.value (Operand.func 7), args := #[Operand.tmp 125, Operand.tmp 126], argTypes := #[23, 23] }, type := 4, pos := "law.go:127", after := #[{ on := 0, ground := Ground.data }, { on := 1, ground := Ground.data }], guard := none }) rfl (fun K hK => ?_) AllReadyH.nil
                        go_simp
                        refine (HPQ.out _ he).mono ?_
                        rintro e v1 ⟨rfl, g1⟩
                        refine hK.out _ _ (HSA.out _ g1) (fun hHeld => ?_)
                        clear hK K
                        try simp only [Act.put, List.setIfInBounds_toArray, List.set_cons_zero, List.set_cons_succ]
                        refine wpAnyH_take (i := 3) (oi := { dst := some 128, op := Op.move (Operand.tmp 127), type := 4, pos := "law.go:127", after := #[{ on := 2, ground := Ground.data }, { on := 2, ground := Ground.chain }], guard := none }) (v := ?_) rfl (by kernel_rfl) (by kernel_rfl) (by kernel_rfl) (fun _ _ _ h => h) (Or.inl ⟨by rfl, ?_⟩) (by assumption) ?_
                        rotate_left
                        · intro w hSw
                          (try dsimp only at hSw)
                          go_simp
                          try with_reducible rfl
                        try simp only [Act.put, List.setIfInBounds_toArray, List.set_cons_zero, List.set_cons_succ]
                        refine wpAnyH_take (i := 4) (oi := { dst := some 129, op := Op.load 23 (Operand.tmp 17), type := 23, pos := "law.go:127", after := #[{ on := 3, ground := Ground.guard }], guard := some (3, false) }) (v := undef) rfl (by kernel_rfl) (by kernel_rfl) (by kernel_rfl) (fun _ _ _ h => h) (Or.inr ⟨by rfl, rfl⟩) (by assumption) ?_
                        try simp only [Act.put, List.setIfInBounds_toArray, List.set_cons_zero, List.set_cons_succ]
                        refine wpAnyH_take (i := 5) (oi := { dst := some 130, op := Op.load 23 (Operand.tmp 16), type := 23, pos := "law.go:127", after := #[{ on := 3, ground := Ground.guard }], guard := some (3, false) }) (v := undef) rfl (by kernel_rfl) (by kernel_rfl) (by kernel_rfl) (fun _ _ _ h => h) (Or.inr ⟨by rfl, rfl⟩) (by assumption) ?_
                        try simp only [Act.put, List.setIfInBounds_toArray, List.set_cons_zero, List.set_cons_succ]
                        refine wpAnyH_take (i := 6) (oi := { dst := some 131, op := Op.call { callee := Callee.value (Operand.func 7), args := #[Operand.tmp 129, Operand.tmp 130], argTypes := #[23, 23] }, type := 4, pos := "law.go:127", after := #[{ on := 4, ground := Ground.data }, { on := 5, ground := Ground.data }, { on := 3, ground := Ground.chain }, { on := 3, ground := Ground.guard }], guard := some (3, false) }) (v := undef) rfl (by kernel_rfl) (by kernel_rfl) (by kernel_rfl) (fun _ _ _ h => h) (Or.inr ⟨by rfl, rfl⟩) (by assumption) ?_
                        try simp only [Act.put, List.setIfInBounds_toArray, List.set_cons_zero, List.set_cons_succ]
                        refine wpAnyH_take (i := 7) (oi := { dst := some 132, op := Op.pick (Operand.tmp 128) (Operand.const (Value.bool true)) (Operand.tmp 131), type := 4, pos := "law.go:127", after := #[{ on := 3, ground := Ground.data }, { on := 6, ground := Ground.data }], guard := none }) (v := ?_) rfl (by kernel_rfl) (by kernel_rfl) (by kernel_rfl) (fun _ _ _ h => h) (Or.inl ⟨by rfl, ?_⟩) (by assumption) ?_
                        rotate_left
                        · intro w hSw
                          (try dsimp only at hSw)
                          go_simp
                          try with_reducible rfl
                        try simp only [Act.put, List.setIfInBounds_toArray, List.set_cons_zero, List.set_cons_succ]
                        refine wpAnyH_take (i := 11) (oi := { dst := some 136, op := Op.binOp BinOp.eql 4 (Operand.tmp 132) (Operand.tmp 135) 4, type := 4, pos := "law.go:127", after := #[{ on := 7, ground := Ground.data }, { on := 10, ground := Ground.data }], guard := none }) (v := ?_) rfl (by kernel_rfl) (by kernel_rfl) (by kernel_rfl) (fun _ _ _ h => h) (Or.inl ⟨by rfl, ?_⟩) (by assumption) ?_
                        rotate_left
                        · intro w hSw
                          (try dsimp only at hSw)
                          go_simp
                          try with_reducible rfl
                        try simp only [Act.put, List.setIfInBounds_toArray, List.set_cons_zero, List.set_cons_succ]
                        refine wpAnyH_take (i := 12) (oi := { dst := some 137, op := Op.move (Operand.tmp 136), type := 4, pos := "law.go:127", after := #[{ on := 11, ground := Ground.data }, { on := 6, ground := Ground.chain }], guard := none }) (v := ?_) rfl (by kernel_rfl) (by kernel_rfl) (by kernel_rfl) (fun _ _ _ h => h) (Or.inl ⟨by rfl, ?_⟩) (by assumption) ?_
                        rotate_left
                        · intro w hSw
                          (try dsimp only at hSw)
                          go_simp
                          try with_reducible rfl
                        try simp only [Act.put, List.setIfInBounds_toArray, List.set_cons_zero, List.set_cons_succ]
                        refine wpAnyH_ready (rs := [13]) (by kernel_rfl) (by simp) ?_
                        refine AllReadyH.cons (o := { dst := some 138, op := Op.call { callee := Callee.value (Operand.func 4), args := #[], argTypes := #[] }, type := 4, pos := "law.go:127", after := #[{ on := 12, ground := Ground.chain }, { on := 12, ground := Ground.guard }], guard := some (12, true) }) rfl (fun K hK => ?_) AllReadyH.nil
                        go_simp
                        refine (HLV.out _ g1).mono ?_
                        rintro e v3 ⟨rfl, g3⟩
                        refine hK.out _ _ (HSA.out _ g3) (fun hHeld => ?_)
                        clear hK K
                        try simp only [Act.put, List.setIfInBounds_toArray, List.set_cons_zero, List.set_cons_succ]
                        refine wpAnyH_take (i := 14) (oi := { dst := some 139, op := Op.pick (Operand.tmp 137) (Operand.tmp 138) (Operand.const (Value.bool false)), type := 4, pos := "law.go:127", after := #[{ on := 12, ground := Ground.data }, { on := 13, ground := Ground.data }], guard := none }) (v := ?_) rfl (by kernel_rfl) (by kernel_rfl) (by kernel_rfl) (fun _ _ _ h => h) (Or.inl ⟨by rfl, ?_⟩) (by assumption) ?_
                        rotate_left
                        · intro w hSw
                          (try dsimp only at hSw)
                          go_simp
                          try with_reducible rfl
                        try simp only [Act.put, List.setIfInBounds_toArray, List.set_cons_zero, List.set_cons_succ]
                        refine wpAnyH_take (i := 15) (oi := { dst := some 6, op := Op.assign (Operand.tmp 139), type := 4, pos := "law.go:127", after := #[{ on := 14, ground := Ground.data }, { on := 13, ground := Ground.chain }, { on := 0, ground := Ground.phase }, { on := 1, ground := Ground.phase }, { on := 2, ground := Ground.phase }, { on := 3, ground := Ground.phase }, { on := 4, ground := Ground.phase }, { on := 5, ground := Ground.phase }, { on := 6, ground := Ground.phase }, { on := 7, ground := Ground.phase }, { on := 8, ground := Ground.phase }, { on := 9, ground := Ground.phase }, { on := 10, ground := Ground.phase }, { on := 11, ground := Ground.phase }, { on := 12, ground := Ground.phase }, { on := 13, ground := Ground.phase }, { on := 14, ground := Ground.phase }], guard := none }) (v := ?_) rfl (by kernel_rfl) (by kernel_rfl) (by kernel_rfl) (fun _ _ _ h => h) (Or.inl ⟨by rfl, ?_⟩) (by assumption) ?_
                        rotate_left
                        · intro w hSw
                          (try dsimp only at hSw)
                          go_simp
                          try with_reducible rfl
                        try simp only [Act.put, List.setIfInBounds_toArray, List.set_cons_zero, List.set_cons_succ]
                        refine wpAnyH_done (by kernel_rfl) ?_ _
                        have HE := hid_mk (HFIN2.out _ g3)
                        clear hd he g1 g3 HSA hHeld
                        go_wp2
                        go_ret
                        exact ⟨rfl, HE.out⟩
                      | false =>
                        have hqp : qp = true := by
                          have h0 := F3.out
                          have hb := bne_iff_ne.2 hne
                          simpa [hb] using h0
                        subst hqp
                        clear F3
                        go_region_held3 (fun w => (w.cell? ⟨b1, 0, none⟩ = some (.int .i64 xa) ∧ w.cell? ⟨b1, 1, none⟩ = some (.int .i64 xb) ∧ w.cell? ⟨b1, 2, none⟩ = some (.int .i64 xc)) ∧ (w.cell? ⟨b2, 0, none⟩ = some (.int .i64 xa) ∧ w.cell? ⟨b2, 1, none⟩ = some (.int .i64 yb) ∧ w.cell? ⟨b2, 2, none⟩ = some (.int .i64 yc))) (first | with_reducible exact HSA.out _ hd | with_reducible exact HSA.out _ he | with_reducible exact HSA.out _ g1 | with_reducible exact HSA.out _ g2 | with_reducible exact HSA.out _ g3)
                          (first
                            | (go_at_call 7; with_reducible refine (HPQ.out _ he).mono ?_; rintro e v1 ⟨rfl, g1⟩)
                            | (go_at_call 7; with_reducible refine (HQP.out _ g1).mono ?_; rintro e v2 ⟨rfl, g2⟩)
                            | (go_at_call 4; with_reducible refine (HLV.out _ g2).mono ?_; rintro e v3 ⟨rfl, g3⟩))
                        have HE := hid_mk (HFIN2.out _ g3)
                        clear hd he g1 g2 g3 HSA
                        go_wp2
                        go_ret
                        exact ⟨rfl, HE.out⟩
                  · skip
                    clear F1
                    cases pq with
                    | true =>
                      clear F3
                      refine wp_region_held_drew (S := fun w => (w.cell? ⟨b1, 0, none⟩ = some (.int .i64 xa) ∧ w.cell? ⟨b1, 1, none⟩ = some (.int .i64 xb) ∧ w.cell? ⟨b1, 2, none⟩ = some (.int .i64 xc)) ∧ (w.cell? ⟨b2, 0, none⟩ = some (.int .i64 ya) ∧ w.cell? ⟨b2, 1, none⟩ = some (.int .i64 yb) ∧ w.cell? ⟨b2, 2, none⟩ = some (.int .i64 yc))) (by kernel_rfl) (HSA.out _ he) (fun hHeld => ?_)
                      refine wpAnyH_take (i := 0) (oi := { dst := some 125, op := Op.load 23 (Operand.tmp 16), type := 23, pos := "law.go:127", after := #[], guard := none }) (v := ?_) rfl (by kernel_rfl) (by kernel_rfl) (by kernel_rfl) (fun _ _ _ h => h) (Or.inl ⟨by rfl, ?_⟩) (by assumption) ?_
                      rotate_left
                      · intro w hSw
                        (try dsimp only at hSw)
                        go_simp
                        try with_reducible rfl
                      try simp only [Act.put, List.setIfInBounds_toArray, List.set_cons_zero, List.set_cons_succ]
                      refine wpAnyH_take (i := 1) (oi := { dst := some 126, op := Op.load 23 (Operand.tmp 17), type := 23, pos := "law.go:127", after := #[], guard := none }) (v := ?_) rfl (by kernel_rfl) (by kernel_rfl) (by kernel_rfl) (fun _ _ _ h => h) (Or.inl ⟨by rfl, ?_⟩) (by assumption) ?_
                      rotate_left
                      · intro w hSw
                        (try dsimp only at hSw)
                        go_simp
                        try with_reducible rfl
                      try simp only [Act.put, List.setIfInBounds_toArray, List.set_cons_zero, List.set_cons_succ]
                      refine wpAnyH_take (i := 8) (oi := { dst := some 133, op := Op.load 23 (Operand.tmp 16), type := 23, pos := "law.go:127", after := #[], guard := none }) (v := ?_) rfl (by kernel_rfl) (by kernel_rfl) (by kernel_rfl) (fun _ _ _ h => h) (Or.inl ⟨by rfl, ?_⟩) (by assumption) ?_
                      rotate_left
                      · intro w hSw
                        (try dsimp only at hSw)
                        go_simp
                        try with_reducible rfl
                      try simp only [Act.put, List.setIfInBounds_toArray, List.set_cons_zero, List.set_cons_succ]
                      refine wpAnyH_take (i := 9) (oi := { dst := some 134, op := Op.load 23 (Operand.tmp 17), type := 23, pos := "law.go:127", after := #[], guard := none }) (v := ?_) rfl (by kernel_rfl) (by kernel_rfl) (by kernel_rfl) (fun _ _ _ h => h) (Or.inl ⟨by rfl, ?_⟩) (by assumption) ?_
                      rotate_left
                      · intro w hSw
                        (try dsimp only at hSw)
                        go_simp
                        try with_reducible rfl
                      try simp only [Act.put, List.setIfInBounds_toArray, List.set_cons_zero, List.set_cons_succ]
                      refine wpAnyH_take (i := 10) (oi := { dst := some 135, op := Op.binOp BinOp.neq 23 (Operand.tmp 133) (Operand.tmp 134) 23, type := 4, pos := "law.go:127", after := #[{ on := 8, ground := Ground.data }, { on := 9, ground := Ground.data }], guard := none }) (v := ?_) rfl (by kernel_rfl) (by kernel_rfl) (by kernel_rfl) (fun _ _ _ h => h) (Or.inl ⟨by rfl, ?_⟩) (by assumption) ?_
                      rotate_left
                      · intro w hSw
                        (try dsimp only at hSw)
                        go_simp
                        try with_reducible rfl
                      try simp only [Act.put, List.setIfInBounds_toArray, List.set_cons_zero, List.set_cons_succ]
                      refine wpAnyH_ready (rs := [2]) (by kernel_rfl) (by simp) ?_
                      refine AllReadyH.cons (o := { dst := some 127, op := Op.call { callee := Callee.value (Operand.func 7), args := #[Operand.tmp 125, Operand.tmp 126], argTypes := #[23, 23] }, type := 4, pos := "law.go:127", after := #[{ on := 0, ground := Ground.data }, { on := 1, ground := Ground.data }], guard := none }) rfl (fun K hK => ?_) AllReadyH.nil
                      go_simp
                      refine (HPQ.out _ he).mono ?_
                      rintro e v1 ⟨rfl, g1⟩
                      refine hK.out _ _ (HSA.out _ g1) (fun hHeld => ?_)
                      clear hK K
                      try simp only [Act.put, List.setIfInBounds_toArray, List.set_cons_zero, List.set_cons_succ]
                      refine wpAnyH_take (i := 3) (oi := { dst := some 128, op := Op.move (Operand.tmp 127), type := 4, pos := "law.go:127", after := #[{ on := 2, ground := Ground.data }, { on := 2, ground := Ground.chain }], guard := none }) (v := ?_) rfl (by kernel_rfl) (by kernel_rfl) (by kernel_rfl) (fun _ _ _ h => h) (Or.inl ⟨by rfl, ?_⟩) (by assumption) ?_
                      rotate_left
                      · intro w hSw
                        (try dsimp only at hSw)
                        go_simp
                        try with_reducible rfl
                      try simp only [Act.put, List.setIfInBounds_toArray, List.set_cons_zero, List.set_cons_succ]
                      refine wpAnyH_take (i := 4) (oi := { dst := some 129, op := Op.load 23 (Operand.tmp 17), type := 23, pos := "law.go:127", after := #[{ on := 3, ground := Ground.guard }], guard := some (3, false) }) (v := undef) rfl (by kernel_rfl) (by kernel_rfl) (by kernel_rfl) (fun _ _ _ h => h) (Or.inr ⟨by rfl, rfl⟩) (by assumption) ?_
                      try simp only [Act.put, List.setIfInBounds_toArray, List.set_cons_zero, List.set_cons_succ]
                      refine wpAnyH_take (i := 5) (oi := { dst := some 130, op := Op.load 23 (Operand.tmp 16), type := 23, pos := "law.go:127", after := #[{ on := 3, ground := Ground.guard }], guard := some (3, false) }) (v := undef) rfl (by kernel_rfl) (by kernel_rfl) (by kernel_rfl) (fun _ _ _ h => h) (Or.inr ⟨by rfl, rfl⟩) (by assumption) ?_
                      try simp only [Act.put, List.setIfInBounds_toArray, List.set_cons_zero, List.set_cons_succ]
                      refine wpAnyH_take (i := 6) (oi := { dst := some 131, op := Op.call { callee := Callee.value (Operand.func 7), args := #[Operand.tmp 129, Operand.tmp 130], argTypes := #[23, 23] }, type := 4, pos := "law.go:127", after := #[{ on := 4, ground := Ground.data }, { on := 5, ground := Ground.data }, { on := 3, ground := Ground.chain }, { on := 3, ground := Ground.guard }], guard := some (3, false) }) (v := undef) rfl (by kernel_rfl) (by kernel_rfl) (by kernel_rfl) (fun _ _ _ h => h) (Or.inr ⟨by rfl, rfl⟩) (by assumption) ?_
                      try simp only [Act.put, List.setIfInBounds_toArray, List.set_cons_zero, List.set_cons_succ]
                      refine wpAnyH_take (i := 7) (oi := { dst := some 132, op := Op.pick (Operand.tmp 128) (Operand.const (Value.bool true)) (Operand.tmp 131), type := 4, pos := "law.go:127", after := #[{ on := 3, ground := Ground.data }, { on := 6, ground := Ground.data }], guard := none }) (v := ?_) rfl (by kernel_rfl) (by kernel_rfl) (by kernel_rfl) (fun _ _ _ h => h) (Or.inl ⟨by rfl, ?_⟩) (by assumption) ?_
                      rotate_left
                      · intro w hSw
                        (try dsimp only at hSw)
                        go_simp
                        try with_reducible rfl
                      try simp only [Act.put, List.setIfInBounds_toArray, List.set_cons_zero, List.set_cons_succ]
                      refine wpAnyH_take (i := 11) (oi := { dst := some 136, op := Op.binOp BinOp.eql 4 (Operand.tmp 132) (Operand.tmp 135) 4, type := 4, pos := "law.go:127", after := #[{ on := 7, ground := Ground.data }, { on := 10, ground := Ground.data }], guard := none }) (v := ?_) rfl (by kernel_rfl) (by kernel_rfl) (by kernel_rfl) (fun _ _ _ h => h) (Or.inl ⟨by rfl, ?_⟩) (by assumption) ?_
                      rotate_left
                      · intro w hSw
                        (try dsimp only at hSw)
                        go_simp
                        try with_reducible rfl
                      try simp only [Act.put, List.setIfInBounds_toArray, List.set_cons_zero, List.set_cons_succ]
                      refine wpAnyH_take (i := 12) (oi := { dst := some 137, op := Op.move (Operand.tmp 136), type := 4, pos := "law.go:127", after := #[{ on := 11, ground := Ground.data }, { on := 6, ground := Ground.chain }], guard := none }) (v := ?_) rfl (by kernel_rfl) (by kernel_rfl) (by kernel_rfl) (fun _ _ _ h => h) (Or.inl ⟨by rfl, ?_⟩) (by assumption) ?_
                      rotate_left
                      · intro w hSw
                        (try dsimp only at hSw)
                        go_simp
                        try with_reducible rfl
                      try simp only [Act.put, List.setIfInBounds_toArray, List.set_cons_zero, List.set_cons_succ]
                      refine wpAnyH_ready (rs := [13]) (by kernel_rfl) (by simp) ?_
                      refine AllReadyH.cons (o := { dst := some 138, op := Op.call { callee := Callee.value (Operand.func 4), args := #[], argTypes := #[] }, type := 4, pos := "law.go:127", after := #[{ on := 12, ground := Ground.chain }, { on := 12, ground := Ground.guard }], guard := some (12, true) }) rfl (fun K hK => ?_) AllReadyH.nil
                      go_simp
                      refine (HLV.out _ g1).mono ?_
                      rintro e v3 ⟨rfl, g3⟩
                      refine hK.out _ _ (HSA.out _ g3) (fun hHeld => ?_)
                      clear hK K
                      try simp only [Act.put, List.setIfInBounds_toArray, List.set_cons_zero, List.set_cons_succ]
                      refine wpAnyH_take (i := 14) (oi := { dst := some 139, op := Op.pick (Operand.tmp 137) (Operand.tmp 138) (Operand.const (Value.bool false)), type := 4, pos := "law.go:127", after := #[{ on := 12, ground := Ground.data }, { on := 13, ground := Ground.data }], guard := none }) (v := ?_) rfl (by kernel_rfl) (by kernel_rfl) (by kernel_rfl) (fun _ _ _ h => h) (Or.inl ⟨by rfl, ?_⟩) (by assumption) ?_
                      rotate_left
                      · intro w hSw
                        (try dsimp only at hSw)
                        go_simp
                        try with_reducible rfl
                      try simp only [Act.put, List.setIfInBounds_toArray, List.set_cons_zero, List.set_cons_succ]
                      refine wpAnyH_take (i := 15) (oi := { dst := some 6, op := Op.assign (Operand.tmp 139), type := 4, pos := "law.go:127", after := #[{ on := 14, ground := Ground.data }, { on := 13, ground := Ground.chain }, { on := 0, ground := Ground.phase }, { on := 1, ground := Ground.phase }, { on := 2, ground := Ground.phase }, { on := 3, ground := Ground.phase }, { on := 4, ground := Ground.phase }, { on := 5, ground := Ground.phase }, { on := 6, ground := Ground.phase }, { on := 7, ground := Ground.phase }, { on := 8, ground := Ground.phase }, { on := 9, ground := Ground.phase }, { on := 10, ground := Ground.phase }, { on := 11, ground := Ground.phase }, { on := 12, ground := Ground.phase }, { on := 13, ground := Ground.phase }, { on := 14, ground := Ground.phase }], guard := none }) (v := ?_) rfl (by kernel_rfl) (by kernel_rfl) (by kernel_rfl) (fun _ _ _ h => h) (Or.inl ⟨by rfl, ?_⟩) (by assumption) ?_
                      rotate_left
                      · intro w hSw
                        (try dsimp only at hSw)
                        go_simp
                        try with_reducible rfl
                      try simp only [Act.put, List.setIfInBounds_toArray, List.set_cons_zero, List.set_cons_succ]
                      refine wpAnyH_done (by kernel_rfl) ?_ _
                      have HE := hid_mk (HFIN2.out _ g3)
                      clear hd he g1 g3 HSA hHeld
                      go_wp2
                      go_ret
                      exact ⟨rfl, HE.out⟩
                    | false =>
                      have hqp : qp = true := by
                        have h0 := F3.out
                        have hb := bne_iff_ne.2 hne
                        simpa [hb] using h0
                      subst hqp
                      clear F3
                      go_region_held3 (fun w => (w.cell? ⟨b1, 0, none⟩ = some (.int .i64 xa) ∧ w.cell? ⟨b1, 1, none⟩ = some (.int .i64 xb) ∧ w.cell? ⟨b1, 2, none⟩ = some (.int .i64 xc)) ∧ (w.cell? ⟨b2, 0, none⟩ = some (.int .i64 ya) ∧ w.cell? ⟨b2, 1, none⟩ = some (.int .i64 yb) ∧ w.cell? ⟨b2, 2, none⟩ = some (.int .i64 yc))) (first | with_reducible exact HSA.out _ hd | with_reducible exact HSA.out _ he | with_reducible exact HSA.out _ g1 | with_reducible exact HSA.out _ g2 | with_reducible exact HSA.out _ g3)
                        (first
                          | (go_at_call 7; with_reducible refine (HPQ.out _ he).mono ?_; rintro e v1 ⟨rfl, g1⟩)
                          | (go_at_call 7; with_reducible refine (HQP.out _ g1).mono ?_; rintro e v2 ⟨rfl, g2⟩)
                          | (go_at_call 4; with_reducible refine (HLV.out _ g2).mono ?_; rintro e v3 ⟨rfl, g3⟩))
                      have HE := hid_mk (HFIN2.out _ g3)
                      clear hd he g1 g2 g3 HSA
                      go_wp2
                      go_ret
                      exact ⟨rfl, HE.out⟩
end Go.Proofs.YtdibldcnklgcjaaGreatDoor.L
namespace Go.Proofs.YtdibldcnklgcjaaGreatDoor.L
open Go.ChangeShapes Go.WideShapes Go.ChangeAt Go.RowKit
set_option maxRecDepth 100000

theorem q3 : Tryz.prog.cellsOf 3 = 1 := by kernel_rfl
theorem q23 : Tryz.prog.cellsOf 23 = 3 := by kernel_rfl
theorem q24 : Tryz.prog.cellsOf 24 = 9 := by kernel_rfl
theorem one_of {a b : Value} (h : [a] = [b]) : a = b := by simpa using h
section
variable {H : Type} {enc : TypeId × Value → H} {W : World} {base : Nat} {sp : Nat → Bool} {held : Bool}
theorem open_s3 {m : Nat} {cs : List Value} {x : DataW H × List MemPlace} (hf : DataW.trod enc Tryz.prog W base sp held m 23 cs = some x) (hl : cs.length = 3) : ∃ s : S3, cs = [.int .i64 s.a, .int .i64 s.b, .int .i64 s.c] := by
  obtain ⟨y0, y1, y2, rfl⟩ : ∃ y0 y1 y2, cs = [y0, y1, y2] := by
    match cs, hl with
    | [a, b, c], _ => exact ⟨a, b, c, rfl⟩
  obtain ⟨xs, n, hmn, hx, hl2, hxl, hel⟩ := DataW.trod_struct Tryz.underlying23 hf
  have h0 := hel 0 _ rfl
  have h1 := hel 1 _ rfl
  have h2 := hel 2 _ rfl
  have hxl3 : xs.length = 3 := hxl
  obtain ⟨x0, x1, x2, rfl⟩ : ∃ x0 x1 x2, xs = [x0, x1, x2] := by
    match xs, hxl3 with
    | [a, b, c], _ => exact ⟨a, b, c, rfl⟩
  obtain ⟨k, a0, b0, _⟩ := DataW.trod_int Tryz.underlying3 h0
  obtain ⟨l, a1, b1, _⟩ := DataW.trod_int Tryz.underlying3 h1
  obtain ⟨o, a2, b2, _⟩ := DataW.trod_int Tryz.underlying3 h2
  have e0 : y0 = .int .i64 k := one_of (by rw [← a0]; show _ = List.take (Tryz.prog.cellsOf 3) _; rw [q3]; rfl)
  have e1 : y1 = .int .i64 l := one_of (by rw [← a1]; show _ = List.take (Tryz.prog.cellsOf 3) _; rw [q3]; rfl)
  have e2 : y2 = .int .i64 o := one_of (by rw [← a2]; show _ = List.take (Tryz.prog.cellsOf 3) _; rw [q3]; rfl)
  exact ⟨⟨k, l, o⟩, by rw [e0, e1, e2]⟩
theorem open_x3 {m : Nat} {cs : List Value} {x : DataW H × List MemPlace} (hf : DataW.trod enc Tryz.prog W base sp held m 24 cs = some x) : ∃ x y z : S3, cs = [.int .i64 x.a, .int .i64 x.b, .int .i64 x.c, .int .i64 y.a, .int .i64 y.b, .int .i64 y.c, .int .i64 z.a, .int .i64 z.b, .int .i64 z.c] := by
  obtain ⟨xs, n, _, hx, hl, hxl, hel⟩ := DataW.trod_array Tryz.underlying24 hf
  rw [q24] at hl
  obtain ⟨y0, y1, y2, y3, y4, y5, y6, y7, y8, rfl⟩ : ∃ y0 y1 y2 y3 y4 y5 y6 y7 y8, cs = [y0, y1, y2, y3, y4, y5, y6, y7, y8] := by
    match cs, hl with
    | [a, b, c, d, e, f, g, h, i], _ => exact ⟨a, b, c, d, e, f, g, h, i, rfl⟩
  have h0 := hel 0 (by omega)
  have h1 := hel 1 (by omega)
  have h2 := hel 2 (by omega)
  rw [q23, List.getElem?_eq_getElem (by omega)] at h0 h1 h2
  obtain ⟨s, e0⟩ := open_s3 h0 rfl
  obtain ⟨t, e1⟩ := open_s3 h1 rfl
  obtain ⟨u, e2⟩ := open_s3 h2 rfl
  simp only [Nat.zero_mul, List.drop_zero, List.take_succ_cons, List.take_zero, List.cons.injEq, and_true, Nat.one_mul, List.drop_succ_cons, Nat.reduceMul] at e0 e1 e2
  obtain ⟨rfl, rfl, rfl⟩ := e0
  obtain ⟨rfl, rfl, rfl⟩ := e1
  obtain ⟨rfl, rfl, rfl⟩ := e2
  exact ⟨s, t, u, rfl⟩
end
end Go.Proofs.YtdibldcnklgcjaaGreatDoor.L
