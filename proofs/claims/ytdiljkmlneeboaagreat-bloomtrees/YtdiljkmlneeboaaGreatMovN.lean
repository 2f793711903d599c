/- dom.Doc's mayMove. dom.Doc's Move. -/
import Derived.Test.YtdiljkmlneeboaaGreatInsN
namespace Go.Proofs.YtdiljkmlneeboaaGreat.N
open Go.RowKit
set_option maxRecDepth 100000

/-- The first thing that is wrong with a Move of an element of so many levels. -/
def movErr (m : M) (id tg i : Int) (h : Nat) : Int := match m id, m tg with
  | some _, some q => if id ∈ ups m tg then 2 else if i < 0 ∨ ((rmv q.ks id).length : Int) < i then 3 else if 512 < (ups m tg).length + h then 5 else 0
  | _, _ => 1
theorem full_ex {uok : List (ByteArray × ByteArray) → Prop} {m : M} {nx : Int} {d : Int → Nat} (I : Inv uok m nx d) {id : Int} {e0 : El} (h0 : m id = some e0) : ∃ h, Full m id h := by
  have hend : lev m id 513 = [] := lev_end I h0 (by omega)
  have : ∀ n, lev m id n = [] → ∃ h, lev m id h = [] ∧ ∀ k, k < h → lev m id k ≠ [] := by
    intro n
    induction n using Nat.strongRecOn with
    | ind n ih =>
      intro hn
      by_cases hx : ∃ k, k < n ∧ lev m id k = []
      · obtain ⟨k, hk, hl⟩ := hx
        exact ih k hk hl
      · exact ⟨n, hn, fun k hk hl => hx ⟨k, hk, hl⟩⟩
  obtain ⟨h, h1, h2⟩ := this 513 hend
  refine ⟨h, ?_, h1, h2⟩
  rcases Nat.eq_zero_or_pos h with rfl | hp
  · simp [lev] at h1
  · exact hp
theorem Full.uniq {m : M} {id : Int} {h k : Nat} (F : Full m id h) (G : Full m id k) : h = k := by
  rcases Nat.lt_trichotomy h k with hl | hl | hl
  · exact absurd F.fin (G.on _ hl)
  · exact hl
  · exact absurd G.fin (F.on _ hl)
theorem rmv_len {l : List Int} {x : Int} (hn : l.Nodup) : (rmv l x).length = l.length - (if x ∈ l then 1 else 0) := by
  rw [rmv, ← hn.erase_eq_filter, List.length_erase]
  split <;> rfl
theorem room_len {uok : List (ByteArray × ByteArray) → Prop} {m : M} {nx : Int} {d : Int → Nat} (I : Inv uok m nx d) {id tg : Int} {e q : El} (he : m id = some e) (hq : m tg = some q) : (e.par = tg → 1 ≤ q.ks.length ∧ ((rmv q.ks id).length : Int) = q.ks.length - 1) ∧ (e.par ≠ tg → (rmv q.ks id).length = q.ks.length) := by
  have hiff : id ∈ q.ks ↔ e.par = tg := by
    constructor
    · intro hx
      obtain ⟨c, hc, hp⟩ := I.kid hq hx
      rw [he] at hc
      cases hc
      exact hp
    · intro hp
      have h1 : id ≠ 1 := by
        rintro rfl
        have := (I.parRoot he).2 rfl
        have := I.lo hq
        omega
      obtain ⟨p, hp', hk⟩ := I.par he h1
      rw [hp, hq] at hp'
      cases hp'
      exact hk
  constructor
  · intro hp
    have hm := hiff.2 hp
    have := List.length_pos_of_mem hm
    rw [rmv_len (I.nd hq), if_pos hm]
    omega
  · intro hp
    rw [rmv_none fun hx => hp (hiff.1 hx)]
set_option maxHeartbeats 4000000 in
theorem mayMove_none {uok : List (ByteArray × ByteArray) → Prop} {w : World} {dp : Value} {m : M} {nx : Int} {d : Int → Nat} (h : Dom w dp m nx) (_I : Inv uok m nx d) (id tg i : Int) (hno : m id = none ∨ m tg = none) : Calls Tryz.prog 58 #[dp, .int .i64 id, .int .i64 tg, .int .i64 i] w fun x w' => x = .returned (.int .i64 1) ∧ Below w.heap.size w w' := by
  cases h1 : m id with
  | none =>
    have hf := dom_find_none h h1
    clear h h1 hno
    go_enter Tryz.func58, Tryz.ntmps58
    go_wp2_with (go_at_call 54; fail)
    refine hf.mono ?_
    rintro x w1 ⟨rfl, hB⟩
    have HB := hid_mk hB
    clear hf hB
    go_wp2
    go_ret
    exact ⟨rfl, HB.out.alloc HB.out.size _⟩
  | some e =>
    have h2 : m tg = none := hno.resolve_left (by rw [h1]; simp)
    have hf := dom_find h h1
    have HF2 : Hid (∀ W, Below w.heap.size w W → _) := fun W hW => dom_find_none (h.keep hW) h2
    have HAL : Hid (∀ (W : World) o, Below w.heap.size w W → Below w.heap.size w (W.alloc o)) := fun W o hW => hW.alloc hW.size o
    clear h h1 h2 hno
    go_enter Tryz.func58, Tryz.ntmps58
    go_wp2_with (go_at_call 54; fail)
    refine hf.mono ?_
    rintro x w1 ⟨s, rfl, _, hB⟩
    have HB := hid_mk hB
    clear hf hB
    go_wp2_with (go_at_call 54; fail)
    refine (HF2.out _ (HAL.out _ _ HB.out)).mono ?_
    rintro x w2 ⟨rfl, hB2⟩
    have HB2 : Hid (Below w.heap.size w w2) := (HAL.out _ _ HB.out).trans (hB2.mono (HAL.out _ _ HB.out).size)
    clear HF2 hB2 HB
    go_wp2
    go_ret
    exact ⟨rfl, HAL.out _ _ HB2.out⟩
set_option maxHeartbeats 4000000 in
theorem mayMove_some {uok : List (ByteArray × ByteArray) → Prop} {w : World} {dp : Value} {m : M} {nx : Int} {d : Int → Nat} (h : Dom w dp m nx) (I : Inv uok m nx d) (id tg i : Int) {e q : El} (he : m id = some e) (hq : m tg = some q) {k : Nat} (F : Full m id k) : Calls Tryz.prog 58 #[dp, .int .i64 id, .int .i64 tg, .int .i64 i] w fun x w' => x = .returned (.int .i64 (movErr m id tg i k)) ∧ Below w.heap.size w w' := by
  have hf := dom_find h he
  have HF2 : Hid (∀ W, Below w.heap.size w W → _) := fun W hW => dom_find (h.keep hW) hq
  have HUP : Hid (∀ W, Below w.heap.size w W → Calls Tryz.prog 86 #[dp, .int .i64 tg] W fun x w' => ∃ a c, x = .returned (.slice a (ups m tg).length c) ∧ Hid (RowAt w' 1 a (ups m tg).length c (intsV (ups m tg))) ∧ Hid (Below W.heap.size W w')) := fun W hW => by
    refine (up_any (h.keep hW) I tg).mono ?_
    rintro x w' ⟨v, rfl, hown, hB⟩
    obtain ⟨a, c, rfl, hr, _⟩ := RowAt.of_owns hown (intsV_one _)
    exact ⟨a, c, rfl, hr, hB⟩
  have HUN : Hid (∀ W, Below w.heap.size w W → Calls Tryz.prog 56 #[dp, .int .i64 id] W fun x w' => ∃ v, x = .returned (.tuple #[v, .int .i64 (k : Nat)]) ∧ Below W.heap.size W w') := fun W hW => by
    refine (under_any (h.keep hW) I he).mono ?_
    rintro x w' ⟨v, k', rfl, hF, hown, hB⟩
    rw [hF.uniq F]
    exact ⟨v, rfl, hB⟩
  have hul : (ups m tg).length ≤ 512 := by rw [ups_len I hq]; exact I.top hq
  have hkb : k ≤ 513 := by
    refine Nat.le_of_not_lt fun hc => ?_
    have := F.on 513 hc
    exact this (lev_end I he (by omega))
  have hHAS : Hid (∀ W a c, RowAt W 1 a (ups m tg).length c (intsV (ups m tg)) → _) := fun W a c hr => hasI (w := W) hr (by omega) id
  obtain ⟨hr1, hr2⟩ := room_len I he hq
  have hql := I.ksLen hq
  have hnxb := I.nxb
  have HR : Hid (movErr m id tg i k = if (ups m tg).contains id = true then 2 else if i < 0 ∨ ((rmv q.ks id).length : Int) < i then 3 else if 512 < (ups m tg).length + k then 5 else 0) := by
    show _ = _
    simp only [movErr, he, hq]
    simp
  generalize movErr m id tg i k = R at *
  generalize (ups m tg).contains id = ct at *
  generalize (rmv q.ks id).length = RM at *
  generalize (ups m tg).length = U at *
  obtain ⟨b, tp, rfl, _⟩ := h
  clear I F he hq
  have HAL : Hid (∀ (W : World) o, Below w.heap.size w W → Below w.heap.size w (W.alloc o)) := fun W o hW => hW.alloc hW.size o
  go_enter Tryz.func58, Tryz.ntmps58
  go_wp2_with (go_at_call 54; fail)
  refine hf.mono ?_
  rintro x w1 ⟨s, rfl, hE1, hB1⟩
  have hpar := hE1.2.2.1
  rw [← hpar] at hr1 hr2
  have HB1 := hid_mk hB1
  obtain ⟨W1, hW1⟩ : ∃ W1, W1 = w1.alloc (.cells #[.int .i64 s.id, .string s.tag, .int .i64 s.par, .slice s.ka s.kn s.kc, .slice s.aa s.an s.ac] 76) := ⟨_, rfl⟩
  have hBW1 : Below w.heap.size w W1 := by rw [hW1]; exact HAL.out _ _ hB1
  have hN1 : NodeAt W1 w1.heap.size s := by rw [hW1]; exact heap_alloc_last w1 _
  have hf2 := HF2.out W1 hBW1
  have HW1 := hid_mk hW1
  clear hf hpar hE1 HF2 hB1 hW1
  go_wp2_with (go_at_call 54; fail)
  rw [← HW1.out]
  refine hf2.mono ?_
  rintro x w2 ⟨t, rfl, hE2, hB2⟩
  have hkn := hE2.kn
  rw [← hkn] at hr1 hr2 hql
  obtain ⟨W2, hW2⟩ : ∃ W2, W2 = w2.alloc (.cells #[.int .i64 t.id, .string t.tag, .int .i64 t.par, .slice t.ka t.kn t.kc, .slice t.aa t.an t.ac] 76) := ⟨_, rfl⟩
  have hB12 : Below W1.heap.size W1 W2 := by rw [hW2]; exact hB2.alloc hB2.size _
  have hBW2 : Below w.heap.size w W2 := hBW1.trans (hB12.mono hBW1.size)
  have hN2 : NodeAt W2 w2.heap.size t := by rw [hW2]; exact heap_alloc_last w2 _
  have hN12 : NodeAt W2 w1.heap.size s := (hB12.block _ (Array.getElem?_eq_some_iff.1 hN1).1).trans hN1
  have HW2 := hid_mk hW2
  clear hf2 hkn hE2 hB2 hW2 hN1 hB12
  go_upto_region 7 with (fail)
  rw [← HW2.out]
  obtain ⟨⟨_, _, _, k3, _⟩, _, _, _, _, _, hl2⟩ := hN2.cells
  obtain ⟨⟨_, _, j2, _, _⟩, _, _, _, _, _, hl1⟩ := hN12.cells
  have HFF : Hid (∀ W, Below W2.heap.size W2 W → W.cell? ⟨w2.heap.size, 3, none⟩ = some (.slice t.ka t.kn t.kc)) := fun W hW => (hW.cell (p := ⟨w2.heap.size, 3, none⟩) hl2).trans k3
  have HPP : Hid (∀ W, Below W2.heap.size W2 W → W.cell? ⟨w1.heap.size, 2, none⟩ = some (.int .i64 s.par)) := fun W hW => (hW.cell (p := ⟨w1.heap.size, 2, none⟩) hl1).trans j2
  have g0 : Below W2.heap.size W2 W2 := Below.refl _ _
  have gd : Below W2.heap.size W2 W2.drew := (Below.refl _ _).drew
  have HU2 : Hid (∀ W, Below W2.heap.size W2 W → Calls Tryz.prog 86 #[.pointer (some ⟨b, 0, none⟩), .int .i64 tg] W fun x w' => ∃ a c, x = .returned (.slice a U c) ∧ Hid (RowAt w' 1 a U c (intsV (ups m tg))) ∧ Below W2.heap.size W2 w') := fun W hW => by
    refine (HUP.out W (hBW2.trans (hW.mono hBW2.size))).mono ?_
    rintro x w' ⟨a, c, rfl, hr, hB⟩
    exact ⟨a, c, rfl, hr, hW.trans (hB.out.mono hW.size)⟩
  have HBW2 := hid_mk hBW2
  have hr1' := hid_mk hr1
  have hr2' := hid_mk hr2
  clear hN2 hN12 HUP hr1 hr2 hBW1 hBW2
  go_region_held3 (fun w' => w'.cell? ⟨w2.heap.size, 3, none⟩ = some (.slice t.ka t.kn t.kc))
    (first | with_reducible exact HFF.out _ g0 | with_reducible exact HFF.out _ gd | with_reducible exact HFF.out _ g3)
    (first
    | (go_at_call 86; with_reducible refine (HU2.out _ gd).mono ?_; rintro x w3 ⟨a, c, rfl, HRW, g3⟩))
  have j3 := HPP.out w3 g3
  have HB3 : Hid (Below w.heap.size w w3) := HBW2.out.trans (g3.mono HBW2.out.size)
  have hun := HUN.out w3 HB3.out
  have hhas := hHAS.out w3 a c HRW.out
  clear HU2 HFF HPP HUN hHAS k3 j2 gd g0 g3
  by_cases hpt : s.par = tg
  · obtain ⟨hp1, hp2⟩ := hr1'.out hpt
    have hb : (s.par == tg) = true := by simpa using hpt
    have HPT := hid_mk hpt
    clear hpt hr1' hr2'
    go_wp2_with (go_at_call 94; fail)
    refine hhas.mono ?_
    rintro x w3' ⟨rfl, rfl⟩
    clear hhas
    cases ct with
    | true =>
      have HRR : Hid (R = 2) := by have := HR.out; rw [if_pos rfl] at this; exact this
      go_wp2
      go_ret
      exact ⟨by rw [HRR.out]; rfl, HB3.out⟩
    | false =>
      have HR2 : Hid (R = if i < 0 ∨ (RM : Int) < i then 3 else if 512 < U + k then 5 else 0) := by have := HR.out; rw [if_neg (by decide)] at this; exact this
      by_cases h1 : i < 0
      · have HRR : Hid (R = 3) := by have := HR2.out; rw [if_pos (.inl h1)] at this; exact this
        go_wp2
        go_ret
        exact ⟨by rw [HRR.out]; rfl, HB3.out⟩
      · by_cases h2 : (t.kn : Int) - 1 < i
        · have HRR : Hid (R = 3) := by have := HR2.out; rw [if_pos (.inr (by omega))] at this; exact this
          go_wp2
          go_ret
          exact ⟨by rw [HRR.out]; rfl, HB3.out⟩
        · have HR3 : Hid (R = if 512 < U + k then 5 else 0) := by have := HR2.out; rw [if_neg (by omega)] at this; exact this
          go_wp2_with (go_at_call 56; fail)
          refine hun.mono ?_
          rintro x w4 ⟨v4, rfl, hB4⟩
          have HB4 : Hid (Below w.heap.size w w4) := HB3.out.trans (hB4.mono HB3.out.size)
          clear hun hB4 j3
          by_cases h5 : 512 < U + k
          · have HRR : Hid (R = 5) := by have := HR3.out; rw [if_pos h5] at this; exact this
            go_wp2
            go_ret
            exact ⟨by rw [HRR.out]; rfl, HB4.out⟩
          · have HRR : Hid (R = 0) := by have := HR3.out; rw [if_neg h5] at this; exact this
            go_wp2
            go_ret
            exact ⟨by rw [HRR.out]; rfl, HB4.out⟩
  · have hp2 := hr2'.out hpt
    have hb : (s.par == tg) = false := by simpa using hpt
    have hp3 : (RM : Int) ≤ t.kn ∧ (t.kn : Int) ≤ RM := by omega
    clear hr1' hr2' hp2
    go_wp2_with (go_at_call 94; fail)
    refine hhas.mono ?_
    rintro x w3' ⟨rfl, rfl⟩
    clear hhas
    cases ct with
    | true =>
      have HRR : Hid (R = 2) := by have := HR.out; rw [if_pos rfl] at this; exact this
      go_wp2
      go_ret
      exact ⟨by rw [HRR.out]; rfl, HB3.out⟩
    | false =>
      have HR2 : Hid (R = if i < 0 ∨ (RM : Int) < i then 3 else if 512 < U + k then 5 else 0) := by have := HR.out; rw [if_neg (by decide)] at this; exact this
      by_cases h1 : i < 0
      · have HRR : Hid (R = 3) := by have := HR2.out; rw [if_pos (.inl h1)] at this; exact this
        go_wp2
        go_ret
        exact ⟨by rw [HRR.out]; rfl, HB3.out⟩
      · by_cases h2 : (t.kn : Int) < i
        · have HRR : Hid (R = 3) := by have := HR2.out; rw [if_pos (.inr (by omega))] at this; exact this
          go_wp2
          go_ret
          exact ⟨by rw [HRR.out]; rfl, HB3.out⟩
        · have HR3 : Hid (R = if 512 < U + k then 5 else 0) := by have := HR2.out; rw [if_neg (by omega)] at this; exact this
          go_wp2_with (go_at_call 56; fail)
          refine hun.mono ?_
          rintro x w4 ⟨v4, rfl, hB4⟩
          have HB4 : Hid (Below w.heap.size w w4) := HB3.out.trans (hB4.mono HB3.out.size)
          clear hun hB4 j3
          by_cases h5 : 512 < U + k
          · have HRR : Hid (R = 5) := by have := HR3.out; rw [if_pos h5] at this; exact this
            go_wp2
            go_ret
            exact ⟨by rw [HRR.out]; rfl, HB4.out⟩
          · have HRR : Hid (R = 0) := by have := HR3.out; rw [if_neg h5] at this; exact this
            go_wp2
            go_ret
            exact ⟨by rw [HRR.out]; rfl, HB4.out⟩
theorem mayMove_any {uok : List (ByteArray × ByteArray) → Prop} {w : World} {dp : Value} {m : M} {nx : Int} {d : Int → Nat} (h : Dom w dp m nx) (I : Inv uok m nx d) (id tg i : Int) {k : Nat} (F : m id ≠ none → Full m id k) : Calls Tryz.prog 58 #[dp, .int .i64 id, .int .i64 tg, .int .i64 i] w fun x w' => x = .returned (.int .i64 (movErr m id tg i k)) ∧ Below w.heap.size w w' := by
  cases he : m id with
  | none =>
    have := mayMove_none h I id tg i (.inl he)
    simpa only [movErr, he] using this
  | some e =>
    cases hq : m tg with
    | none =>
      have := mayMove_none h I id tg i (.inr hq)
      simpa only [movErr, he, hq] using this
    | some q => exact mayMove_some h I id tg i he hq (F (by rw [he]; simp))

end Go.Proofs.YtdiljkmlneeboaaGreat.N
namespace Go.Proofs.YtdiljkmlneeboaaGreat.N
open Go.RowKit
set_option maxRecDepth 100000

theorem idx_mem {l : List Int} {x : Int} (hn : l.Nodup) (hx : x ∈ l) : ∃ k, k < l.length ∧ Lib.idxOf l x = (k : Nat) ∧ l.take k ++ l.drop (k + 1) = rmv l x := by
  obtain ⟨k, hk, he⟩ := List.getElem_of_mem hx
  have hg : l[k]? = some x := by rw [List.getElem?_eq_getElem hk, he]
  refine ⟨k, hk, ?_, rmv_at hn hg⟩
  have := Lib.idxOf_hit l l.length k x hk (Nat.le_refl _) (by rw [List.getD_eq_getElem?_getD, hg]; rfl) (fun j hj hjx => by
    have hjl : j < l.length := by omega
    rw [List.getD_eq_getElem?_getD, List.getElem?_eq_getElem hjl] at hjx
    have h1 : l[j] = l[k] := hjx.trans he.symm
    exact (List.pairwise_iff_getElem.1 hn) j k hjl hk hj h1)
  rwa [List.take_length] at this
theorem gives_at {w W : World} (hW : Below w.heap.size w W) (id kid : Int) : Calls Tryz.prog 55 #[.int .i64 id, .int .i64 kid] W fun e w' => ∃ k, e = .returned (.agg #[.int .i64 id, .func (Fn.func 89) #[] #[.pointer (some ⟨k, 0, none⟩)]]) ∧ Hid (OneAt w' k kid) ∧ Hid (Below W.heap.size W w') ∧ Below w.heap.size w w' := by
  refine (gives_any W id kid).mono ?_
  rintro e w' ⟨rfl, h1, h2, hB⟩
  exact ⟨_, rfl, hid_mk ⟨h1, by omega⟩, hid_mk hB, hW.trans (hB.mono hW.size)⟩
theorem stands_at {w W : World} (hW : Below w.heap.size w W) (id p : Int) : Calls Tryz.prog 59 #[.int .i64 id, .int .i64 p] W fun e w' => ∃ k, e = .returned (.agg #[.int .i64 id, .func (Fn.func 95) #[] #[.pointer (some ⟨k, 0, none⟩)]]) ∧ Hid (OneAt w' k p) ∧ Hid (Below W.heap.size W w') ∧ Below w.heap.size w w' := by
  refine (stands_any W id p).mono ?_
  rintro e w' ⟨rfl, h1, h2, hB⟩
  exact ⟨_, rfl, hid_mk ⟨h1, by omega⟩, hid_mk hB, hW.trans (hB.mono hW.size)⟩
/-- What a Move that goes well asks. -/
structure MovOk (uok : List (ByteArray × ByteArray) → Prop) (m : M) (nx : Int) (d : Int → Nat) (id tg : Int) (i h : Nat) (e q : El) : Prop where
  he : m id = some e
  hq : m tg = some q
  full : Full m id h
  not : id ∉ ups m tg
  room : i ≤ (rmv q.ks id).length
  deep : (ups m tg).length + h ≤ 512
variable {uok : List (ByteArray × ByteArray) → Prop} {m : M} {nx : Int} {d : Int → Nat}
theorem MovOk.ne1 {id tg : Int} {i h : Nat} {e q : El} (O : MovOk uok m nx d id tg i h e q) (I : Inv uok m nx d) : id ≠ 1 := by
  rintro rfl
  exact O.not (root_ups I 512 tg q O.hq (I.top O.hq))
theorem MovOk.ne {id tg : Int} {i h : Nat} {e q : El} (O : MovOk uok m nx d id tg i h e q) (I : Inv uok m nx d) : tg ≠ id := by
  rintro rfl
  exact O.not (by rw [ups_some I O.hq]; exact List.mem_cons_self)
theorem MovOk.far {id tg : Int} {i h : Nat} {e q : El} (O : MovOk uok m nx d id tg i h e q) (I : Inv uok m nx d) : tg ∉ levs m id h := fun hm => O.not ((O.full.iff I O.he O.hq).1 hm)
theorem MovOk.inv {id tg : Int} {i h : Nat} {e q : El} (O : MovOk uok m nx d id tg i h e q) (I : Inv uok m nx d) : Inv uok (mvM m id tg i) nx (fun k => if k ∈ levs m id h then d tg + 1 + (d k - d id) else d k) :=
  I.move O.he (O.ne1 I) O.hq O.full (O.far I) (by have := O.deep; rw [ups_len I O.hq] at this; exact this) i
theorem par_ne {id : Int} {e : El} (I : Inv uok m nx d) (he : m id = some e) (h1 : id ≠ 1) : e.par ≠ id := by
  intro h
  have := I.dep he h1
  rw [h] at this
  omega
theorem mov_changed {w W3 W : World} {tp : Value} {id tg : Int} {e q : El} {k1 k2 k3 i h : Nat} (I : Inv uok m nx d) (O : MovOk uok m nx d id tg i h e q) (hT : TrM w tp m) (hw : Below w.heap.size w W3) (hW : Below W3.heap.size W3 W) (h1 : OneAt W3 k1 id) (h2 : TakAt W3 k2 id i) (h3 : OneAt W3 k3 tg)
    (hb : W.heap[W3.heap.size]? = some (.cells #[.int .i64 e.par, .func (Fn.func 89) #[] #[.pointer (some ⟨k1, 0, none⟩)], .int .i64 tg, .func (Fn.func 87) #[] #[.pointer (some ⟨k2 + 1, 0, none⟩), .pointer (some ⟨k2, 0, none⟩)], .int .i64 id, .func (Fn.func 95) #[] #[.pointer (some ⟨k3, 0, none⟩)]] 98 (0, 0))) :
    Calls Tryz.prog 49 #[tp, .slice (some ⟨W3.heap.size, 0, none⟩) 3 3] W fun x w' => ∃ b, x = .returned (.pointer (some ⟨b, 0, none⟩)) ∧ Hid (TrM w' (.pointer (some ⟨b, 0, none⟩)) (mvM m id tg i)) ∧ Below w.heap.size w w' := by
  have h1' := h1.keep hW
  have h2' := h2.keep hW
  have h3' := h3.keep hW
  have hB := hw.trans (hW.mono hw.size)
  have n1 := O.ne1 I
  obtain ⟨P, hP, hk⟩ := I.par O.he n1
  obtain ⟨k, hkl, hix, hrm⟩ := idx_mem (I.nd hP) hk
  have hpl := I.lo hP
  have htl := I.lo O.hq
  have hil := I.lo O.he
  have hnx := I.nxb
  have hPl := I.ksLen hP
  have hpi := par_ne I O.he n1
  have hti := O.ne I
  obtain ⟨Q, hQ, hQl, hQr⟩ : ∃ Q, mset m e.par { P with ks := rmv P.ks id } tg = some Q ∧ Q.ks.length ≤ 300000 ∧ i ≤ Q.ks.length := by
    have hr := O.room
    by_cases ht : tg = e.par
    · refine ⟨{ P with ks := rmv P.ks id }, by rw [ht]; exact mset_same _ _ _, ?_, ?_⟩
      · have := List.length_filter_le (fun y => y != id) P.ks
        show (rmv P.ks id).length ≤ _
        unfold rmv
        omega
      · have : q = P := by
          have := O.hq
          rw [ht, hP] at this
          cases this
          rfl
        rw [this] at hr
        exact hr
    · refine ⟨q, by rw [mset_ne ht]; exact O.hq, ?_, ?_⟩
      · have := I.ksLen O.hq
        omega
      · have := List.length_filter_le (fun y => y != id) q.ks
        unfold rmv at hr
        omega
  have hEQ := mvM_eq  I O.he hP hpi hti hQ i
  have hid2 : (mset (mset m e.par { P with ks := rmv P.ks id }) tg { Q with ks := ins Q.ks i id }) id = some e := by
    rw [mset_ne (Ne.symm hti), mset_ne (Ne.symm hpi), O.he]
  rw [← hEQ]
  refine (changed_any (hT.keep hB) (chs_three hb) (.cons (e' := { P with ks := rmv P.ks id }) (by dsimp only; omega) e77 (Does.arr (by
      dsimp only
      rw [hP]
      have := does_gives h1'.1 h1'.2 P hix hkl (by omega)
      rw [hrm] at this
      exact this)) (.cons (e' := { Q with ks := ins Q.ks i id }) (by dsimp only; omega) e74 (Does.arr (by
      dsimp only
      rw [hQ]
      exact does_takes h2'.1.2 h2'.1.1 h2'.2 (by have := h2'.2; omega) Q hQr hQl)) (.cons (e' := { e with par := tg }) (by dsimp only; omega) e79 (Does.arr (by
      dsimp only
      rw [hid2]
      exact does_stands h3'.1 h3'.2 e)) (.nil _)))) (by simp)).mono ?_
  rintro x w' ⟨b, rfl, hT', hB'⟩
  exact ⟨b, rfl, hid_mk hT', hB.trans (hB'.mono hB.size)⟩

theorem movErr_ok {id tg : Int} {i k : Nat} {e q : El} (O : MovOk uok m nx d id tg i k e q) : movErr m id tg i k = 0 := by
  unfold movErr
  rw [O.he, O.hq]
  dsimp only
  have := O.room
  have := O.deep
  rw [if_neg O.not, if_neg (by omega), if_neg (by omega)]
theorem ok_movErr {id tg i : Int} {k : Nat} (F : m id ≠ none → Full m id k) (h : movErr m id tg i k = 0) : ∃ (j : Nat) (e q : El), i = j ∧ MovOk uok m nx d id tg j k e q := by
  unfold movErr at h
  cases he : m id with
  | none => rw [he] at h; cases h
  | some e =>
    cases hq : m tg with
    | none => rw [he, hq] at h; cases h
    | some q =>
      rw [he, hq] at h
      dsimp only at h
      split at h
      · cases h
      · split at h
        · cases h
        · split at h
          · cases h
          · rename_i h1 h2 h3
            exact ⟨i.toNat, e, q, by omega, he, hq, F (by rw [he]; simp), h1, by omega, by omega⟩
set_option maxHeartbeats 2000000 in
theorem move_err {w : World} {dp : Value} (h : Dom w dp m nx) (I : Inv uok m nx d) (id tg i : Int) {k : Nat} (F : m id ≠ none → Full m id k) (he : movErr m id tg i k ≠ 0) : Calls Tryz.prog 26 #[dp, .int .i64 id, .int .i64 tg, .int .i64 i] w fun x w' => x = .returned (.tuple #[dp, .int .i64 (movErr m id tg i k)]) ∧ Below w.heap.size w w' := by
  have hm := mayMove_any h I id tg i F
  obtain ⟨b, tp, rfl, _⟩ := h
  generalize movErr m id tg i k = R at *
  have hne : (R != 0) = true := by simpa using he
  clear I F
  go_enter Tryz.func26, Tryz.ntmps26
  go_wp2_with (go_at_call 58; fail)
  refine hm.mono ?_
  rintro x w1 ⟨rfl, hB⟩
  have HB := hid_mk hB
  clear hm hB
  go_wp2
  refine bodyPost_ret (v := .tuple #[.pointer (some ⟨b, 0, none⟩), .int .i64 R]) (by simp [results, Tryz.results26, go_sem]) rfl ⟨rfl, HB.out⟩
set_option maxHeartbeats 4000000 in
theorem move_ok {w : World} {dp : Value} (h : Dom w dp m nx) (I : Inv uok m nx d) {id tg : Int} {i k : Nat} {e q : El} (O : MovOk uok m nx d id tg i k e q) : Calls Tryz.prog 26 #[dp, .int .i64 id, .int .i64 tg, .int .i64 i] w fun x w' => ∃ dp', x = .returned (.tuple #[dp', .int .i64 0]) ∧ Dom w' dp' (mvM m id tg i) nx ∧ Below w.heap.size w w' := by
  have hm := mayMove_any h I id tg i (k := k) (fun _ => O.full)
  rw [movErr_ok O] at hm
  have HFI : Hid (∀ W, Below w.heap.size w W → _) := fun W hW => dom_find (h.keep hW) O.he
  obtain ⟨b, tp, rfl, hb, hcell⟩ := dom_next_cell h
  have HCL := hid_mk hcell
  clear h hcell
  go_enter Tryz.func26, Tryz.ntmps26
  go_wp2_with (go_at_call 58; fail)
  refine hm.mono ?_
  rintro x w0 ⟨rfl, hB0⟩
  have HB0 := hid_mk hB0
  clear hm
  go_wp2_with (go_at_call 54; fail)
  refine (HFI.out _ hB0).mono ?_
  rintro x wf ⟨s, rfl, hE, hBf⟩
  obtain ⟨w1, hw1⟩ : ∃ w1, w1 = wf.alloc (.cells #[.int .i64 s.id, .string s.tag, .int .i64 s.par, .slice s.ka s.kn s.kc, .slice s.aa s.an s.ac] 76) := ⟨_, rfl⟩
  have hB1 : Below w.heap.size w w1 := by
    rw [hw1]
    exact (hB0.trans (hBf.mono hB0.size)).alloc (hB0.trans (hBf.mono hB0.size)).size _
  have hN : NodeAt w1 wf.heap.size s := by rw [hw1]; exact heap_alloc_last wf _
  have hpar := hE.2.2.1
  obtain ⟨⟨_, _, n2, _, _⟩, _, _, _, _, _, hl1⟩ := hN.cells
  rw [hpar] at n2
  obtain ⟨c0, c1, hT⟩ := HCL.out w1 hB1
  have hbl : b < w1.heap.size := Nat.lt_of_lt_of_le hb hB1.size
  have HF : Hid (∀ W, Below w1.heap.size w1 W → W.cell? ⟨b, 0, none⟩ = some tp ∧ W.cell? ⟨b, 1, none⟩ = some (.int .i64 nx) ∧ W.cell? ⟨wf.heap.size, 2, none⟩ = some (.int .i64 e.par)) := fun W hW => ⟨(hW.cell (p := ⟨b, 0, none⟩) hbl).trans c0, (hW.cell (p := ⟨b, 1, none⟩) hbl).trans c1, (hW.cell (p := ⟨wf.heap.size, 2, none⟩) hl1).trans n2⟩
  have H53 : Hid (∀ W, Below w1.heap.size w1 W → _) := fun W hW => gives_at hW e.par id
  have H51 : Hid (∀ W, Below w1.heap.size w1 W → _) := fun W hW => takes_at hW tg id i
  have H54 : Hid (∀ W, Below w1.heap.size w1 W → _) := fun W hW => stands_at hW id tg
  have H28 : Hid (∀ (W3 W : World) (k1 k2 k3 : Nat), Below w1.heap.size w1 W3 → Below W3.heap.size W3 W → OneAt W3 k1 id → TakAt W3 k2 id i → OneAt W3 k3 tg → _ → _) := fun W3 W k1 k2 k3 hw hW h1 h2 h3 hb => mov_changed (k1 := k1) (k2 := k2) (k3 := k3) I O hT hw hW h1 h2 h3 hb
  have HB1 := hid_mk hB1
  have gd : Below w1.heap.size w1 w1.drew := (Below.refl _ w1).drew
  have g0 : Below w1.heap.size w1 w1 := Below.refl _ w1
  obtain ⟨bt, rfl⟩ := hT.ptr
  have HW1 := hid_mk hw1
  clear HCL hB1 hT hw1 hN hE hBf hB0 HFI I O hpar
  have HAL : Hid (∀ (W3 : World) o, Below W3.heap.size W3 (W3.alloc o)) := fun W3 o => (Below.refl _ _).alloc (Nat.le_refl _) o
  have HLA : Hid (∀ (W3 : World) o, (W3.alloc o).heap[W3.heap.size]? = some o) := fun W3 o => heap_alloc_last W3 o
  go_upto_region 5 with (fail)
  rw [← HW1.out]
  go_region_held3 (fun w' => w'.cell? ⟨b, 0, none⟩ = some (.pointer (some ⟨bt, 0, none⟩)) ∧ w'.cell? ⟨b, 1, none⟩ = some (.int .i64 nx) ∧ w'.cell? ⟨wf.heap.size, 2, none⟩ = some (.int .i64 e.par))
    (first | with_reducible exact HF.out _ g0 | with_reducible exact HF.out _ gd | with_reducible exact HF.out _ g2 | with_reducible exact HF.out _ g3 | with_reducible exact HF.out _ g4 | with_reducible exact HF.out _ g5 | exact HF.out _ (g4.trans ((HAL.out _ _).mono g4.size)) | exact HF.out _ (g5.trans ((HAL.out _ _).mono g5.size)))
    (first
    | (go_at_call 55; with_reducible refine (H53.out _ gd).mono ?_; rintro x w2 ⟨k1, rfl, HON, HB2, g2⟩)
    | (go_at_call 53; with_reducible refine (H51.out _ g2).mono ?_; rintro x w3 ⟨k2, rfl, HTK, HB3, g3⟩)
    | (go_at_call 59; with_reducible refine (H54.out _ g3).mono ?_; rintro x w4 ⟨k3, rfl, HST, HB4, g4⟩)
    | (go_at_call 49; refine (H28.out w4 _ k1 k2 k3 g4 (HAL.out _ _) ((HON.out.keep HB3.out).keep HB4.out) (HTK.out.keep HB4.out) HST.out (HLA.out _ _)).mono ?_; rintro x w5 ⟨b5, rfl, HT5, g5⟩))
  all_goals
    have HG5 : Hid (Below w.heap.size w w5) := HB1.out.trans (g5.mono HB1.out.size)
    clear g2 g3 g4 g5 gd g0 HF H53 H51 H54 H28 HON HTK HST HB2 HB3 HB4 HB1
    go_wp2
    refine bodyPost_ret (v := .tuple #[.pointer (some ⟨w5.heap.size, 0, none⟩), .int .i64 0]) (by simp [results, Tryz.results26, go_sem]) rfl ⟨_, rfl, dom_box HT5.out, HG5.out.alloc HG5.out.size _⟩

end Go.Proofs.YtdiljkmlneeboaaGreat.N
