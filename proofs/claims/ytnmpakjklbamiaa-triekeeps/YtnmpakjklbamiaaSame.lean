/- gouachelaw06.same of a trie and the document's pairs. -/
import Derived.Test.YtnmpakjklbamiaaRel
import Derived.Test.YtnmpakjklbamiaaAll
namespace Go.Proofs.Ytnmpakjklbamiaa
open Go.RowKit Go.Shelf S
set_option maxRecDepth 100000
attribute [local go_sem] Oper.semAt_some

/-- What the boxes of same hold. -/
structure SameI (w : World) (v : Value) (stop : Int) (bi : Nat) (res : Bool) (cnt : Int) (W : World) : Prop where
  bl : W.heap[w.heap.size]? = some (.cells #[v] 27 (0, 0))
  bs : W.heap[w.heap.size + 1]? = some (.cells #[.int .i64 stop] 3 (0, 0))
  br : W.heap[w.heap.size + 2]? = some (.cells #[.bool res] 4 (0, 0))
  bi : W.heap[bi]? = some (.cells #[.int .i64 cnt] 3 (0, 0))
  below : Below w.heap.size w W
theorem block_kept {W W' : World} {row : Option Nat} {b : Nat} {C : Array Value} {t : Nat} {fr : Nat × Nat} (h : W.heap[b]? = some (.cells C t fr)) (hg : W.grownBy W' row) (hr : ∀ r, row = some r → ∃ o : Obj, W.heap[r]? = some o ∧ o.isCells = false) : W'.heap[b]? = some (.cells C t fr) := by
  refine (hg.block b (Array.getElem?_eq_some_iff.1 h).1 (fun e => ?_)).trans h
  obtain ⟨o, ho, hc⟩ := hr b e.symm
  rw [h] at ho
  injection ho with ho
  rw [← ho] at hc
  cases hc
theorem SameI.own {w : World} {v : Value} {stop : Int} {bi : Nat} {res : Bool} {cnt : Int} {A B : World} {row : Option Nat} {lim : Nat} (h : SameI w v stop bi res cnt A) (hl : w.heap.size ≤ lim) (hg : A.grownBy B row) (hr : ∀ r, row = some r → lim ≤ r ∧ ∃ o : Obj, A.heap[r]? = some o ∧ o.isCells = false) : SameI w v stop bi res cnt B :=
  have hr2 := fun r e => (hr r e).2
  ⟨block_kept h.bl hg hr2, block_kept h.bs hg hr2, block_kept h.br hg hr2, block_kept h.bi hg hr2, h.below.grown hg h.below.size (fun k e => Nat.le_trans hl (hr k e).1)⟩
def SameJ (w : World) (l : List Pr) (v : Value) (stop : Int) (bi : Nat) (pre : List Pr) (W : World) : Prop := SameI w v stop bi false (pre.length : Int) W ∧ pre <+: l
def SameX (w : World) (l : List Pr) (v : Value) (stop : Int) (bi : Nat) (c : Code) (pre : List Pr) (W : World) : Prop := c = .ret ∧ ∃ res cnt, SameI w v stop bi res cnt W ∧ (res = true ∨ ¬ pre <+: l)
theorem bytes_ne {a b : ByteArray} (h : ¬ a = b) : (a.toList == b.toList) = false := by
  have : a.toList ≠ b.toList := fun e => h (by
    rw [ByteArray.toList_eq, ByteArray.toList_eq] at e
    obtain ⟨x⟩ := a
    obtain ⟨y⟩ := b
    congr 1
    exact Array.toList_inj.1 e)
  simpa using this
theorem box_cell {W : World} {b : Nat} {x : Value} {t : Nat} (h : W.heap[b]? = some (.cells #[x] t (0, 0))) : W.cell? ⟨b, 0, none⟩ = some x ∧ W.frozen? ⟨b, 0, none⟩ = false := by
  constructor <;> simp [World.cell?, World.frozen?, h]
theorem SameI.ret {w : World} {v : Value} {stop : Int} {bi : Nat} {res : Bool} {cnt : Int} {W : World} (h : SameI w v stop bi res cnt W) (hbi : w.heap.size + 2 < bi) (r : Bool) : SameI w v stop bi r cnt (W.setCell ⟨w.heap.size + 2, 0, none⟩ (.bool r)) :=
  ⟨(Below.heap_setCell _ _ _ _ (by show w.heap.size ≠ w.heap.size + 2; omega)).trans h.bl, (Below.heap_setCell _ _ _ _ (by show w.heap.size + 1 ≠ w.heap.size + 2; omega)).trans h.bs, one_setCell h.br, (Below.heap_setCell _ _ _ _ (by show bi ≠ w.heap.size + 2; omega)).trans h.bi, h.below.setCell (p := ⟨w.heap.size + 2, 0, none⟩) (by show w.heap.size ≤ w.heap.size + 2; omega) _⟩
theorem SameI.step {w : World} {v : Value} {stop : Int} {bi : Nat} {res : Bool} {cnt : Int} {W : World} (h : SameI w v stop bi res cnt W) (hbi : w.heap.size + 2 < bi) (c : Int) : SameI w v stop bi res c (W.setCell ⟨bi, 0, none⟩ (.int .i64 c)) :=
  ⟨(Below.heap_setCell _ _ _ _ (by show w.heap.size ≠ bi; omega)).trans h.bl, (Below.heap_setCell _ _ _ _ (by show w.heap.size + 1 ≠ bi; omega)).trans h.bs, (Below.heap_setCell _ _ _ _ (by show w.heap.size + 2 ≠ bi; omega)).trans h.br, one_setCell h.bi, h.below.setCell (p := ⟨bi, 0, none⟩) (by show w.heap.size ≤ bi; omega) _⟩
theorem keepC_set {lo hi : Nat} (W : World) {b : Nat} (h1 : lo ≤ b) (h2 : b < hi) (v : Value) : KeepC lo hi W (W.setCell ⟨b, 0, none⟩ v) :=
  ⟨by simp, fun k o hk ho _ => (Below.heap_setCell W ⟨b, 0, none⟩ v k (by show k ≠ b; omega)).trans ho⟩
theorem pre_snoc {l pre : List Pr} (hp : pre <+: l) (hlt : pre.length < l.length) (x : Pr) : pre ++ [x] <+: l ↔ x = l[pre.length] := by
  obtain ⟨r, rfl⟩ := hp
  cases r with
  | nil => simp at hlt
  | cons y r =>
    simp only [List.getElem_append_right (Nat.le_refl _), Nat.sub_self, List.getElem_cons_zero]
    constructor
    · rintro ⟨r', h⟩
      rw [List.append_assoc] at h
      have := List.append_cancel_left h
      simp at this
      exact this.1
    · rintro rfl
      exact ⟨r, by simp⟩
theorem same_end {w : World} {v : Value} {stop : Int} {bi D : Nat} {cnt : Int} {W : World} {ts : Array Value} (hS : SameI w v stop bi true cnt W) (hK : W.heap[D]? = some (.deferred (some []))) (hD : w.heap.size ≤ D) (h6 : ts[6]?.getD undef = .pointer (some ⟨w.heap.size + 2, 0, none⟩)) :
    bodyPostM Fence.wide 9 Try.prog Try.f17 (fun e w' => e = .returned (.bool true) ∧ Below w.heap.size w w') .ret { tmps := ts, defers := [{ target := .collected D, args := #[] }] } W := by
  refine ⟨by simp, .inl ⟨_, _, rfl, run_takeDeferred hK, ?_⟩⟩
  have hS2 := hS.own (lim := w.heap.size) (Nat.le_refl _) (grownBy_putObj' W D (.deferred none)) (fun r e => by cases e; exact ⟨hD, _, hK, rfl⟩)
  obtain ⟨cr, _⟩ := box_cell hS2.br
  have hB := hS2.below
  generalize W.putObj D (.deferred none) = Y at *
  refine ⟨.bool true, ?_, rfl, hB⟩
  simp [results, Try.results17, go_sem, h6, cr]
set_option maxHeartbeats 4000000 in
theorem same_yes {w : World} {tp v : Value} {t : T} {l : List Pr} (hT : S.At w tp t) (hL : Lk t l) (hp : PsAt w v l) (stop : Int) : Calls Try.prog 17 #[tp, v, .int .i64 stop] w fun e w' => e = .returned (.bool true) ∧ Below w.heap.size w w' := by
  obtain ⟨a, cap, ev, hcap, hmax, hx⟩ := id hp
  obtain ⟨wB, hwB⟩ : ∃ wB, wB = ((w.alloc (.cells #[v] 27)).alloc (.cells #[.int .i64 stop] 3)).alloc (.cells #[.bool false] 4) := ⟨_, rfl⟩
  have hs1 : ∀ o, (w.alloc o).heap.size = w.heap.size + 1 := fun o => by simp
  have hs2 : ∀ o o', ((w.alloc o).alloc o').heap.size = w.heap.size + 2 := fun o o' => by simp
  have hsB : wB.heap.size = w.heap.size + 3 := by rw [hwB]; simp
  have hBB : Below w.heap.size w wB := by rw [hwB]; exact (((Below.refl _ w).alloc (Nat.le_refl _) _).alloc (by rw [hs1]; omega) _).alloc (by rw [hs2]; omega) _
  have hb1 : wB.heap[w.heap.size]? = some (.cells #[v] 27) := by
    rw [hwB, Below.heap_alloc _ _ _ (by rw [hs2]; omega), Below.heap_alloc _ _ _ (by rw [hs1]; omega)]
    exact heap_alloc_last _ _
  have hb2 : wB.heap[w.heap.size + 1]? = some (.cells #[.int .i64 stop] 3) := by
    rw [hwB, Below.heap_alloc _ _ _ (by rw [hs2]; omega), ← hs1 (.cells #[v] 27)]
    exact heap_alloc_last _ _
  have hb3 : wB.heap[w.heap.size + 2]? = some (.cells #[.bool false] 4) := by
    rw [hwB, ← hs2 (.cells #[v] 27) (.cells #[.int .i64 stop] 3)]
    exact heap_alloc_last _ _
  have HWB := hid_mk hwB.symm
  have HBB := hid_mk hBB
  have HB1 := hid_mk hb1
  have HB2 := hid_mk hb2
  have HB3 := hid_mk hb3
  clear hs1 hs2 hwB
  have HTB := hid_mk (TrAt.keep hT hBB)
  have HPB := hid_mk (hp.keep hBB)
  have hshort := hL.short hT.wf
  have HLEN : Hid (∀ w', Below wB.heap.size wB w' → Calls Try.prog 26 #[tp] w' fun e w'' => e = .returned (.int .i64 (l.length : Int)) ∧ Below wB.heap.size wB w'') := fun w' hw' => (len_any (TrAt.keep HTB.out hw')).mono fun e w'' ⟨he, h⟩ => ⟨by rw [he, hL.len hT.wf], by rw [h]; exact hw'⟩
  have HNOD : Hid (∀ w', Below wB.heap.size wB w' → Calls Try.prog 27 #[tp] w' fun e w'' => e = .returned (.int .i64 (nodesZ l : Int)) ∧ Below wB.heap.size wB w'') := fun w' hw' => (nodes_any (TrAt.keep HTB.out hw')).mono fun e w'' ⟨he, h⟩ => ⟨by rw [he, hL.nodes hT.wf hT.pr], by rw [h]; exact hw'⟩
  have HRN : Hid (∀ w', Below wB.heap.size wB w' → Calls Try.prog 35 #[v] w' fun e w'' => e = .returned (.int .i64 (nodesZ l : Int)) ∧ Below wB.heap.size wB w'') := fun w' hw' => (rnodes_any (HPB.out.keep hw') hshort).mono fun e w'' ⟨he, h⟩ => ⟨he, hw'.trans (h.mono hw'.size)⟩
  have HALL : Hid (∀ w', Below wB.heap.size wB w' → _) := fun w' hw' => all_any (TrAt.keep HTB.out hw')
  have HL := hid_mk hL
  have HT := hid_mk hT
  have HX := hid_mk hx
  subst ev
  clear hb1 hb2 hb3 hBB hL hT hx hp hshort
  generalize nodesZ l = NZ at *
  have hf9 := fn_nil
  refine (callsIn_wide (n := 9)).1 ?_
  refine callsIn_of_wp_marks Try.func17 rfl trivial ?_ rfl
  refine wpIn_wide.2 ?_
  simp only [Try.ntmps17, List.size_toArray, List.length_cons, List.length_nil, Nat.reduceAdd, Nat.reduceSub, Array.replicate_succ, Array.replicate_zero, List.push_toArray, List.append_toArray, List.nil_append, List.cons_append]
  have HF : Hid (∀ w', Below wB.heap.size wB w' → w'.cell? ⟨w.heap.size, 0, none⟩ = some (.slice a l.length cap)) := fun w' hw' => by
    rw [cell_of_row _ _ _ _ _ _ ((hw'.block _ (Array.getElem?_eq_some_iff.1 HB1.out).1).trans HB1.out)]
    rfl
  have gd : Below wB.heap.size wB wB.drew := below_drew _ _
  go_upto_region 1 with fail
  rw [HWB.out]
  go_region_held3 (fun w' => w'.cell? ⟨w.heap.size, 0, none⟩ = some (.slice a l.length cap)) (first | exact HF.out _ (by assumption)) (first
    | (go_at_call 26; refine (HLEN.out _ ?_).mono ?_; assumption; rintro e w3 ⟨rfl, g3⟩)
    | (go_at_call 27; refine (HNOD.out _ ?_).mono ?_; assumption; rintro e w4 ⟨rfl, g4⟩)
    | (go_at_call 35; refine (HRN.out _ ?_).mono ?_; assumption; rintro e w5 ⟨rfl, g5⟩))
  have HG5 := hid_mk g5
  clear g3 g4 g5 gd HLEN HNOD HRN HF
  obtain ⟨w6, hw6⟩ : ∃ w6, w6 = w5.alloc (.cells #[t.bp] 51) := ⟨_, rfl⟩
  have hall := HALL.out w5 HG5.out
  rw [← hw6] at hall
  have hs6 : w6.heap.size = w5.heap.size + 1 := by rw [hw6]; simp
  have hB6 : Below wB.heap.size wB w6 := by rw [hw6]; exact balloc HG5.out _
  have hx6 : w6.heap[w5.heap.size]? = some (.cells #[t.bp] 51) := by rw [hw6]; exact heap_alloc_last _ _
  have HS6 := hid_mk hs6
  have HB6 := hid_mk hB6
  have HX6 := hid_mk hx6
  clear hw6 hs6 hB6 hx6 HALL
  go_wp2_with (go_at_call 25; refine hall.mono ?_; clear hall; rintro e w7 ⟨rfl, rfl⟩)
  have hwf := HT.out.wf
  have hallS := allS_get hwf HL.out.str
  have hents := HL.out.ents hwf
  have hBwL : Below w.heap.size w (w7.alloc (.cells #[.int .i64 0] 3)) := HBB.out.trans ((balloc HB6.out _).mono HBB.out.size)
  have hlowT : lowV w.heap.size t := HT.out.held.lowV
  have hsz7 : w.heap.size + 2 < w7.heap.size := by have := HB6.out.size; omega
  have hboxL : (w7.alloc (.cells #[.int .i64 0] 3)).heap[w5.heap.size]? = some (.cells #[t.bp] 51) := (Below.heap_alloc w7 _ _ (Array.getElem?_eq_some_iff.1 HX6.out).1).trans HX6.out
  have hkeepB : ∀ k o, wB.heap[k]? = some o → (w7.alloc (.cells #[.int .i64 0] 3)).heap[k]? = some o := fun k o h => ((balloc HB6.out (.cells #[.int .i64 0] 3)).block k (Array.getElem?_eq_some_iff.1 h).1).trans h
  have hstart : SameI w (.slice a l.length cap) stop w7.heap.size false 0 (w7.alloc (.cells #[.int .i64 0] 3)) := ⟨hkeepB _ _ HB1.out, hkeepB _ _ HB2.out, hkeepB _ _ HB3.out, heap_alloc_last _ _, hBwL⟩
  have hstops := all_stops w.heap.size (w7.heap.size + 1) 8 t (w7.alloc (.cells #[.int .i64 0] 3)) w5.heap.size hwf hallS (HT.out.held.keep hBwL) hlowT (by simp) hboxL
  rw [hents] at hstops
  have HSTART := hid_mk hstart
  have hszL : w.heap.size ≤ (w7.alloc (.cells #[.int .i64 0] 3)).heap.size := hBwL.size
  clear hstart hkeepB hboxL hlowT hBwL hents hallS
  refine (wpIn_wide (n := 9)).1 ?_
  refine wpIn_rangeFunc_ownF rfl (by omega) (gf := 42) (lb := #[.pointer (some ⟨w5.heap.size, 0, none⟩)]) rfl trivial (enters_of Try.func42 (by kernel_rfl) rfl)
    hstops KeepC.trans (fun W l o o' _ h hc _ => KeepC.put W l o o' h hc) (Below.refl _ _) (fun _ => rfl)
    (SameJ w l (.slice a l.length cap) stop w7.heap.size)
    (SameX w l (.slice a l.length cap) stop w7.heap.size)
    (fun s A B row hs hg hr => ⟨hs.1.own hszL hg hr, hs.2⟩)
    (fun c s A B row hs hg hr => ⟨hs.1, by obtain ⟨res, cnt, h1, h2⟩ := hs.2; exact ⟨res, cnt, h1.own hszL hg hr, h2⟩⟩)
    ⟨HSTART.out, List.nil_prefix⟩
    (fun x => { tmps := #[tp, .slice a l.length cap, .int .i64 stop, undef, .pointer (some ⟨w.heap.size, 0, none⟩), .pointer (some ⟨w.heap.size + 1, 0, none⟩), .pointer (some ⟨w.heap.size + 1 + 1, 0, none⟩), .func (.func 42) #[] #[.pointer (some ⟨w5.heap.size, 0, none⟩)], .pointer (some ⟨w7.heap.size, 0, none⟩), .int .i64 x.1, .string x.2, tp, .int .i64 (l.length : Int), .slice a l.length cap, .int .i64 (l.length : Int), .bool false, .bool false, tp, .int .i64 (NZ : Int), .slice a l.length cap, .int .i64 (NZ : Int), .bool false, .bool false, tp, .func (.func 42) #[] #[.pointer (some ⟨w5.heap.size, 0, none⟩)], .func (.func 42) #[] #[.pointer (some ⟨w5.heap.size, 0, none⟩)], .bool false, .func (.func 42) #[] #[.pointer (some ⟨w5.heap.size, 0, none⟩)], .int .i64 x.1, .string x.2, undef, undef, undef, undef, undef, undef, undef, undef, undef, undef, undef, undef, undef, undef, undef, undef, undef, undef, undef, undef, undef, undef, undef, undef, undef, undef, undef, undef, undef, undef, undef], defers := [] }) ?assign ?body ?done ?stop
  case assign =>
    intro lr x W K hK
    dsimp only [encP]
    gi_wp2
    exact hK
  case body =>
    rintro lr pre x W ⟨hS, hpre⟩ hlt
    obtain ⟨xn, xs⟩ := x
    obtain ⟨ci, fi⟩ := box_cell hS.bi
    obtain ⟨cl, _⟩ := box_cell hS.bl
    obtain ⟨cs, _⟩ := box_cell hS.bs
    obtain ⟨cr, fr⟩ := box_cell hS.br
    obtain ⟨b, off, rfl, hblt, hc⟩ := HX.out (by omega)
    have d0 := (hS.below.cell (p := ⟨b, off + pre.length * 2, none⟩) hblt).trans (hc pre.length hlt).1
    have d1 := (hS.below.cell (p := ⟨b, off + pre.length * 2 + 1, none⟩) hblt).trans (hc pre.length hlt).2
    have HPS := hid_mk (pre_snoc hpre hlt (xn, xs))
    have HS := hid_mk hS
    have hlb : (pre.length : Int) < (l.length : Int) := by omega
    have hl63 : (l.length : Int) ≤ 9223372036854775807 := by omega
    obtain ⟨m, y, hmy⟩ : ∃ m y, l[pre.length] = (m, y) := ⟨_, _, rfl⟩
    rw [hmy] at d0 d1
    have HPS2 : Hid (pre ++ [(xn, xs)] <+: l ↔ (xn, xs) = (m, y)) := by
      have := HPS.out
      rw [hmy] at this
      exact this
    clear hc hS HX HPS hmy hpre
    by_cases hst : (pre.length : Int) = stop
    · have hstb : ((pre.length : Int) == stop) = true := by simpa using hst
      gi_wp2
      exact ⟨KeepsOthers.setCell _ _ _, rfl, true, _, HS.out.ret hsz7 true, .inl rfl⟩
    · have hstb : ((pre.length : Int) == stop) = false := by simpa using hst
      by_cases h1 : m = xn
      · by_cases h2 : y = xs
        · have hpre2 := HPS2.out.2 (by rw [h1, h2])
          have HP2 := hid_mk hpre2
          subst h1 h2
          clear hpre2
          gi_wp2
          refine ⟨KeepsOthers.setCell _ _ _, keepC_set W (by omega) (by omega) _, ?_, HP2.out⟩
          rw [List.length_append]
          exact HS.out.step hsz7 _
        · have hno : ¬ pre ++ [(xn, xs)] <+: l := fun h => by
            have := HPS2.out.1 h
            injection this with _ e
            exact h2 e.symm
          have HNO := hid_mk hno
          have h2b := bytes_ne h2
          clear hno
          subst h1
          gi_wp2
          exact ⟨KeepsOthers.setCell _ _ _, rfl, false, _, HS.out.ret hsz7 false, .inr HNO.out⟩
      · have hno : ¬ pre ++ [(xn, xs)] <+: l := fun h => by
          have := HPS2.out.1 h
          injection this with e _
          exact h1 e.symm
        have HNO := hid_mk hno
        have h1b : (m != xn) = true := by simpa using h1
        clear hno
        gi_wp2
        exact ⟨KeepsOthers.setCell _ _ _, rfl, false, _, HS.out.ret hsz7 false, .inr HNO.out⟩
  case done =>
    rintro D ys W hD hys ⟨hS, hpre⟩ hK
    obtain ⟨ci, fi⟩ := box_cell hS.bi
    obtain ⟨cl, _⟩ := box_cell hS.bl
    obtain ⟨cr, fr⟩ := box_cell hS.br
    have hlen : ys.length = l.length := by rw [hys]
    rw [hlen] at ci
    have hl63 : (l.length : Int) ≤ 9223372036854775807 := by omega
    have HS := hid_mk hS
    have HK := hid_mk hK
    clear hS hpre hys hlen hK
    go_wp2
    have hDw : w.heap.size + 2 < D := by simp at hD; omega
    exact same_end (HS.out.ret hsz7 true) ((Below.heap_setCell _ _ _ _ (by show D ≠ w.heap.size + 2; omega)).trans HK.out) (by omega) rfl
  case stop =>
    rintro D c pre W hD hpre ⟨rfl, res, cnt, hS, hr⟩ hK
    obtain rfl : res = true := hr.elim id (fun h => absurd hpre h)
    gi_wp2
    exact same_end hS hK (by simp at hD; omega) rfl

end Go.Proofs.Ytnmpakjklbamiaa
