/- The pile's iterator. -/
import Derived.Test.YtmpppijgjbfolaaCRg
namespace Go.Proofs.Ytmpppijgjbfolaa.C
open Go.RowKit Go.Shelf
set_option maxRecDepth 100000
attribute [local go_sem] Oper.semAt_some

/-- Two blocks are as they were. -/
def KpP (B g : Nat) (A A' : World) : Prop := A.heap.size ≤ A'.heap.size ∧ A'.heap[B]? = A.heap[B]? ∧ A'.heap[g]? = A.heap[g]?
/-- What the iterator does between two rounds. -/
def ItP (B g : Nat) (A A' : World) : Prop := Kx B g A A' ∧ KeepsOthers A A'
theorem PAt.others {w w' : World} {n0 B g cap : Nat} {L : List R9} (h : PAt w n0 B g cap L) (k : Kx B g w w') : KeepsOthers w w' := by
  refine ⟨k.size, fun j o hj hc => (k.block j (Array.getElem?_eq_some_iff.1 hj).1 (fun e => ?_) (fun e => ?_)).trans hj⟩
  · rw [e, h.box] at hj
    cases hj
    cases hc
  · rcases h.row.2 with ⟨e1, _⟩ | ⟨g', c, cur, e1, _, h2, _⟩
    · cases e1
    · cases e1
      rw [e, h2] at hj
      cases hj
      cases hc
/-- Entries in falling order. -/
def Fall (L : List R9) (es : List E8) : Prop := ∃ ys : List R9, es = ys.map (·.1) ∧ ys.Perm L ∧ ys.Pairwise (fun x y => bt y x = false)
/-- A pile with that row, or one that nothing was put into. -/
def PE (w : World) (n0 B g : Nat) (K : List R9) : Prop := (∃ cap, PAt w n0 B g cap K) ∨ (K = [] ∧ w.heap[B]? = some (.cells #[.slice none 0 0] 51 (0, 0)) ∧ n0 ≤ B)
theorem PE.cell {w : World} {n0 B g : Nat} {K : List R9} (h : PE w n0 B g K) : ∃ va vc, w.cell? ⟨B, 0, none⟩ = some (.slice va K.length vc) := by
  rcases h with ⟨cap, h⟩ | ⟨rfl, hbx, _⟩
  · exact ⟨_, _, h.cell⟩
  · exact ⟨none, 0, by simp [World.cell?, hbx]⟩
theorem PE.kp {w w' : World} {n0 B g : Nat} {K : List R9} (h : PE w n0 B g K) (hk : KpP B g w w') : PE w' n0 B g K := by
  rcases h with ⟨cap, h⟩ | ⟨rfl, hbx, hlo⟩
  · exact .inl ⟨cap, hk.2.1.trans h.box, h.row.keep hk.2.2, h.ne, h.lo⟩
  · exact .inr ⟨rfl, hk.2.1.trans hbx, hlo⟩
theorem PE.at {w : World} {n0 B g : Nat} {K : List R9} (h : PE w n0 B g K) (h0 : 0 < K.length) : ∃ cap, PAt w n0 B g cap K := by
  rcases h with h | ⟨rfl, _⟩
  · exact h
  · simp at h0
theorem PN.pe {w : World} {n0 B : Nat} {L : List R9} (h : PN w n0 B L) : ∃ g, PE w n0 B g L ∧ n0 ≤ g ∧ g < w.heap.size ∧ n0 ≤ B ∧ B < w.heap.size := by
  rcases h with h | ⟨g, cap, h⟩
  · exact ⟨B, .inr h, h.2.2, (Array.getElem?_eq_some_iff.1 h.2.1).1, h.2.2, (Array.getElem?_eq_some_iff.1 h.2.1).1⟩
  · exact ⟨g, .inl ⟨cap, h⟩, h.row.cap_le.2.2.1, h.row.cap_le.2.2.2, h.lo, (Array.getElem?_eq_some_iff.1 h.box).1⟩
/-- What has been told, and what is left. -/
def EaGo (n0 B g : Nat) (L : List R9) (J : List E8 → World → Prop) (m : Nat) (wr : World) : Prop := ∃ ys K, K.length ≤ m ∧ PE wr n0 B g K ∧ HeapL bt K.length K ∧ (ys ++ K).Perm L ∧ ys.Pairwise (fun x y => bt y x = false) ∧ (∀ y ∈ ys, ∀ x ∈ K, bt x y = false) ∧ J (ys.map (·.1)) wr

set_option maxHeartbeats 2000000 in
theorem each_told {w : World} {n0 B g : Nat} {L : List R9} (hP : PE w n0 B g L) (hH : HeapL bt L.length L) (hL : L.length ≤ 900000) : Told Try.prog 29 #[.pointer (some ⟨B, 0, none⟩)] #[] (ItP B g) (KpP B g) (Fall L) (fun _ => True) L.length w := by
  intro q l J Jx hJ hJx hY h0
  have HST : Hid (EaGo n0 B g L J L.length w) := ⟨[], L, Nat.le_refl _, hP, hH, List.Perm.refl _, List.Pairwise.nil, (fun y hy => by cases hy), h0⟩
  have HJ := hid_mk hJ
  have HJx := hid_mk hJx
  have HY := hid_mk hY
  clear hJ hJx hY h0 hP hH
  refine callsIn_wide.2 ?_
  show Calls Try.prog 29 #[.pointer (some ⟨B, 0, none⟩), .func (.yield l) #[] #[]] w _
  obtain ⟨N, hN⟩ : ∃ N, N = L.length := ⟨_, rfl⟩
  have HN := hid_mk hN
  go_enter Try.func29, Try.ntmps29
  go_wp2
  go_loopg [] N (fun m wr => EaGo n0 B g L J m wr)
  case atStart => rw [hN]; exact HST.out
  case round =>
    clear HST
    obtain ⟨ys, K, hm, hP, hH, hp, hpw, hdn, hJ⟩ := hrel
    have hKL : K.length ≤ L.length := by
      have := hp.length_eq
      rw [List.length_append] at this
      omega
    obtain ⟨va, vc, d0⟩ := hP.cell
    have HJp := hid_mk hJ
    clear hJ
    by_cases hk0 : K.length = 0
    · have hd : decide ((0 : Int) < (K.length : Int)) = false := decide_eq_false (by omega)
      have hKn := List.length_eq_zero_iff.1 hk0
      have HE : Hid (Fall L (ys.map (·.1))) := by
        refine ⟨ys, rfl, ?_, hpw⟩
        rw [hKn, List.append_nil] at hp
        exact hp
      rw [hk0] at d0 hd
      clear hP hH hp hpw hdn hKn hk0
      go_wp2_with (go_at_call 32; fail)
      refine (plen_any _ _ _ _).mono ?_
      rintro e w' ⟨rfl, hw⟩
      rw [hw]
      clear hw w'
      go_wp2
      go_end0
      exact ⟨⟨_, rfl⟩, .inl ⟨_, HE.out, HJp.out⟩⟩
    · have h0 : 0 < K.length := by omega
      have hd : decide ((0 : Int) < (K.length : Int)) = true := decide_eq_true (by omega)
      obtain ⟨cap, hPA⟩ := hP.at h0
      have htk := take_any bt_ord hPA hH (by omega) h0
      have HTop : Hid (∀ x ∈ K, bt x (K[0]'h0) = false) := fun x hx => by
        obtain ⟨j, hj, rfl⟩ := List.getElem_of_mem hx
        exact hH.top bt_ord (Nat.le_refl _) (List.getElem?_eq_getElem h0) j _ hj (List.getElem?_eq_getElem hj)
      obtain ⟨r, hr⟩ : ∃ r, r = K[0]'h0 := ⟨_, rfl⟩
      rw [← hr] at htk HTop
      have hrK : r ∈ K := by rw [hr]; exact List.getElem_mem h0
      have HG : Hid (∀ (K' : List R9) (W3 : World), PE W3 n0 B g K' → HeapL bt K'.length K' → (r :: K').Perm K → J ((ys ++ [r]).map (·.1)) W3 → K'.length + 1 = K.length ∧ EaGo n0 B g L J K'.length W3) := fun K' W3 h1 h2 h3 h4 => by
        have hl := h3.length_eq
        rw [List.length_cons] at hl
        refine ⟨hl, ys ++ [r], K', Nat.le_refl _, h1, h2, ?_, ?_, ?_, h4⟩
        · rw [List.append_assoc]
          exact ((h3).append_left ys).trans hp
        · rw [List.pairwise_append]
          refine ⟨hpw, List.pairwise_singleton _ _, fun a ha b hb => ?_⟩
          rw [List.mem_singleton.1 hb]
          exact hdn a ha r hrK
        · intro y hy x hx
          have hxK : x ∈ K := h3.mem_iff.1 (List.mem_cons_of_mem _ hx)
          rcases List.mem_append.1 hy with hy | hy
          · exact hdn y hy x hxK
          · rw [List.mem_singleton.1 hy]
            exact HTop.out x hxK
      have HPL : Hid ((ys.map (·.1)).length < L.length) := by
        have := hp.length_eq
        rw [List.length_append] at this
        show _ < _
        rw [List.length_map]
        omega
      have HPA := hid_mk hPA
      clear hP hH hp hpw hdn hPA HTop hr hrK hk0
      unfold E8.val at htk
      refine (wpIn_wide (n := 9)).1 ?_
      gi_wp2_with (first
        | (refine ⟨trivial, ?_⟩; gi_at_call 32; refine (callsIn_wide.2 (plen_any _ _ _ _)).mono ?_; rintro e w' ⟨rfl, hw⟩; rw [hw]; clear hw w')
        | (refine ⟨trivial, ?_⟩; gi_at_call 33; fail))
      refine ⟨trivial, ?_⟩
      refine (callsIn_wide.2 htk).mono ?_
      rintro e w2 ⟨rfl, K', hH', hP', hp', hx⟩
      have hJ2 : J (ys.map (·.1)) w2 := HJ.out _ _ _ HJp.out ⟨hx, HPA.out.others hx⟩
      obtain ⟨fn, tmps, assign, body, hy, hR⟩ := HY.out 8 _ r.1 w2 hJ2 HPL.out
      have HG2 : Hid (∀ W3, KpP B g w2 W3 → J (ys.map (·.1) ++ [r.1]) W3 → K'.length + 1 = K.length ∧ EaGo n0 B g L J K'.length W3) := fun W3 hk hj => HG.out K' W3 (PE.kp (.inl ⟨cap, hP'⟩) hk) hH' hp' (by rw [List.map_append]; exact hj)
      clear hH' hP' hp' hx hJ2 htk HG
      unfold E8.val at hy
      gi_wp2
      refine hR.mono ?_
      rintro e W3 (⟨rfl, hJ3, hk3⟩ | ⟨rfl, hx3⟩)
      · obtain ⟨hl, hE⟩ := HG2.out W3 hk3 hJ3
        have HE := hid_mk hE
        clear hE HG2 hk3 hJ3 hR hy
        gi_wp2
        go_wp2
        go_roundg K'.length
        case measure => omega
        case rel => exact HE.out
      · have HX3 := hid_mk hx3
        clear hx3 HG2 hR hy
        gi_wp2
        go_wp2
        go_end0
        exact ⟨⟨_, rfl⟩, .inr ⟨_, trivial, HX3.out⟩⟩
end Go.Proofs.Ytmpppijgjbfolaa.C
