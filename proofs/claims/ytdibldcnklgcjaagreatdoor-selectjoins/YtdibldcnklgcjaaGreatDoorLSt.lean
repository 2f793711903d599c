/- The reader of selectors: an ID, a class. The reader of selectors: a type. The reader of selectors: which kind a colon and a function mean. The reader of selectors: an operator. The reader of selectors: told of a literal, whatever was made since. The reader of selectors: a colon and a name. -/
import Derived.Test.YtdibldcnklgcjaaGreatDoorLSe
import Derived.Test.YtdibldcnklgcjaaGreatDoorFold
namespace Go.Proofs.YtdibldcnklgcjaaGreatDoor.L
open Go.RowKit
set_option maxRecDepth 100000

/-- A simple selector without a List, in cells. -/
def sC (s : S6) : List Value := s7 s (.slice none 0 0)
def ssC (l : List S6) : List Value := l.flatMap sC
theorem sC_len (s : S6) : (sC s).length = 7 := rfl
theorem sC_one (s : S6) : ∀ u ∈ sC s, u.oneCell' = true := by
  intro u hu
  simp only [sC, s7, List.mem_cons, List.not_mem_nil, or_false] at hu
  rcases hu with rfl | rfl | rfl | rfl | rfl | rfl | rfl <;> rfl
/-- What a way of reading answers: nothing, and nothing is read; or simple selectors in new memory, and so many values are left behind. -/
def Way (lo : Nat) (W : World) (b : Nat) (kids : Value) (vs : List V) (r : Option (List S6 × Nat)) (e : Ending) (w' : World) : Prop := match r with
  | none => e = .returned (.slice none 0 0) ∧ Below W.heap.size W w'
  | some (l, n) => ∃ v, e = .returned v ∧ w'.ownsRow W.heap.size 40 7 v l.length (ssC l) ∧ Rd lo W b kids (vs.drop n) w'

def idR (vs : List V) : Option (List S6 × Nat) := match vs with
  | v :: _ => if (v.tok.k == 4 && v.tok.fl) = true then some ([⟨3, v.tok.tx, 0, ⟨#[]⟩, 0, 0⟩], 1) else none
  | [] => none
theorem ahd_cons (v : V) (r : List V) (k : Int) : ahd (v :: r) 0 k = (v.tok.k == k) := rfl

set_option maxHeartbeats 1000000 in
theorem id_any {W : World} {lo b : Nat} {kids : Value} {vs : List V} (h : Rd lo W b kids vs W) :
    Calls Tryz.prog 103 #[.pointer (some ⟨b, 0, none⟩)] W (Way lo W b kids vs (idR vs)) := by
  have ha := ahead_any h 0 4
  cases vs with
  | nil =>
    rw [show ahd [] 0 4 = false from rfl] at ha
    clear h
    go_enter Tryz.func103, Tryz.ntmps103
    go_wp2_with (go_at_call 37; fail)
    refine ha.mono ?_
    rintro e w1 ⟨rfl, rfl⟩
    clear ha
    go_wp2
    go_ret
    exact ⟨rfl, Below.refl _ _⟩
  | cons v r =>
    rw [ahd_cons] at ha
    obtain ⟨a, n, cap, hn, hc1, hc2, h1, _, hs⟩ := h.see
    have c0 : W.cell? ⟨b, 0, none⟩ = some (.slice a n cap) := cellAt h1 0
    obtain ⟨hl, g, off, kv, rfl, q0, q1, q4, q5, hkv⟩ := hs 0 v rfl
    rw [Nat.zero_mul, Nat.add_zero] at q0 q1 q4 q5
    have hbl : b < W.heap.size := h.lt
    by_cases hk : (v.tok.k == 4 && v.tok.fl) = true
    · have hk1 : (v.tok.k == 4) = true := by rw [Bool.and_eq_true] at hk; exact hk.1
      have hk2 : v.tok.fl = true := by rw [Bool.and_eq_true] at hk; exact hk.2
      have HE : Hid (idR (v :: r) = some ([⟨3, v.tok.tx, 0, ⟨#[]⟩, 0, 0⟩], 1)) := by rw [Hid, idR, if_pos hk]
      rw [HE.out]
      rw [hk1] at ha
      rw [hk2] at q4
      obtain ⟨W1, hW1⟩ : ∃ W1, W1 = W.alloc (.cells (sC ⟨3, v.tok.tx, 0, ⟨#[]⟩, 0, 0⟩).toArray 40) := ⟨_, rfl⟩
      have hB1 : Below W.heap.size W W1 := by rw [hW1]; exact (Below.refl _ _).alloc (Nat.le_refl _) _
      have hx1 : W1.heap[W.heap.size]? = some (.cells (sC ⟨3, v.tok.tx, 0, ⟨#[]⟩, 0, 0⟩).toArray 40 (0, 0)) := by rw [hW1]; exact heap_alloc_last W _
      have htl := told_any (h.then hB1).self 1 (by simp) (g := W.heap.size) (m := 1) (c := 1) (cs := sC ⟨3, v.tok.tx, 0, ⟨#[]⟩, 0, 0⟩) (by omega) (by rw [hW1]; simp) (by decide) rfl (fun j u hu => by rw [cellAt hx1 j]; simpa using hu) (sC_one _)
      have HF : Hid (∀ v' w', w'.ownsRow W1.heap.size 40 7 v' 1 (sC ⟨3, v.tok.tx, 0, ⟨#[]⟩, 0, 0⟩) → Rd lo W1 b kids ((v :: r).drop 1) w' → Way lo W b kids (v :: r) (some ([⟨3, v.tok.tx, 0, ⟨#[]⟩, 0, 0⟩], 1)) (.returned v') w') := fun v' w' ho hr =>
        ⟨v', rfl, ⟨ho.1, ho.2.imp id fun ⟨g, cap, cur, x1, x2, x3⟩ => ⟨g, cap, cur, x1, Nat.le_trans hB1.size x2, x3⟩⟩, (h.then hB1).from hr⟩
      have HW1 := hid_mk hW1
      clear h h1 hs hn HE hk hk1 hk2 hB1 hx1 hW1 q0 q5 hkv
      unfold sC s7 at htl HW1 HF
      dsimp only at htl HW1 HF
      go_enter Tryz.func103, Tryz.ntmps103
      go_wp2_with (go_at_call 37; fail)
      refine ha.mono ?_
      rintro e w1 ⟨rfl, rfl⟩
      clear ha
      go_wp2_with (go_at_call 102; fail)
      rw [← HW1.out]
      refine htl.mono ?_
      rintro e w2 ⟨v', rfl, ho, hr⟩
      have HZ := hid_mk (HF.out v' w2 ho hr)
      clear htl ho hr HF HW1
      go_wp2
      go_ret
      exact HZ.out
    · have HE : Hid (idR (v :: r) = none) := by rw [Hid, idR, if_neg hk]
      rw [HE.out]
      by_cases hk1 : (v.tok.k == 4) = true
      · have hk2 : v.tok.fl = false := by
          rw [hk1, Bool.true_and] at hk
          simpa using hk
        rw [hk1] at ha
        rw [hk2] at q4
        clear h h1 hs hn HE hk hk1 hk2 q0 q5 hkv
        go_enter Tryz.func103, Tryz.ntmps103
        go_wp2_with (go_at_call 37; fail)
        refine ha.mono ?_
        rintro e w1 ⟨rfl, rfl⟩
        clear ha
        go_wp2
        go_ret
        exact ⟨rfl, Below.refl _ _⟩
      · have hk2 : (v.tok.k == 4) = false := by simpa using hk1
        rw [hk2] at ha
        clear h h1 hs hn HE hk hk1 hk2 q0 q5 hkv
        go_enter Tryz.func103, Tryz.ntmps103
        go_wp2_with (go_at_call 37; fail)
        refine ha.mono ?_
        rintro e w1 ⟨rfl, rfl⟩
        clear ha
        go_wp2
        go_ret
        exact ⟨rfl, Below.refl _ _⟩
def dotB : ByteArray := ⟨#[46]⟩
def classR (vs : List V) : Option (List S6 × Nat) := match vs with
  | _ :: u :: _ => if (dlm vs 0 dotB && (u.tok.k == 1)) = true then some ([⟨2, u.tok.tx, 0, ⟨#[]⟩, 0, 0⟩], 2) else none
  | _ => none
theorem classR_none {vs : List V} (h : (dlm vs 0 dotB && ahd vs 1 1) = false) : classR vs = none := by
  match vs with
  | [] => rfl
  | [_] => rfl
  | v :: u :: r =>
    have h' : (dlm (v :: u :: r) 0 dotB && (u.tok.k == 1)) = false := h
    show (if (dlm (v :: u :: r) 0 dotB && (u.tok.k == 1)) = true then _ else _) = _
    rw [if_neg (by rw [h']; decide)]
theorem classR_some {vs : List V} (h : (dlm vs 0 dotB && ahd vs 1 1) = true) : ∃ u, vs[1]? = some u ∧ 2 ≤ vs.length ∧ classR vs = some ([⟨2, u.tok.tx, 0, ⟨#[]⟩, 0, 0⟩], 2) := by
  match vs with
  | [] => cases h
  | [v] => rw [Bool.and_eq_true] at h; cases h.2
  | v :: u :: r =>
    have h' : (dlm (v :: u :: r) 0 dotB && (u.tok.k == 1)) = true := h
    refine ⟨u, rfl, by simp, ?_⟩
    show (if (dlm (v :: u :: r) 0 dotB && (u.tok.k == 1)) = true then _ else _) = _
    rw [if_pos h']

set_option maxHeartbeats 1000000 in
theorem class_any {W : World} {lo b : Nat} {kids : Value} {vs : List V} (h : Rd lo W b kids vs W) :
    Calls Tryz.prog 104 #[.pointer (some ⟨b, 0, none⟩)] W (Way lo W b kids vs (classR vs)) := by
  have hd := delim_any h 0 dotB
  have ha := ahead_any h 1 1
  unfold dotB at hd
  rw [show (⟨#[46]⟩ : ByteArray) = dotB from rfl] at hd
  by_cases hk : (dlm vs 0 dotB && ahd vs 1 1) = true
  · obtain ⟨u, hu, hlen, hE⟩ := classR_some hk
    have hk1 : dlm vs 0 dotB = true := by rw [Bool.and_eq_true] at hk; exact hk.1
    have hk2 : ahd vs 1 1 = true := by rw [Bool.and_eq_true] at hk; exact hk.2
    obtain ⟨a, n, cap, hn, hc1, hc2, h1, _, hs⟩ := h.see
    have c0 : W.cell? ⟨b, 0, none⟩ = some (.slice a n cap) := cellAt h1 0
    obtain ⟨hl, g, off, kv, rfl, q0, q1, q4, q5, hkv⟩ := hs 1 u hu
    rw [Nat.one_mul] at q0 q1 q4 q5
    have hbl : b < W.heap.size := h.lt
    rw [hE]
    rw [hk1] at hd
    rw [hk2] at ha
    obtain ⟨W1, hW1⟩ : ∃ W1, W1 = W.alloc (.cells (sC ⟨2, u.tok.tx, 0, ⟨#[]⟩, 0, 0⟩).toArray 40) := ⟨_, rfl⟩
    have hB1 : Below W.heap.size W W1 := by rw [hW1]; exact (Below.refl _ _).alloc (Nat.le_refl _) _
    have hx1 : W1.heap[W.heap.size]? = some (.cells (sC ⟨2, u.tok.tx, 0, ⟨#[]⟩, 0, 0⟩).toArray 40 (0, 0)) := by rw [hW1]; exact heap_alloc_last W _
    have htl := told_any (h.then hB1).self 2 hlen (g := W.heap.size) (m := 1) (c := 1) (cs := sC ⟨2, u.tok.tx, 0, ⟨#[]⟩, 0, 0⟩) (by omega) (by rw [hW1]; simp) (by decide) rfl (fun j u hu => by rw [cellAt hx1 j]; simpa using hu) (sC_one _)
    have HF : Hid (∀ v' w', w'.ownsRow W1.heap.size 40 7 v' 1 (sC ⟨2, u.tok.tx, 0, ⟨#[]⟩, 0, 0⟩) → Rd lo W1 b kids (vs.drop 2) w' → Way lo W b kids vs (some ([⟨2, u.tok.tx, 0, ⟨#[]⟩, 0, 0⟩], 2)) (.returned v') w') := fun v' w' ho hr =>
      ⟨v', rfl, ⟨ho.1, ho.2.imp id fun ⟨g, cap, cur, x1, x2, x3⟩ => ⟨g, cap, cur, x1, Nat.le_trans hB1.size x2, x3⟩⟩, (h.then hB1).from hr⟩
    have HW1 := hid_mk hW1
    clear h h1 hs hn hE hk hk1 hk2 hB1 hx1 hW1 q0 q4 q5 hkv hu
    unfold sC s7 at htl HW1 HF
    unfold dotB at hd
    dsimp only at htl HW1 HF
    go_enter Tryz.func104, Tryz.ntmps104
    go_wp2_with (go_at_call 101; fail)
    refine hd.mono ?_
    rintro e w1 ⟨rfl, rfl⟩
    clear hd
    go_wp2_with (go_at_call 37; fail)
    refine ha.mono ?_
    rintro e w1 ⟨rfl, rfl⟩
    clear ha
    go_wp2_with (go_at_call 102; fail)
    rw [← HW1.out]
    refine htl.mono ?_
    rintro e w2 ⟨v', rfl, ho, hr⟩
    have HZ := hid_mk (HF.out v' w2 ho hr)
    clear htl ho hr HF HW1
    go_wp2
    go_ret
    exact HZ.out
  · have hk0 : (dlm vs 0 dotB && ahd vs 1 1) = false := by simpa using hk
    rw [classR_none hk0]
    by_cases hk1 : dlm vs 0 dotB = true
    · have hk2 : ahd vs 1 1 = false := by rw [hk1, Bool.true_and] at hk0; exact hk0
      rw [hk1] at hd
      rw [hk2] at ha
      unfold dotB at hd
      clear h hk hk0 hk1 hk2
      go_enter Tryz.func104, Tryz.ntmps104
      go_wp2_with (go_at_call 101; fail)
      refine hd.mono ?_
      rintro e w1 ⟨rfl, rfl⟩
      clear hd
      go_wp2_with (go_at_call 37; fail)
      refine ha.mono ?_
      rintro e w1 ⟨rfl, rfl⟩
      clear ha
      go_wp2
      go_ret
      exact ⟨rfl, Below.refl _ _⟩
    · have hk2 : dlm vs 0 dotB = false := by simpa using hk1
      rw [hk2] at hd
      unfold dotB at hd
      clear h hk hk0 hk1 hk2 ha
      go_enter Tryz.func104, Tryz.ntmps104
      go_wp2_with (go_at_call 101; fail)
      refine hd.mono ?_
      rintro e w1 ⟨rfl, rfl⟩
      clear hd
      go_wp2
      go_ret
      exact ⟨rfl, Below.refl _ _⟩
end Go.Proofs.YtdibldcnklgcjaaGreatDoor.L
namespace Go.Proofs.YtdibldcnklgcjaaGreatDoor.L
open Go.RowKit
set_option maxRecDepth 100000

def starB : ByteArray := ⟨#[42]⟩
def tagR (vs : List V) : Option (List S6 × Nat) := match vs with
  | v :: _ => if (ahd vs 0 1 || dlm vs 0 starB) = true then some ([⟨1, foldS v.tok.tx, 0, ⟨#[]⟩, 0, 0⟩], 1) else none
  | [] => none
theorem tagR_none {vs : List V} (h : (ahd vs 0 1 || dlm vs 0 starB) = false) : tagR vs = none := by
  cases vs with
  | nil => rfl
  | cons v r =>
    show (if (ahd (v :: r) 0 1 || dlm (v :: r) 0 starB) = true then _ else _) = _
    rw [if_neg (by rw [h]; decide)]
theorem tagR_some {vs : List V} (h : (ahd vs 0 1 || dlm vs 0 starB) = true) : ∃ v, vs[0]? = some v ∧ 1 ≤ vs.length ∧ tagR vs = some ([⟨1, foldS v.tok.tx, 0, ⟨#[]⟩, 0, 0⟩], 1) := by
  cases vs with
  | nil => cases h
  | cons v r =>
    refine ⟨v, rfl, by simp, ?_⟩
    show (if (ahd (v :: r) 0 1 || dlm (v :: r) 0 starB) = true then _ else _) = _
    rw [if_pos h]

set_option maxHeartbeats 1000000 in
theorem tag_any {W : World} {lo b : Nat} {kids : Value} {vs : List V} (h : Rd lo W b kids vs W) (hz : ∀ v ∈ vs, v.tok.tx.size ≤ 1000000000000) :
    Calls Tryz.prog 91 #[.pointer (some ⟨b, 0, none⟩)] W (Way lo W b kids vs (tagR vs)) := by
  have hd := delim_any h 0 starB
  have ha := ahead_any h 0 1
  by_cases hk : (ahd vs 0 1 || dlm vs 0 starB) = true
  · obtain ⟨u, hu, hlen, hE⟩ := tagR_some hk
    have hus : u.tok.tx.size ≤ 1000000000000 := hz u (List.mem_of_getElem? hu)
    obtain ⟨a, n, cap, hn, hc1, hc2, h1, _, hs⟩ := h.see
    have c0 : W.cell? ⟨b, 0, none⟩ = some (.slice a n cap) := cellAt h1 0
    obtain ⟨hl, g, off, kv, rfl, q0, q1, q4, q5, hkv⟩ := hs 0 u hu
    rw [Nat.zero_mul, Nat.add_zero] at q0 q1 q4 q5
    have hfo := fold_any u.tok.tx W hus
    have HT : Hid (∀ w2, Below W.heap.size W w2 → Calls Tryz.prog 102 #[.pointer (some ⟨b, 0, none⟩), .int .i64 1, .slice (some ⟨w2.heap.size, 0, none⟩) 1 1] (w2.alloc (.cells #[.int .i64 1, .string (foldS u.tok.tx), .int .i64 0, .string ⟨#[]⟩, .int .i64 0, .int .i64 0, .slice none 0 0] 40)) fun e w' => Way lo W b kids vs (some ([⟨1, foldS u.tok.tx, 0, ⟨#[]⟩, 0, 0⟩], 1)) e w') := fun w2 hB2 => by
      have hB1 : Below W.heap.size W (w2.alloc (.cells (sC ⟨1, foldS u.tok.tx, 0, ⟨#[]⟩, 0, 0⟩).toArray 40)) := hB2.alloc hB2.size _
      have hx1 : (w2.alloc (.cells (sC ⟨1, foldS u.tok.tx, 0, ⟨#[]⟩, 0, 0⟩).toArray 40)).heap[w2.heap.size]? = some (.cells (sC ⟨1, foldS u.tok.tx, 0, ⟨#[]⟩, 0, 0⟩).toArray 40 (0, 0)) := heap_alloc_last w2 _
      refine (told_any (h.then hB1).self 1 hlen (g := w2.heap.size) (m := 1) (c := 1) (cs := sC ⟨1, foldS u.tok.tx, 0, ⟨#[]⟩, 0, 0⟩) (by have := h.lt; have := hB2.size; omega) (by simp) (by decide) rfl (fun j u hu => by rw [cellAt hx1 j]; simpa using hu) (sC_one _)).mono ?_
      rintro e w' ⟨v', rfl, ho, hr⟩
      exact ⟨v', rfl, ⟨ho.1, ho.2.imp id fun ⟨g, cap, cur, x1, x2, x3⟩ => ⟨g, cap, cur, x1, Nat.le_trans hB1.size x2, x3⟩⟩, (h.then hB1).from hr⟩
    rw [hE]
    cases hk1 : ahd vs 0 1 with
    | true =>
      rw [hk1] at ha
      clear h h1 hs hn hE hk hk1 q0 q4 q5 hkv hu hd hz
      go_enter Tryz.func91, Tryz.ntmps91
      go_wp2_with (go_at_call 37; fail)
      refine ha.mono ?_
      rintro e w1 ⟨rfl, rfl⟩
      clear ha
      go_wp2_with (go_at_call 59; fail)
      refine hfo.mono ?_
      rintro e w2 ⟨rfl, hB2⟩
      have htl := HT.out w2 hB2
      clear hfo HT hB2
      go_wp2_with (go_at_call 102; fail)
      refine htl.mono ?_
      rintro e w3 ⟨v', rfl, ho, hr⟩
      have HZ : Hid (Way lo w1 b kids vs (some ([⟨1, foldS u.tok.tx, 0, ⟨#[]⟩, 0, 0⟩], 1)) (.returned v') w3) := ⟨v', rfl, ho, hr⟩
      clear htl ho hr
      go_wp2
      go_ret
      exact HZ.out
    | false =>
      have hk2 : dlm vs 0 starB = true := by rw [hk1, Bool.false_or] at hk; exact hk
      rw [hk1] at ha
      rw [hk2] at hd
      unfold starB at hd
      clear h h1 hs hn hE hk hk1 hk2 q0 q4 q5 hkv hu hz
      go_enter Tryz.func91, Tryz.ntmps91
      go_wp2_with (go_at_call 37; fail)
      refine ha.mono ?_
      rintro e w1 ⟨rfl, rfl⟩
      clear ha
      go_wp2_with (go_at_call 101; fail)
      refine hd.mono ?_
      rintro e w1 ⟨rfl, rfl⟩
      clear hd
      go_wp2_with (go_at_call 59; fail)
      refine hfo.mono ?_
      rintro e w2 ⟨rfl, hB2⟩
      have htl := HT.out w2 hB2
      clear hfo HT hB2
      go_wp2_with (go_at_call 102; fail)
      refine htl.mono ?_
      rintro e w3 ⟨v', rfl, ho, hr⟩
      have HZ : Hid (Way lo w1 b kids vs (some ([⟨1, foldS u.tok.tx, 0, ⟨#[]⟩, 0, 0⟩], 1)) (.returned v') w3) := ⟨v', rfl, ho, hr⟩
      clear htl ho hr
      go_wp2
      go_ret
      exact HZ.out
  · have hk0 : (ahd vs 0 1 || dlm vs 0 starB) = false := by simpa using hk
    rw [Bool.or_eq_false_iff] at hk0
    rw [tagR_none (by rw [hk0.1, hk0.2]; rfl)]
    rw [hk0.1] at ha
    rw [hk0.2] at hd
    unfold starB at hd
    clear h hk hk0 hz
    go_enter Tryz.func91, Tryz.ntmps91
    go_wp2_with (go_at_call 37; fail)
    refine ha.mono ?_
    rintro e w1 ⟨rfl, rfl⟩
    clear ha
    go_wp2_with (go_at_call 101; fail)
    refine hd.mono ?_
    rintro e w1 ⟨rfl, rfl⟩
    clear hd
    go_wp2
    go_ret
    exact ⟨rfl, Below.refl _ _⟩
end Go.Proofs.YtdibldcnklgcjaaGreatDoor.L
namespace Go.Proofs.YtdibldcnklgcjaaGreatDoor.L
open Go.RowKit
set_option maxRecDepth 100000

theorem Signs.lt {W : World} (h : Signs W) {j : Nat} {v : Value} (hv : sgnC[j]? = some v) : sgB < W.heap.size := by
  have h1 := h j v hv
  rcases Nat.lt_or_ge sgB W.heap.size with h0 | h0
  · exact h0
  · have : W.heap[sgB]? = none := Array.getElem?_eq_none h0
    simp [World.cell?, this] at h1
theorem Signs.keep {W W' : World} (h : Signs W) (hb : Below W.heap.size W W') : Signs W' := fun j v hv => by
  have h1 := h j v hv
  have hl := h.lt (v := v) hv
  exact (cell_of_heap (hb.block sgB hl)).trans h1
theorem Signs.keepX {W W' : World} {b : Nat} (h : Signs W) (hb : KeepX b W W') (hn : b ≠ sgB) : Signs W' := fun j v hv => by
  have h1 := h j v hv
  have hl := h.lt (v := v) hv
  exact (cell_of_heap (hb.block sgB hl (by omega))).trans h1
/-- The kind that a colon and a function mean; 0: none. -/
def fnR (vs : List V) : Int := match vs[1]? with
  | some u => if (ahd vs 0 16 && ahd vs 1 2) = true then numZ 2 (foldS u.tok.tx) else 0
  | none => 0
theorem ahd_some {vs : List V} {i : Nat} {k : Int} (h : ahd vs i k = true) : ∃ u, vs[i]? = some u := by
  unfold ahd at h
  cases hu : vs[i]? with
  | none => rw [hu] at h; cases h
  | some u => exact ⟨u, rfl⟩
theorem fnR_no {vs : List V} (h : (ahd vs 0 16 && ahd vs 1 2) = false) : fnR vs = 0 := by
  unfold fnR
  cases vs[1]? with
  | none => rfl
  | some u => simp only []; rw [if_neg (by rw [h]; decide)]

set_option maxHeartbeats 1000000 in
theorem function_any {W0 W : World} {lo b : Nat} {kids : Value} {vs : List V} (h : Rd lo W0 b kids vs W) (hsg : Signs W) (hz : ∀ v ∈ vs, v.tok.tx.size ≤ 1000000000000) :
    Calls Tryz.prog 111 #[.pointer (some ⟨b, 0, none⟩)] W fun e w' => e = .returned (.int .i64 (fnR vs)) ∧ Below W.heap.size W w' := by
  have ha := ahead_any h 0 16
  have ha2 := ahead_any h 1 2
  cases hk1 : ahd vs 0 16 with
  | false =>
    rw [fnR_no (by rw [hk1]; rfl)]
    rw [hk1] at ha
    clear h hsg hz hk1 ha2
    go_enter Tryz.func111, Tryz.ntmps111
    go_wp2_with (go_at_call 37; fail)
    refine ha.mono ?_
    rintro e w1 ⟨rfl, rfl⟩
    clear ha
    go_wp2
    go_ret
    exact ⟨rfl, Below.refl _ _⟩
  | true =>
    cases hk2 : ahd vs 1 2 with
    | false =>
      rw [fnR_no (by rw [hk1, hk2]; rfl)]
      rw [hk1] at ha
      rw [hk2] at ha2
      clear h hsg hz hk1 hk2
      go_enter Tryz.func111, Tryz.ntmps111
      go_wp2_with (go_at_call 37; fail)
      refine ha.mono ?_
      rintro e w1 ⟨rfl, rfl⟩
      clear ha
      go_wp2_with (go_at_call 37; fail)
      refine ha2.mono ?_
      rintro e w1 ⟨rfl, rfl⟩
      clear ha2
      go_wp2
      go_ret
      exact ⟨rfl, Below.refl _ _⟩
    | true =>
      obtain ⟨u, hu⟩ := ahd_some hk2
      have HE : Hid (fnR vs = numZ 2 (foldS u.tok.tx)) := by
        rw [Hid]
        unfold fnR
        rw [hu]
        simp only [hk1, hk2, Bool.and_self, if_true]
      have hus : u.tok.tx.size ≤ 1000000000000 := hz u (List.mem_of_getElem? hu)
      obtain ⟨a, n, cap, hn, hc1, hc2, h1, _, hs⟩ := h.see
      have c0 : W.cell? ⟨b, 0, none⟩ = some (.slice a n cap) := cellAt h1 0
      obtain ⟨hl, g, off, kv, rfl, q0, q1, q4, q5, hkv⟩ := hs 1 u hu
      rw [Nat.one_mul] at q0 q1 q4 q5
      have hfo := fold_any u.tok.tx W hus
      have HN : Hid (∀ w2, Below W.heap.size W w2 → _) := fun w2 hB => number_any (hsg.keep hB) 2 (foldS u.tok.tx)
      rw [HE.out]
      rw [hk1] at ha
      rw [hk2] at ha2
      clear h h1 hs hn HE hk1 hk2 q0 q4 q5 hkv hu hz hsg
      go_enter Tryz.func111, Tryz.ntmps111
      go_wp2_with (go_at_call 37; fail)
      refine ha.mono ?_
      rintro e w1 ⟨rfl, rfl⟩
      clear ha
      go_wp2_with (go_at_call 37; fail)
      refine ha2.mono ?_
      rintro e w1 ⟨rfl, rfl⟩
      clear ha2
      go_wp2_with (go_at_call 59; fail)
      refine hfo.mono ?_
      rintro e w2 ⟨rfl, hB2⟩
      have hnu := HN.out w2 hB2
      have HB2 := hid_mk hB2
      clear hfo HN hB2
      go_wp2_with (go_at_call 93; fail)
      refine hnu.mono ?_
      rintro e w3 ⟨rfl, hB3⟩
      have HB3 := hid_mk (HB2.out.trans (hB3.mono HB2.out.size))
      clear hnu hB3
      go_wp2
      go_ret
      exact ⟨rfl, HB3.out⟩
end Go.Proofs.YtdibldcnklgcjaaGreatDoor.L
namespace Go.Proofs.YtdibldcnklgcjaaGreatDoor.L
open Go.RowKit
set_option maxRecDepth 100000

def eqB : ByteArray := ⟨#[61]⟩
/-- The operator that stands here, and how many values it is. -/
def opR (vs : List V) : Int × Nat := if dlm vs 0 eqB = true then (1, 1) else if (ahd vs 0 9 && dlm vs 1 eqB) = true then (match vs[0]? with
  | some v => numZ 1 v.tok.tx
  | none => 0, 2) else (0, 0)
theorem dlm_lt {vs : List V} {i : Nat} {s : ByteArray} (h : dlm vs i s = true) : i < vs.length := by
  unfold dlm at h
  cases hu : vs[i]? with
  | none => rw [hu] at h; cases h
  | some u => exact (List.getElem?_eq_some_iff.1 hu).1

set_option maxHeartbeats 1000000 in
theorem operator_any {W : World} {lo b : Nat} {kids : Value} {vs : List V} (h : Rd lo W b kids vs W) (hsg : Signs W) :
    Calls Tryz.prog 113 #[.pointer (some ⟨b, 0, none⟩)] W fun e w' => e = .returned (.int .i64 (opR vs).1) ∧ Rd lo W b kids (vs.drop (opR vs).2) w' := by
  have hd := delim_any h 0 eqB
  have ha := ahead_any h 0 9
  have hd1 := delim_any h 1 eqB
  cases hk : dlm vs 0 eqB with
  | true =>
    have HE : Hid (opR vs = (1, 1)) := by rw [Hid, opR, if_pos hk]
    have hsk := skip_any h 1 (dlm_lt hk)
    rw [HE.out]
    rw [hk] at hd
    unfold eqB at hd
    clear h hsg ha hd1 hk HE
    go_enter Tryz.func113, Tryz.ntmps113
    go_wp2_with (go_at_call 101; fail)
    refine hd.mono ?_
    rintro e w1 ⟨rfl, rfl⟩
    clear hd
    go_wp2_with (go_at_call 38; fail)
    refine hsk.mono ?_
    rintro e w2 ⟨rfl, hR⟩
    have HR := hid_mk hR
    clear hsk hR
    go_wp2
    go_ret
    exact ⟨rfl, HR.out⟩
  | false =>
    rw [hk] at hd
    unfold eqB at hd
    cases hk1 : ahd vs 0 9 with
    | false =>
      have HE : Hid (opR vs = (0, 0)) := by rw [Hid, opR, if_neg (by rw [hk]; decide), if_neg (by rw [hk1]; simp)]
      have HR := hid_mk h
      rw [HE.out]
      rw [hk1] at ha
      clear h hsg hd1 hk hk1 HE
      go_enter Tryz.func113, Tryz.ntmps113
      go_wp2_with (go_at_call 101; fail)
      refine hd.mono ?_
      rintro e w1 ⟨rfl, rfl⟩
      clear hd
      go_wp2_with (go_at_call 37; fail)
      refine ha.mono ?_
      rintro e w1 ⟨rfl, rfl⟩
      clear ha
      go_wp2
      go_ret
      exact ⟨rfl, HR.out⟩
    | true =>
      cases hk2 : dlm vs 1 eqB with
      | false =>
        have HE : Hid (opR vs = (0, 0)) := by rw [Hid, opR, if_neg (by rw [hk]; decide), if_neg (by rw [hk2]; simp)]
        have HR := hid_mk h
        rw [HE.out]
        rw [hk1] at ha
        rw [hk2] at hd1
        unfold eqB at hd1
        clear h hsg hk hk1 hk2 HE
        go_enter Tryz.func113, Tryz.ntmps113
        go_wp2_with (go_at_call 101; fail)
        refine hd.mono ?_
        rintro e w1 ⟨rfl, rfl⟩
        clear hd
        go_wp2_with (go_at_call 37; fail)
        refine ha.mono ?_
        rintro e w1 ⟨rfl, rfl⟩
        clear ha
        go_wp2_with (go_at_call 101; fail)
        refine hd1.mono ?_
        rintro e w1 ⟨rfl, rfl⟩
        clear hd1
        go_wp2
        go_ret
        exact ⟨rfl, HR.out⟩
      | true =>
        obtain ⟨u, hu⟩ := ahd_some hk1
        have HE : Hid (opR vs = (numZ 1 u.tok.tx, 2)) := by rw [Hid, opR, if_neg (by rw [hk]; decide), if_pos (by rw [hk1, hk2]; rfl), hu]
        obtain ⟨a, n, cap, hn, hc1, hc2, h1, _, hs⟩ := h.see
        have c0 : W.cell? ⟨b, 0, none⟩ = some (.slice a n cap) := cellAt h1 0
        obtain ⟨hl, g, off, kv, rfl, q0, q1, q4, q5, hkv⟩ := hs 0 u hu
        rw [Nat.zero_mul, Nat.add_zero] at q0 q1 q4 q5
        have hnu := number_any hsg 1 u.tok.tx
        have HSK : Hid (∀ w2, Below W.heap.size W w2 → Calls Tryz.prog 38 #[.pointer (some ⟨b, 0, none⟩), .int .i64 2] w2 fun e w' => e = .returned (.tuple #[]) ∧ Rd lo W b kids (vs.drop 2) w') := fun w2 hB => (skip_any (h.then hB).self 2 (dlm_lt hk2)).mono fun e w' q => ⟨q.1, (h.then hB).from q.2⟩
        rw [HE.out]
        rw [hk1] at ha
        rw [hk2] at hd1
        unfold eqB at hd1
        clear h h1 hs hn HE hk hk1 hk2 q0 q4 q5 hkv hu hsg
        go_enter Tryz.func113, Tryz.ntmps113
        go_wp2_with (go_at_call 101; fail)
        refine hd.mono ?_
        rintro e w1 ⟨rfl, rfl⟩
        clear hd
        go_wp2_with (go_at_call 37; fail)
        refine ha.mono ?_
        rintro e w1 ⟨rfl, rfl⟩
        clear ha
        go_wp2_with (go_at_call 101; fail)
        refine hd1.mono ?_
        rintro e w1 ⟨rfl, rfl⟩
        clear hd1
        go_wp2_with (go_at_call 93; fail)
        refine hnu.mono ?_
        rintro e w2 ⟨rfl, hB2⟩
        have hsk := HSK.out w2 hB2
        clear hnu hB2 HSK
        go_wp2_with (go_at_call 38; fail)
        refine hsk.mono ?_
        rintro e w3 ⟨rfl, hR⟩
        have HR := hid_mk hR
        clear hsk hR
        go_wp2
        go_ret
        exact ⟨rfl, HR.out⟩
end Go.Proofs.YtdibldcnklgcjaaGreatDoor.L
namespace Go.Proofs.YtdibldcnklgcjaaGreatDoor.L
open Go.RowKit
set_option maxRecDepth 100000

theorem ssC_len : ∀ l : List S6, (ssC l).length = l.length * 7
  | [] => rfl
  | s :: l => by
    have := ssC_len l
    simp only [ssC, List.flatMap_cons, List.length_append, List.length_cons] at this ⊢
    rw [this, sC_len]
    omega
theorem ssC_one (l : List S6) : ∀ u ∈ ssC l, u.oneCell' = true := by
  intro u hu
  obtain ⟨s, _, hs⟩ := List.mem_flatMap.1 hu
  exact sC_one s u hs
/-- 'told(n, l...)' behind whatever made memory since the reader was looked at. -/
theorem told_lit {W : World} {lo b : Nat} {kids : Value} {vs : List V} (h : Rd lo W b kids vs W) (l : List S6) (n : Nat) (hn : n ≤ vs.length) (hl : l.length ≤ 10) (w2 : World) (hB2 : Below W.heap.size W w2) :
    Calls Tryz.prog 102 #[.pointer (some ⟨b, 0, none⟩), .int .i64 (n : Int), .slice (some ⟨w2.heap.size, 0, none⟩) l.length l.length] (w2.alloc (.cells (ssC l).toArray 40)) (Way lo W b kids vs (some (l, n))) := by
  have hB1 : Below W.heap.size W (w2.alloc (.cells (ssC l).toArray 40)) := hB2.alloc hB2.size _
  have hx1 : (w2.alloc (.cells (ssC l).toArray 40)).heap[w2.heap.size]? = some (.cells (ssC l).toArray 40 (0, 0)) := heap_alloc_last w2 _
  refine (told_any (h.then hB1).self n hn (g := w2.heap.size) (m := l.length) (c := l.length) (cs := ssC l) (by have := h.lt; have := hB2.size; omega) (by simp) hl (ssC_len l) (fun j u hu => by rw [cellAt hx1 j]; simpa using hu) (ssC_one l)).mono ?_
  rintro e w' ⟨v', rfl, ho, hr⟩
  exact ⟨v', rfl, ⟨ho.1, ho.2.imp id fun ⟨g, cap, cur, x1, x2, x3⟩ => ⟨g, cap, cur, x1, Nat.le_trans hB1.size x2, x3⟩⟩, (h.then hB1).from hr⟩
end Go.Proofs.YtdibldcnklgcjaaGreatDoor.L
namespace Go.Proofs.YtdibldcnklgcjaaGreatDoor.L
open Go.RowKit
set_option maxRecDepth 100000

def nthS (k : Int) : S6 := ⟨k, ⟨#[]⟩, 0, ⟨#[]⟩, 0, 1⟩
/-- What a name behind a colon means. -/
def stL (nm : ByteArray) : Option (List S6 × Nat) :=
  if (nm.toList == [102, 105, 114, 115, 116, 45, 99, 104, 105, 108, 100]) = true then some ([nthS 8], 2) else if (nm.toList == [108, 97, 115, 116, 45, 99, 104, 105, 108, 100]) = true then some ([nthS 9], 2) else if (nm.toList == [111, 110, 108, 121, 45, 99, 104, 105, 108, 100]) = true then some ([nthS 8, nthS 9], 2)
  else if numZ 2 nm = 10 ∨ numZ 2 nm = 11 then some ([⟨numZ 2 nm, ⟨#[]⟩, 0, ⟨#[]⟩, 0, 0⟩], 2) else none
def stateR (vs : List V) : Option (List S6 × Nat) := match vs[1]? with
  | some u => if (ahd vs 0 16 && ahd vs 1 1) = true then stL (foldS u.tok.tx) else none
  | none => none
theorem stateR_no {vs : List V} (h : (ahd vs 0 16 && ahd vs 1 1) = false) : stateR vs = none := by
  unfold stateR
  cases vs[1]? with
  | none => rfl
  | some u => simp only []; rw [if_neg (by rw [h]; decide)]

set_option maxHeartbeats 1000000 in
theorem state_any {W : World} {lo b : Nat} {kids : Value} {vs : List V} (h : Rd lo W b kids vs W) (hsg : Signs W) (hz : ∀ v ∈ vs, v.tok.tx.size ≤ 1000000000000) :
    Calls Tryz.prog 106 #[.pointer (some ⟨b, 0, none⟩)] W (Way lo W b kids vs (stateR vs)) := by
  have ha := ahead_any h 0 16
  have ha2 := ahead_any h 1 1
  cases hk1 : ahd vs 0 16 with
  | false =>
    rw [stateR_no (by rw [hk1]; rfl)]
    rw [hk1] at ha
    clear h hsg hz hk1 ha2
    go_enter Tryz.func106, Tryz.ntmps106
    go_wp2_with (go_at_call 37; fail)
    refine ha.mono ?_
    rintro e w1 ⟨rfl, rfl⟩
    clear ha
    go_wp2
    go_ret
    exact ⟨rfl, Below.refl _ _⟩
  | true =>
  cases hk2 : ahd vs 1 1 with
  | false =>
    rw [stateR_no (by rw [hk1, hk2]; rfl)]
    rw [hk1] at ha
    rw [hk2] at ha2
    clear h hsg hz hk1 hk2
    go_enter Tryz.func106, Tryz.ntmps106
    go_wp2_with (go_at_call 37; fail)
    refine ha.mono ?_
    rintro e w1 ⟨rfl, rfl⟩
    clear ha
    go_wp2_with (go_at_call 37; fail)
    refine ha2.mono ?_
    rintro e w1 ⟨rfl, rfl⟩
    clear ha2
    go_wp2
    go_ret
    exact ⟨rfl, Below.refl _ _⟩
  | true =>
  obtain ⟨u, hu⟩ := ahd_some hk2
  have hlen : 2 ≤ vs.length := (List.getElem?_eq_some_iff.1 hu).1
  have HE0 : Hid (stateR vs = stL (foldS u.tok.tx)) := by
    rw [Hid]
    unfold stateR
    rw [hu]
    simp only [hk1, hk2, Bool.and_self, if_true]
  have hus : u.tok.tx.size ≤ 1000000000000 := hz u (List.mem_of_getElem? hu)
  obtain ⟨a, n, cap, hn, hc1, hc2, h1, _, hs⟩ := h.see
  have c0 : W.cell? ⟨b, 0, none⟩ = some (.slice a n cap) := cellAt h1 0
  obtain ⟨hl, g, off, kv, rfl, q0, q1, q4, q5, hkv⟩ := hs 1 u hu
  rw [Nat.one_mul] at q0 q1 q4 q5
  have hfo := fold_any u.tok.tx W hus
  have HT : Hid (∀ l w3, Below W.heap.size W w3 → l.length ≤ 10 → Calls Tryz.prog 102 #[.pointer (some ⟨b, 0, none⟩), .int .i64 2, .slice (some ⟨w3.heap.size, 0, none⟩) l.length l.length] (w3.alloc (.cells (ssC l).toArray 40)) (Way lo W b kids vs (some (l, 2)))) := fun l w3 hB hl => told_lit h l 2 hlen hl w3 hB
  have HN : Hid (∀ nm w3, Below W.heap.size W w3 → Calls Tryz.prog 93 #[.int .i64 2, .string nm] w3 fun e w' => e = .returned (.int .i64 (numZ 2 nm)) ∧ Below w3.heap.size w3 w') := fun nm w3 hB => number_any (hsg.keep hB) 2 nm
  rw [HE0.out]
  rw [hk1] at ha
  rw [hk2] at ha2
  generalize foldS u.tok.tx = nm at *
  clear h h1 hs hn hk1 hk2 q0 q4 q5 hkv hu hz HE0 hsg
  go_enter Tryz.func106, Tryz.ntmps106
  go_wp2_with (go_at_call 37; fail)
  refine ha.mono ?_
  rintro e w1 ⟨rfl, rfl⟩
  clear ha
  go_wp2_with (go_at_call 37; fail)
  refine ha2.mono ?_
  rintro e w1 ⟨rfl, rfl⟩
  clear ha2
  go_wp2_with (go_at_call 59; fail)
  refine hfo.mono ?_
  rintro e w2 ⟨rfl, hB2⟩
  obtain ⟨W3, hW3⟩ : ∃ W3, W3 = (w2.alloc (.cells #[.int .i64 8, .string ⟨#[]⟩, .int .i64 0, .string ⟨#[]⟩, .int .i64 0, .int .i64 1, .slice none 0 0] 40)).alloc (.cells #[.int .i64 9, .string ⟨#[]⟩, .int .i64 0, .string ⟨#[]⟩, .int .i64 0, .int .i64 1, .slice none 0 0] 40) := ⟨_, rfl⟩
  have HB3 : Hid (Below w1.heap.size w1 W3) := by rw [Hid, hW3]; exact (hB2.alloc hB2.size _).alloc (by have := hB2.size; simp; omega) _
  have x8 : W3.heap[w2.heap.size]? = some (.cells #[.int .i64 8, .string ⟨#[]⟩, .int .i64 0, .string ⟨#[]⟩, .int .i64 0, .int .i64 1, .slice none 0 0] 40 (0, 0)) := by
    rw [hW3, Below.heap_alloc _ _ _ (by simp)]
    exact heap_alloc_last w2 _
  have x9 : W3.heap[w2.heap.size + 1]? = some (.cells #[.int .i64 9, .string ⟨#[]⟩, .int .i64 0, .string ⟨#[]⟩, .int .i64 0, .int .i64 1, .slice none 0 0] 40 (0, 0)) := by
    have e : w2.heap.size + 1 = (w2.alloc (.cells #[.int .i64 8, .string ⟨#[]⟩, .int .i64 0, .string ⟨#[]⟩, .int .i64 0, .int .i64 1, .slice none 0 0] 40)).heap.size := by simp
    rw [hW3, e]
    exact heap_alloc_last _ _
  have HW3 := hid_mk hW3
  clear hfo hB2 q1 c0 hW3
  go_upto_if 27 with (fail)
  rw [← HW3.out]
  clear HW3
  have a0 := cellAt x8 0
  have a1 := cellAt x8 1
  have a2 := cellAt x8 2
  have a3 := cellAt x8 3
  have a4 := cellAt x8 4
  have a5 := cellAt x8 5
  have a6 := cellAt x8 6
  have b0 := cellAt x9 0
  have b1 := cellAt x9 1
  have b2 := cellAt x9 2
  have b3 := cellAt x9 3
  have b4 := cellAt x9 4
  have b5 := cellAt x9 5
  have b6 := cellAt x9 6
  clear x8 x9
  cases t1 : (nm.toList == [102, 105, 114, 115, 116, 45, 99, 104, 105, 108, 100]) with
  | true =>
    have HE : Hid (stL nm = some ([nthS 8], 2)) := by rw [Hid, stL, if_pos t1]
    clear t1
    have htl := HT.out [nthS 8] W3 HB3.out (by decide)
    rw [show (ssC [nthS 8]).toArray = #[.int .i64 8, .string ⟨#[]⟩, .int .i64 0, .string ⟨#[]⟩, .int .i64 0, .int .i64 1, .slice none 0 0] from rfl] at htl
    clear HT HN
    go_wp2_with (go_at_call 102; fail)
    refine htl.mono ?_
    rintro e w5 ⟨v', rfl, ho, hr⟩
    have HZ : Hid (Way lo w1 b kids vs (some ([nthS 8], 2)) (.returned v') w5) := ⟨v', rfl, ho, hr⟩
    clear htl ho hr
    go_wp2
    go_ret
    rw [HE.out]
    exact HZ.out
  | false =>
  cases t2 : (nm.toList == [108, 97, 115, 116, 45, 99, 104, 105, 108, 100]) with
  | true =>
    have HE : Hid (stL nm = some ([nthS 9], 2)) := by rw [Hid, stL, if_neg (by rw [t1]; decide), if_pos t2]
    clear t1
    have htl := HT.out [nthS 9] W3 HB3.out (by decide)
    rw [show (ssC [nthS 9]).toArray = #[.int .i64 9, .string ⟨#[]⟩, .int .i64 0, .string ⟨#[]⟩, .int .i64 0, .int .i64 1, .slice none 0 0] from rfl] at htl
    clear HT HN
    go_wp2_with (go_at_call 102; fail)
    refine htl.mono ?_
    rintro e w5 ⟨v', rfl, ho, hr⟩
    have HZ : Hid (Way lo w1 b kids vs (some ([nthS 9], 2)) (.returned v') w5) := ⟨v', rfl, ho, hr⟩
    clear htl ho hr
    go_wp2
    go_ret
    rw [HE.out]
    exact HZ.out
  | false =>
  cases t3 : (nm.toList == [111, 110, 108, 121, 45, 99, 104, 105, 108, 100]) with
  | true =>
    have HE : Hid (stL nm = some ([nthS 8, nthS 9], 2)) := by rw [Hid, stL, if_neg (by rw [t1]; decide), if_neg (by rw [t2]; decide), if_pos t3]
    clear t1
    have htl := HT.out [nthS 8, nthS 9] W3 HB3.out (by decide)
    rw [show (ssC [nthS 8, nthS 9]).toArray = #[.int .i64 8, .string ⟨#[]⟩, .int .i64 0, .string ⟨#[]⟩, .int .i64 0, .int .i64 1, .slice none 0 0, .int .i64 9, .string ⟨#[]⟩, .int .i64 0, .string ⟨#[]⟩, .int .i64 0, .int .i64 1, .slice none 0 0] from rfl] at htl
    clear HT HN
    go_wp2_with (go_at_call 102; fail)
    refine htl.mono ?_
    rintro e w5 ⟨v', rfl, ho, hr⟩
    have HZ : Hid (Way lo w1 b kids vs (some ([nthS 8, nthS 9], 2)) (.returned v') w5) := ⟨v', rfl, ho, hr⟩
    clear htl ho hr
    go_wp2
    go_ret
    rw [HE.out]
    exact HZ.out
  | false =>
  have HE0 : Hid (stL nm = if numZ 2 nm = 10 ∨ numZ 2 nm = 11 then some ([⟨numZ 2 nm, ⟨#[]⟩, 0, ⟨#[]⟩, 0, 0⟩], 2) else none) := by rw [Hid, stL, if_neg (by rw [t1]; decide), if_neg (by rw [t2]; decide), if_neg (by rw [t3]; decide)]
  have hnu := HN.out nm W3 HB3.out
  generalize numZ 2 nm = z at *
  clear t1 HN a0 a1 a2 a3 a4 a5 a6 b0 b1 b2 b3 b4 b5 b6
  go_wp2_with (go_at_call 93; fail)
  refine hnu.mono ?_
  rintro e w4 ⟨rfl, hB4⟩
  have HB4 : Hid (Below w1.heap.size w1 w4) := HB3.out.trans (hB4.mono HB3.out.size)
  clear hnu hB4 HB3
  by_cases hz : z = 10 ∨ z = 11
  · have HE : Hid (stL nm = some ([⟨z, ⟨#[]⟩, 0, ⟨#[]⟩, 0, 0⟩], 2)) := by rw [Hid, HE0.out, if_pos hz]
    have htl := HT.out [⟨z, ⟨#[]⟩, 0, ⟨#[]⟩, 0, 0⟩] w4 HB4.out (by simp)
    rw [show (ssC [⟨z, ⟨#[]⟩, 0, ⟨#[]⟩, 0, 0⟩]).toArray = #[.int .i64 z, .string ⟨#[]⟩, .int .i64 0, .string ⟨#[]⟩, .int .i64 0, .int .i64 0, .slice none 0 0] from rfl] at htl
    clear HE0 HT
    rcases hz with hz | hz
    · have n1 : (z != 10) = false := by rw [hz]; rfl
      have HZ0 := hid_mk hz
      clear hz
      go_wp2_with (go_at_call 102; fail)
      refine htl.mono ?_
      rintro e w5 ⟨v', rfl, ho, hr⟩
      have HZ : Hid (Way lo w1 b kids vs (some ([⟨z, ⟨#[]⟩, 0, ⟨#[]⟩, 0, 0⟩], 2)) (.returned v') w5) := ⟨v', rfl, ho, hr⟩
      clear htl ho hr
      go_wp2
      go_ret
      rw [HE.out]
      exact HZ.out
    · have n1 : (z != 10) = true := by rw [hz]; rfl
      have n2 : (z != 11) = false := by rw [hz]; rfl
      have HZ0 := hid_mk hz
      clear hz
      go_wp2_with (go_at_call 102; fail)
      refine htl.mono ?_
      rintro e w5 ⟨v', rfl, ho, hr⟩
      have HZ : Hid (Way lo w1 b kids vs (some ([⟨z, ⟨#[]⟩, 0, ⟨#[]⟩, 0, 0⟩], 2)) (.returned v') w5) := ⟨v', rfl, ho, hr⟩
      clear htl ho hr
      go_wp2
      go_ret
      rw [HE.out]
      exact HZ.out
  · have HE : Hid (stL nm = none) := by rw [Hid, HE0.out, if_neg hz]
    have n1 : (z != 10) = true := bne_iff_ne.2 fun h => hz (.inl h)
    have n2 : (z != 11) = true := bne_iff_ne.2 fun h => hz (.inr h)
    clear hz HE0 HT
    go_wp2
    go_ret
    rw [HE.out]
    exact ⟨rfl, HB4.out⟩
end Go.Proofs.YtdibldcnklgcjaaGreatDoor.L
