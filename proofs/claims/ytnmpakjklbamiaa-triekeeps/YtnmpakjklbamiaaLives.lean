/- The document's examples of tries are as it says. -/
import Derived.Test.YtnmpakjklbamiaaOpsS
namespace Go.Proofs.Ytnmpakjklbamiaa
open Go.RowKit S
set_option maxRecDepth 100000

theorem put_way {lo : Nat} {x : T} : ∀ {L n m : Nat} {t t' : T}, (∀ l, 1 ≤ l → l ≤ L → prt m l = prt n l) → PutT lo L t n x t' → wayT (L + 1) t' m = L + 1
  | 0, _, _, _, _, _, ⟨_, _, e⟩ => by rw [e]; rfl
  | L + 1, n, m, t, _, h, ⟨_, y, _, hy, e⟩ => by
    rw [e, wayT, h (L + 1) (by omega) (by omega), upd_same, put_way (fun l h1 h2 => h l h1 (by omega)) hy]
set_option maxHeartbeats 1000000 in
theorem lives_any (w : World) : Calls Try.prog 9 #[] w fun e w' => e = .returned (.bool true) ∧ Below w.heap.size w w' := by
  have h0 := new_any w
  go_enter Try.func9, Try.ntmps9
  go_wp2_with (go_at_call 10; fail)
  refine h0.mono ?_
  rintro e w1 ⟨b1, b0, rfl, _, _, hT1, hB1⟩
  clear h0
  have h1 := put_in hT1 1 (by decide) ⟨#[97]⟩
  go_wp2_with (go_at_call 13; fail)
  refine h1.mono ?_
  rintro e w2 ⟨b2, bv2, t2, rfl, _, hT2, hP2, hB2⟩
  clear h1
  have h2 := put_in hT2 2 (by decide) ⟨#[98]⟩
  go_wp2_with (go_at_call 13; fail)
  refine h2.mono ?_
  rintro e w3 ⟨b3, bv3, t3, rfl, _, hT3, hP3, hB3⟩
  clear h2
  have hx2 : wfT 0 (.val bv2 (.string ⟨#[97]⟩)) := fun _ _ e => by cases e
  have hx3 : wfT 0 (.val bv3 (.string ⟨#[98]⟩)) := fun _ _ e => by cases e
  have cnt2 : cntT t2 = 5 := by
    have := put_cnt hx2 hT1.wf hP2
    rw [new_cnt, show wayT (4 + 1) (newT b0) 1 = 1 from rfl] at this
    omega
  have cnt3 : cntT t3 = 5 := by
    have := put_cnt hx3 hT2.wf hP3
    rw [cnt2, put_way (m := 2) (fun l h1 h2 => by
      have : l = 1 ∨ l = 2 ∨ l = 3 ∨ l = 4 := by omega
      rcases this with rfl | rfl | rfl | rfl <;> rfl) hP2] at this
    omega
  have sz2 : szT t2 = 1 := by
    have := put_sz hx2 hT1.wf hP2
    rw [new_sz, show findT (4 + 1) (newT b0) 1 = .nil from rfl] at this
    simpa [T.one, T.isVal] using this
  have sz3 : szT t3 = 2 := by
    have := put_sz hx3 hT2.wf hP3
    rw [sz2, put_find hP2, if_neg (by decide), show findT (4 + 1) (newT b0) 2 = .nil from rfl] at this
    simpa [T.one, T.isVal] using this
  have fr3 : freshT t3 t2 = 5 := fresh_put hT2.held.low hP3
  have gv3 : getV t3 1 = some (.string ⟨#[97]⟩) := by
    rw [show (1 : Int) = ((1 : Nat) : Int) from rfl, put_getV (by decide) hP3, if_neg (by decide), put_getV (by decide) hP2, if_pos rfl]
  have h4 := get_c hT3 1
  rw [gv3] at h4
  have hB13 := (hB1.trans ((hB2.trans (hB3.mono hB2.size)).mono hB1.size))
  have h4' : Calls Try.prog 15 #[.pointer (some ⟨b3, 0, none⟩), .int .i64 1] w3 fun e w' => e = .returned (.tuple #[.string ⟨#[97]⟩, .bool true]) ∧ Below w3.heap.size w3 w' := h4
  have HL2 : Hid (∀ w', Below w3.heap.size w3 w' → Calls Try.prog 26 #[.pointer (some ⟨b2, 0, none⟩)] w' fun e w'' => e = .returned (.int .i64 1) ∧ w'' = w') := fun w' hw' => by
    have := len_any (TrAt.keep (TrAt.keep hT2 hB3) hw')
    rwa [sz2] at this
  have HL3 : Hid (∀ w', Below w3.heap.size w3 w' → Calls Try.prog 26 #[.pointer (some ⟨b3, 0, none⟩)] w' fun e w'' => e = .returned (.int .i64 2) ∧ w'' = w') := fun w' hw' => by
    have := len_any (TrAt.keep hT3 hw')
    rwa [sz3] at this
  have HN3 : Hid (∀ w', Below w3.heap.size w3 w' → Calls Try.prog 27 #[.pointer (some ⟨b3, 0, none⟩)] w' fun e w'' => e = .returned (.int .i64 5) ∧ w'' = w') := fun w' hw' => by
    have := nodes_any (TrAt.keep hT3 hw')
    rwa [cnt3] at this
  have HF : Hid (∀ w', Below w3.heap.size w3 w' → Calls Try.prog 18 #[.pointer (some ⟨b2, 0, none⟩), .pointer (some ⟨b3, 0, none⟩)] w' fun e w'' => e = .returned (.int .i64 5) ∧ Below w'.heap.size w' w'') := fun w' hw' => by
    have := tfresh_any (TrAt.keep (TrAt.keep hT2 hB3) hw') (TrAt.keep hT3 hw')
    rwa [fr3] at this
  have HB := hid_mk hB13
  clear hB13 h4 gv3 fr3 sz3 sz2 cnt3 cnt2 hx2 hx3 hP2 hP3 hT1 hT2 hT3 hB1 hB2 hB3
  go_wp2_with (first
    | (go_at_call 15; refine h4'.mono ?_; clear h4'; rintro e w4 ⟨rfl, hB4⟩)
    | (go_at_call 26; refine (HL3.out _ hB4).mono ?_; clear HL3; rintro e w5 ⟨rfl, rfl⟩)
    | (go_at_call 27; refine (HN3.out _ hB4).mono ?_; clear HN3; rintro e w5 ⟨rfl, rfl⟩)
    | (go_at_call 18; refine (HF.out _ hB4).mono ?_; clear HF; rintro e w5 ⟨rfl, hB5⟩; have hB6 := hB4.trans (hB5.mono hB4.size))
    | (go_at_call 26; refine (HL2.out _ hB6).mono ?_; clear HL2; rintro e w6 ⟨rfl, rfl⟩))
  go_ret
  exact ⟨rfl, HB.out.trans (hB6.mono HB.out.size)⟩

end Go.Proofs.Ytnmpakjklbamiaa
