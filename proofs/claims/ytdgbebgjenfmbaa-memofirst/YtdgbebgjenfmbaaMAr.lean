/- MemoAround's walk. -/
import Derived.Test.YtdgbebgjenfmbaaMAm
import Derived.Test.YtdgbebgjenfmbaaMOp
namespace Go.Proofs.Ytdgbebgjenfmbaa.M
open Go.RowKit Go.Shelf
set_option maxRecDepth 100000

theorem u64_nat {a : Int} (h : (Lit.int .u64 a).wf = true) : ∃ A : Nat, a = (A : Int) := by
  have h2 : IntKind.u64.min ≤ a := by
    simp [Lit.wf] at h
    exact h.1
  have e1 : IntKind.u64.min = 0 := rfl
  rw [e1] at h2
  exact ⟨a.toNat, by omega⟩
theorem tm_nat (a b : Nat) : (a : Int).tmod (b : Int) = ((a % b : Nat) : Int) := by simp [Int.tmod]
/-- What a round of MemoAround keeps. -/
def ArI (P : Nat → Prop) (t n h : Nat) (w : World) (i : Nat) (wr : World) : Prop := ∃ L, AR n h i L ∧ Tab P wr t (t + 2) (t + 1) L ∧ Below t w wr
set_option maxHeartbeats 4000000 in
theorem around_walk (w : World) {a b : Int} (ha : (Lit.int .u64 a).wf = true) (hb : (Lit.int .u64 b).wf = true) : Calls Try.prog 7 #[.int .u64 a, .int .u64 b] w fun e w' => e = .returned (.bool true) ∧ Below w.heap.size w w' := by
  obtain ⟨A, rfl⟩ := u64_nat ha
  obtain ⟨B, rfl⟩ := u64_nat hb
  clear ha hb
  obtain ⟨n, hn⟩ : ∃ n, n = 1 + A % 30 := ⟨_, rfl⟩
  obtain ⟨h, hh⟩ : ∃ h, h = B % n := ⟨_, rfl⟩
  have hn30 : n ≤ 30 := by have := Nat.mod_lt A (show 0 < 30 by omega); omega
  have hn0 : 0 < n := by omega
  have hhn : h < n := by rw [hh]; exact Nat.mod_lt _ hn0
  have t1 : (A : Int).tmod 30 = ((n - 1 : Nat) : Int) := by rw [show (30 : Int) = ((30 : Nat) : Int) from rfl, tm_nat]; congr 1; omega
  have t2 : (B : Int).tmod (n : Int) = (h : Int) := by rw [tm_nat, hh]
  have t3 : wrap64 ((n - 1 : Nat) : Int) = ((n - 1 : Nat) : Int) := by unfold wrap64; omega
  have t4 : IntKind.i64.wrap (1 + ((n - 1 : Nat) : Int)) = (n : Int) := by rw [IntKind.wrap_i64]; omega
  have t5 : wrap64 (h : Int) = (h : Int) := by unfold wrap64; omega
  have t6 : IntKind.u64.wrap (n : Int) = (n : Int) := by rw [IntKind.wrap_u64]; omega
  have hnz : ¬ (n : Int) = 0 := by omega
  clear hn hh
  obtain ⟨t, ht⟩ : ∃ t, t = w.heap.size := ⟨_, rfl⟩
  have hnew := new_any (w := w) (n := n) (by omega)
  rw [← ht] at hnew
  obtain ⟨P, hP⟩ : ∃ P : Nat → Prop, P = fun b => b ≠ t ∧ b ≠ t + 1 := ⟨_, rfl⟩
  have HN : Hid (∀ w1 : World, Below t w w1 → (∀ P : Nat → Prop, ¬ P t → ¬ P (t + 1) → P (t + 2) → Tab P w1 t (t + 2) (t + 1) (List.replicate n none)) → ArI P t n h w 0 w1) := fun w1 hb h => ⟨_, AR.zero n _ hn0, h P (by rw [hP]; exact fun hh => hh.1 rfl) (by rw [hP]; exact fun hh => hh.2 rfl) (by rw [hP]; exact ⟨by omega, by omega⟩), hb⟩
  have HP : Hid (∀ (W : World) (L : List (Option En)), Tab P W t (t + 2) (t + 1) L → ∀ b, W.heap.size ≤ b → P b) := fun W L h b hb => by
    have := h.lt
    rw [hP]
    exact ⟨by omega, by omega⟩
  have HK : Hid (∀ A B : World, Below t w A → Kb (fun k => k ≠ t + 1) A B → Below t w B) := fun A B h k => h.trans (k.below (fun q hq => by omega) (by have := h.size; omega))
  rw [← ht]
  clear hP ht
  go_enter Try.func7, Try.ntmps7
  go_wp2_with (go_at_call 10; refine hnew.mono ?_; rintro e w1 ⟨rfl, hb1, hT1⟩; have HI0 := hid_mk (HN.out w1 hb1 hT1); clear hnew hb1 hT1 t1 t2 t3 t4 t5 t6)
  clear HN
  go_loopw [8] (fun p wr => ∃ i : Nat, p = .int .i64 (i : Int) ∧ i ≤ n ∧ Hid (ArI P t n h w i wr)) (fun p _ => n + 1 - (intOf p).toNat)
  case atStart => exact ⟨0, rfl, Nat.zero_le _, HI0⟩
  case round =>
    clear HI0
    obtain ⟨i, rfl, hi, HI⟩ := hrel
    obtain ⟨L, hR, hT, hB⟩ := HI.out
    by_cases hlt : i < n
    · obtain ⟨N, hN⟩ : ∃ N, N = h + i * n := ⟨_, rfl⟩
      obtain ⟨q, hq⟩ : ∃ q, q = i * n := ⟨_, rfl⟩
      have hqb : q ≤ 900 := by rw [hq]; exact Nat.le_trans (Nat.mul_le_mul hi hn30) (by omega)
      have m1 : IntKind.i64.wrap ((i : Int) * (n : Int)) = (q : Int) := by
        rw [IntKind.wrap_i64, ← Int.natCast_mul, ← hq]
        omega
      have m2 : IntKind.i64.wrap ((h : Int) + (q : Int)) = (N : Int) := by rw [IntKind.wrap_i64]; omega
      obtain ⟨j, hj⟩ : ∃ j, j = (h + i) % n := ⟨_, rfl⟩
      have m3 : (IntKind.i64.wrap ((h : Int) + (i : Int))).tmod (n : Int) = (j : Int) := by rw [hj]; exact tmod_nat h i n (by omega) (by omega)
      have m4 : ((h : Int) + (i : Int)) % (n : Int) = (j : Int) := by rw [hj]; simp
      have hd : (i : Int) < (n : Int) := by omega
      have hhm := homeT_any hT 0 (N : Int)
      rw [hR.1, hN, home_ar i hhn hn30 hi, ← hN] at hhm
      have hpt := put_one hT (HP.out _ _ hT) 0 (N : Int) ⟨#[120]⟩
      have hfn : find L 0 (N : Int) = .free j := by rw [hN, hj]; exact find_ar hR hhn hn30 hlt
      rw [hfn] at hpt
      have hxe : (⟨0, (N : Int), [⟨#[120]⟩]⟩ : En) = xA n h i := by rw [hN]; rfl
      rw [hxe] at hpt
      have HG : Hid (∀ w2, Tab P w2 t (t + 2) (t + 1) (L.set j (some (xA n h i))) → Kb (fun k => k ≠ t + 1) wr w2 → (Calls Try.prog 19 #[.pointer (some ⟨t, 0, none⟩), .int .i64 (j : Int)] w2 fun e w' => ∃ v, e = .returned (.tuple #[.agg #[.int .i64 0, .int .i64 (N : Int), v], .bool true]) ∧ StO w2.heap.size w' v [⟨#[120]⟩] ∧ Below w2.heap.size w2 w') ∧ ∀ A, Below w2.heap.size w2 A → ArI P t n h w (i + 1) A) := fun w2 h1 h2 => by
        have hR2 : AR n h (i + 1) (L.set j (some (xA n h i))) := by rw [hj]; exact hR.step hhn hlt
        have hg : getC (L.set j (some (xA n h i))) (j : Int) = some (xA n h i) := by
          have := hR2.got hlt
          rw [← hj] at this
          exact this
        refine ⟨?_, fun A hA => ⟨_, hR2, h1.below hA, (HK.out _ _ hB h2).trans (hA.mono ?_)⟩⟩
        · have h3 := load_on h1 hg (by show (1 : Nat) ≤ 8796093021952; omega)
          rw [← hxe] at h3
          exact h3
        · have := h1.lt
          omega
      have HJ := hid_mk hj
      clear hR hT hB hN hq hfn hxe hj
      go_wp2_with (first
        | (go_at_call 27; refine hhm.mono ?_; rintro e w' ⟨rfl, hw⟩; rw [hw]; clear hw w' hhm)
        | (go_at_call 12; refine hpt.mono ?_; rintro e w2 ⟨rfl, hT2, hk2⟩; obtain ⟨hld, hAI⟩ := HG.out w2 hT2 hk2; have HAI := hid_mk hAI; clear hpt HG hT2 hk2 hAI)
        | (go_at_call 19; refine hld.mono ?_; rintro e w3 ⟨v3, rfl, hs3, hb3⟩; obtain ⟨pa, pc, rfl⟩ := hs3.form; have HA3 : Hid (∀ o, ArI P t n h w (i + 1) (w3.alloc o)) := (fun o => HAI.out _ (hb3.trans ((Below.refl _ w3).alloc hb3.size o))); clear hld HAI hs3 hb3))
      refine ⟨⟨i + 1, by go_num, by omega, HA3.out _⟩, ?_⟩
      simp only [intOf]
      omega
    · obtain rfl : i = n := by omega
      obtain ⟨N, hN⟩ : ∃ N, N = h + i * i := ⟨_, rfl⟩
      obtain ⟨q, hq⟩ : ∃ q, q = i * i := ⟨_, rfl⟩
      have hqb : q ≤ 900 := by rw [hq]; exact Nat.le_trans (Nat.mul_le_mul hi hn30) (by omega)
      have m1 : IntKind.i64.wrap ((i : Int) * (i : Int)) = (q : Int) := by
        rw [IntKind.wrap_i64, ← Int.natCast_mul, ← hq]
        omega
      have m2 : IntKind.i64.wrap ((h : Int) + (q : Int)) = (N : Int) := by rw [IntKind.wrap_i64]; omega
      obtain ⟨hu, y, hy⟩ := hR.all hhn
      have hpt := put_tab hT ⟨0, (N : Int), []⟩ (SsAt.nil (fun _ => True) wr) (by simp) (HP.out _ _ hT)
      have hfn : find L 0 (N : Int) = .full := by rw [hN]; exact find_ar_full hR hhn hn30
      change Calls Try.prog 12 #[.pointer (some ⟨t, 0, none⟩), .agg #[.int .i64 0, .int .i64 (N : Int), .slice none 0 0]] wr (PutT P wr t (t + 2) (t + 1) L ⟨0, (N : Int), []⟩ (find L 0 (N : Int))) at hpt
      rw [hfn] at hpt
      have HG : Hid (∀ w2, Tab P w2 t (t + 2) (t + 1) L → Below wr.heap.size wr w2 → (Calls Try.prog 24 #[.pointer (some ⟨t, 0, none⟩)] w2 fun q w' => q = .returned (.int .i64 (i : Int)) ∧ Below w2.heap.size w2 w') ∧ (∀ A, Below w2.heap.size w2 A → Calls Try.prog 17 #[.pointer (some ⟨t, 0, none⟩), .int .i64 (h : Int), .agg #[.int .i64 0, .int .i64 0, .slice none 0 0]] A fun q w' => q = .returned (.bool false) ∧ Below A.heap.size A w') ∧ ∀ A, Below w2.heap.size w2 A → Below t w A) := fun w2 h1 h2 => by
        refine ⟨?_, fun A hA => ?_, fun A hA => ?_⟩
        · have := used_any (Src.of h1)
          rw [hu] at this
          exact this
        · exact cas_taken (x := ⟨0, 0, []⟩) (h1.below hA) hy (SsAt.nil (fun _ => True) A)
        · have := hB.size
          have := hT.lt
          have := h2.size
          exact HK.out _ _ hB (Kb.of_below (h2.trans (hA.mono h2.size)))
      clear hR hT hB hN hq hfn hu hy
      go_wp2_with (first
        | (go_at_call 12; refine hpt.mono ?_; rintro e w2 ⟨rfl, hT2, hk2⟩; obtain ⟨hus, hcs, hB2⟩ := HG.out w2 hT2 hk2; have HCS := hid_mk hcs; have HB2 := hid_mk hB2; clear hpt HG hT2 hk2 hcs hB2)
        | (go_at_call 24; refine hus.mono ?_; rintro e w3 ⟨rfl, hb3⟩; have hc3 := HCS.out w3 hb3; clear hus)
        | (go_at_call 17; refine hc3.mono ?_; rintro e w4 ⟨rfl, hb4⟩; have hb24 := hb3.trans (hb4.mono hb3.size); clear hc3)
        | (go_at_call 9; refine (lives_any w4).mono ?_; rintro e w5 ⟨rfl, hb5⟩; have HX := hid_mk (HB2.out w5 (hb24.trans (hb5.mono hb24.size))); clear hb5 hb24 hb3 hb4))
      go_ret
      exact ⟨rfl, HX.out⟩
end Go.Proofs.Ytdgbebgjenfmbaa.M
