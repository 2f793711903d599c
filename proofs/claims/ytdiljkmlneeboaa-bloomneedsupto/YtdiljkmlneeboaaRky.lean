/- The document's key of a name. -/
import Derived.Test.YtdiljkmlneeboaaKey
import Derived.Lib.Bytealg
import Derived.WalkMore
import Derived.Laws.Tables
namespace Go.Proofs.Ytdiljkmlneeboaa
open Go.RowKit
set_option maxRecDepth 100000

theorem info5 : ∃ i, Try.prog.info? 5 = some i ∧ i.zero = some (.int .u8 0) ∧ i.size = 1 ∧ i.bytes = 1 := ⟨_, by rfl, by rfl, by rfl, by rfl⟩
theorem own_one (W : World) (e : TypeId) (x : Value) : (W.alloc (.cells #[x] e)).ownsRow W.heap.size e 1 (.slice (some ⟨W.heap.size, 0, none⟩) 1 1) 1 [x] :=
  ⟨by simp, .inr ⟨W.heap.size, 1, #[x], rfl, Nat.le_refl _, heap_alloc_last W _, Nat.le_refl _, by decide, by simp, by simp⟩⟩

set_option maxHeartbeats 1000000 in
theorem rkey_run (kind : Int) (s : ByteArray) (hs : s.size ≤ 5000) (kb : Nat) (hkb : kind % 256 = kb) (KA : Nat → Nat) (HK0 : Hid ((KA 0 : Int) = 2166136261)) (HKS : Hid (∀ (t b : Nat), (kb :: bytesL s)[t]? = some b → b < 256 ∧ bits .xor .u32 (KA t : Int) (b : Int) * 16777619 % 4294967296 = (KA (t + 1) : Nat))) (w : World) :
    Calls Try.prog 9 #[.int .i64 kind, .string s] w fun e w' => e = .returned (.int .u32 (KA (s.size + 1) : Nat)) ∧ Below w.heap.size w w' := by
  obtain ⟨i0, hi, hz0, hz1, hz2⟩ := info5
  have hk2 : kb < 256 := by omega
  obtain ⟨R, hR⟩ : ∃ R, R = KA (s.size + 1) := ⟨_, rfl⟩
  rw [← hR]
  have HR := hid_mk hR
  have ho := own_one w 5 (.int .u8 (kb : Int))
  clear hR
  go_enter Try.func9, Try.ntmps9
  go_wp2_with (at_builtin; with_reducible refine Lib.wpList_append_own_string _ rfl _ _ 50 9 rfl w.heap.size 5 i0 Try.underlying50 Try.underlying9 hi hz0 hz1 hz2 (.slice (some ⟨w.heap.size, 0, none⟩) 1 1) 1 [.int .u8 (kb : Int)] rfl ho s rfl ?c3 ?c4 ?c5 ?_)
  case c3 => unfold maxLen; omega
  case c4 => omega
  case c5 => simp
  intro v' w2 ho2 hg _
  have hB2 : Below w.heap.size w w2 := by
    have h1 : Below w.heap.size w (w.alloc (.cells #[.int .u8 (kb : Int)] 5)) := (Below.refl _ _).alloc (Nat.le_refl _) _
    refine ⟨hg.os.trans h1.os, hg.tape.trans h1.tape, hg.output.trans h1.output, Nat.le_trans h1.size hg.size, fun k hk => ?_⟩
    rw [hg.block k (Nat.lt_of_lt_of_le hk h1.size) (fun e => by have e2 : k = w.heap.size := Option.some.inj e; omega)]
    exact h1.block k hk
  obtain ⟨g, cap, rfl⟩ : ∃ g cap, v' = .slice (some ⟨g, 0, none⟩) (1 + s.size) cap := by
    rcases ho2.2 with ⟨_, h0⟩ | ⟨g, cap, cur, e, _⟩
    · omega
    · exact ⟨g, cap, e⟩
  have HC : Hid (∀ (t b : Nat), (kb :: bytesL s)[t]? = some b → w2.cell? ⟨g, t, none⟩ = some (.int .u8 (b : Int))) := fun t b hb => by
    have h1 : ((kb :: bytesL s).map fun x : Nat => Value.int .u8 (x : Int)) = .int .u8 (kb : Int) :: Lib.strCells s := by
      simp [bytesL, Lib.strCells]
    have hl : t < (kb :: bytesL s).length := (List.getElem?_eq_some_iff.1 hb).1
    have hl2 : t < 1 + s.size := by rw [List.length_cons, bytesL_len] at hl; omega
    have h2 := ho2.cellAt t (by omega)
    rw [h2]
    have h3 : (Value.int .u8 (kb : Int) :: Lib.strCells s)[t]? = some (.int .u8 (b : Int)) := by rw [← h1, List.getElem?_map, hb]; rfl
    exact h3
  have HB2 := hid_mk hB2
  clear ho ho2 hg hB2 hi hz0 hz1 hz2
  have HLEN : Hid ((kb :: bytesL s).length = 1 + s.size) := by rw [Hid, List.length_cons, bytesL_len]; omega
  have e0 : (2166136261 : Int) = (KA 0 : Int) := HK0.out.symm
  have HCC : Hid (∀ t : Nat, t < 1 + s.size → ∃ b : Nat, b < 256 ∧ w2.cell? ⟨g, t, none⟩ = some (.int .u8 (b : Int)) ∧ Hid (bits .xor .u32 (KA t : Int) (b : Int) * 16777619 % 4294967296 = (KA (t + 1) : Nat))) := fun t ht => by
    have hl : t < (kb :: bytesL s).length := by rw [HLEN.out]; exact ht
    obtain ⟨b, hb⟩ : ∃ b, (kb :: bytesL s)[t]? = some b := ⟨_, List.getElem?_eq_getElem hl⟩
    exact ⟨b, (HKS.out t b hb).1, HC.out t b hb, (HKS.out t b hb).2⟩
  have HSZ : Hid (1 + s.size = s.size + 1) := Nat.add_comm _ _
  have hcap : 1 + s.size ≤ 5001 := by omega
  have HE0 := hid_mk e0
  clear e0 HKS HC HLEN HK0 hkb hk2
  generalize 1 + s.size = n at *
  go_wp2
  go_loopw [5, 14] (fun a5 a14 wq => ∃ t : Nat, t ≤ n ∧ a5 = .int .u32 (KA t : Int) ∧ a14 = .int .i64 (t : Int) ∧ wq = w2) (fun _ a14 _ => n + 1 - (intOf a14).toNat)
  case atStart => exact ⟨0, Nat.zero_le _, by rw [HE0.out], rfl, rfl⟩
  case round =>
    obtain ⟨t, ht, rfl, rfl, rfl⟩ := hrel
    by_cases htl : t < n
    · obtain ⟨b, hb, hc, HX⟩ := HCC.out t htl
      clear HCC HR HE0 HSZ
      obtain ⟨kc, hkc⟩ : ∃ kc, kc = KA (t + 1) := ⟨_, rfl⟩
      have HKC := hid_mk hkc
      rw [← hkc] at HX
      clear hkc
      generalize KA t = ka at *
      go_wp2
      refine ⟨⟨t + 1, htl, ?_, by go_num, trivial⟩, by simp only [intOf]; omega⟩
      rw [HX.out, HKC.out]
    · obtain rfl : t = n := by omega
      clear HCC HE0
      have HR2 : Hid (R = KA t) := by rw [Hid, HSZ.out]; exact HR.out
      rw [← HR2.out]
      clear HR HR2 HSZ
      go_wp2
      go_ret
      exact ⟨rfl, HB2.out⟩
theorem rkey_any (kind : Int) (s : ByteArray) (hs : s.size ≤ 5000) (w : World) :
    Calls Try.prog 9 #[.int .i64 kind, .string s] w fun e w' => e = .returned (.int .u32 (keyN (kind % 256).toNat s : Nat)) ∧ Below w.heap.size w w' := by
  refine rkey_run kind s hs (kind % 256).toNat (by omega) (keyAt 2166136261 ((kind % 256).toNat :: bytesL s)) ?_ (fun t b hb => ?_) w
  · rw [Hid, keyAt_zero]; rfl
  · have h1 : b < 256 := by
      cases t with
      | zero =>
        rw [List.getElem?_cons_zero] at hb
        have e := Option.some.inj hb
        omega
      | succ t =>
        rw [List.getElem?_cons_succ] at hb
        have hl := (List.getElem?_eq_some_iff.1 hb).1
        rw [bytesL_len] at hl
        rw [bytesL_at s t hl] at hb
        have e := Option.some.inj hb
        rw [← e]
        exact UInt8.toNat_lt _
    exact ⟨h1, by rw [keyAt_succ hb]; exact mix_int _ _ (keyAt_lt (by decide) _ _) h1⟩

end Go.Proofs.Ytdiljkmlneeboaa
