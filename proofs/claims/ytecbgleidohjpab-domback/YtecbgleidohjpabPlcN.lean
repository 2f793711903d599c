/- dom.place: where an attribute is, or would be. -/
import Derived.Test.YtecbgleidohjpabPakN
import Derived.Test.YtecbgleidohjpabCmpM
import Derived.Shelf.Small.Strs
import Derived.Shelf.Lay
import Derived.Ground.NamesProg
import Derived.Deep.LoopGhost
import Derived.Shelf.Abstract
namespace Go.Proofs
open Go.Shelf
shelf_lay Lays.n106 Nm 106 at Try as Try.compareS
end Go.Proofs
namespace Go.Proofs.Ytecbgleidohjpab.N
open Go.RowKit
set_option maxRecDepth 100000

theorem compare_any (a b : ByteArray) (w : World) : Calls Try.prog 61 #[.string a, .string b] w fun e w' => e = .returned (.int .i64 (cmpB a b)) ∧ w' = w := by
  have h := Any.strings_Compare Try.compareS a b w
  exact h
theorem e71 : ∀ args w, (callFunc 60 args).run Try.prog w = .ok (.enter 60 args) w := enters_of Try.func60 (by kernel_rfl) rfl
set_option maxHeartbeats 400000 in
theorem place1_any (a v b : ByteArray) (w : World) : Calls Try.prog 60 #[.agg #[.string a, .string v], .string b] w fun e w' => e = .returned (.int .i64 (cmpB a b)) ∧ Below w.heap.size w w' := by
  have h := fun W => compare_any a b W
  have HA : Hid (∀ o, Below w.heap.size w (w.alloc o)) := fun o => (Below.refl _ w).alloc (Nat.le_refl _) o
  generalize cmpB a b = r at *
  go_enter Try.func60, Try.ntmps60
  go_wp2_with (go_at_call 61; refine (h _).mono ?_; rintro e w' ⟨rfl, rfl⟩)
  go_ret
  exact ⟨rfl, HA.out _⟩

theorem attrsV_at : ∀ {us : Us} {i : Nat} (h : i < us.length), (attrsV us)[i * 2]? = some (.string us[i].1) ∧ (attrsV us)[i * 2 + 1]? = some (.string us[i].2)
  | p :: r, 0, _ => ⟨rfl, rfl⟩
  | p :: r, i + 1, h => by
    have ih := attrsV_at (us := r) (i := i) (by simpa using h)
    have e : attrsV (p :: r) = .string p.1 :: .string p.2 :: attrsV r := by simp [attrsV]
    rw [e, show (i + 1) * 2 = i * 2 + 1 + 1 by omega]
    simpa using ih
theorem attrsV_one (us : Us) : ∀ u ∈ attrsV us, u.oneCell' = true := by
  intro u hu
  obtain ⟨p, _, hp⟩ := List.mem_flatMap.1 hu
  simp at hp
  rcases hp with rfl | rfl <;> rfl
set_option maxHeartbeats 2000000 in
theorem search_any {w : World} {b off n c : Nat} {us : Us} (h : RowAt w 2 (some ⟨b, off, none⟩) n c (attrsV us)) (hs : Srt us) (hn : us.length ≤ 1000) (nm : ByteArray) : Calls Try.prog 59 #[.slice (some ⟨b, off, none⟩) n c, .string nm, .func (Fn.func 60) #[] #[]] w fun e w' => e = .returned (.tuple #[.int .i64 (loA us nm).length, .bool (valA us nm).isSome]) ∧ Below w.heap.size w w' := by
  have hl : us.length = n := by have := h.1; rw [attrsV_len] at this; omega
  have hnc := h.2.1
  have HC : Hid (b < w.heap.size ∧ ∀ i (hi : i < us.length), w.cell? ⟨b, off + i * 2, none⟩ = some (.string us[i].1) ∧ w.cell? ⟨b, off + i * 2 + 1, none⟩ = some (.string us[i].2)) := by
    rcases h.2.2.2.2 with ⟨h0, _⟩ | ⟨b', off', e, hb, hc⟩
    · cases h0
    · cases e
      refine ⟨hb, fun i hi => ⟨hc _ _ (attrsV_at hi).1, ?_⟩⟩
      have := hc _ _ (attrsV_at hi).2
      rwa [← Nat.add_assoc] at this
  have HLT : Hid (∀ t (ht : t < us.length), (cmpB us[t].1 nm < 0 ↔ t < (loA us nm).length)) := fun t ht => srt_lt hs ht
  obtain ⟨at1, at2⟩ := srt_at (nm := nm) hs
  have HA1 := hid_mk at1
  have HA2 := hid_mk at2
  have hle : (loA us nm).length ≤ us.length := List.length_filter_le _ _
  have HCM : Hid (∀ a v W, Calls Try.prog 60 (#[.agg #[.string a, .string v], .string nm] ++ #[]) W fun e w' => e = .returned (.int .i64 (cmpB a nm)) ∧ Below W.heap.size W w') := fun a v W => place1_any a v nm W
  have eg := e71
  have HLN := hid_mk hl
  rw [hl] at hle hn
  clear at1 at2 h hl
  generalize hL : (loA us nm).length = L at *
  clear hL
  go_enter Try.func59, Try.ntmps59
  go_wp2
  go_loopg [9, 10] n (fun kx a9 a10 wr => ∃ lo hi : Nat, a9 = .int .i64 lo ∧ a10 = .int .i64 hi ∧ lo ≤ L ∧ L ≤ hi ∧ hi ≤ n ∧ hi - lo ≤ kx ∧ Hid (Below w.heap.size w wr))
  case atStart => exact ⟨0, n, rfl, rfl, Nat.zero_le _, hle, Nat.le_refl _, by omega, hid_mk (Below.refl _ _)⟩
  case round =>
    obtain ⟨lo, hi, rfl, rfl, h1, h2, h3, hk, HB⟩ := hrel
    by_cases hlt : lo < hi
    · have hm : (lo + hi) / 2 < us.length := by rw [HLN.out]; omega
      obtain ⟨q0, q1⟩ := HC.out.2 _ hm
      have c0 := (HB.out.cell (p := ⟨b, off + (lo + hi) / 2 * 2, none⟩) HC.out.1).trans q0
      have c1 := (HB.out.cell (p := ⟨b, off + (lo + hi) / 2 * 2 + 1, none⟩) HC.out.1).trans q1
      have hcm := HCM.out us[(lo + hi) / 2].1 us[(lo + hi) / 2].2 wr
      have hiff := HLT.out _ hm
      generalize us[(lo + hi) / 2].1 = a at *
      generalize us[(lo + hi) / 2].2 = v at *
      by_cases hc : cmpB a nm < 0
      · have hmL := hiff.1 hc
        clear hiff q0 q1 HC HLT HA1 HA2 hm
        generalize cmpB a nm = cr at *
        go_wp2_with (go_at_fn 60; refine hcm.mono ?_; clear hcm; rintro e w1 ⟨rfl, hB1⟩)
        go_roundg (hi - ((lo + hi) / 2 + 1))
        case measure => omega
        case rel => exact ⟨(lo + hi) / 2 + 1, hi, by rw [show ((lo : Int) + (hi : Int)) / 2 + 1 = (((lo + hi) / 2 + 1 : Nat) : Int) by omega], rfl, by omega, h2, h3, Nat.le_refl _, hid_mk (HB.out.trans (hB1.mono HB.out.size))⟩
      · have hmL : L ≤ (lo + hi) / 2 := Nat.le_of_not_lt fun hx => hc (hiff.2 hx)
        clear hiff q0 q1 HC HLT HA1 HA2 hm
        generalize cmpB a nm = cr at *
        go_wp2_with (go_at_fn 60; refine hcm.mono ?_; clear hcm; rintro e w1 ⟨rfl, hB1⟩)
        go_roundg ((lo + hi) / 2 - lo)
        case measure => omega
        case rel => exact ⟨lo, (lo + hi) / 2, rfl, by rw [show ((lo : Int) + (hi : Int)) / 2 = (((lo + hi) / 2 : Nat) : Int) by omega], h1, hmL, by omega, Nat.le_refl _, hid_mk (HB.out.trans (hB1.mono HB.out.size))⟩
    · obtain rfl : hi = lo := by omega
      obtain rfl : L = hi := by omega
      clear hlt hk h1 h2 HLT
      by_cases hLn : L < n
      · have hm : L < us.length := by rw [HLN.out]; exact hLn
        obtain ⟨q0, q1⟩ := HC.out.2 _ hm
        have c0 := (HB.out.cell (p := ⟨b, off + L * 2, none⟩) HC.out.1).trans q0
        have c1 := (HB.out.cell (p := ⟨b, off + L * 2 + 1, none⟩) HC.out.1).trans q1
        have hcm := HCM.out us[L].1 us[L].2 wr
        have hdec : (cmpB us[L].1 nm == 0) = (valA us nm).isSome := by
          cases hv : valA us nm with
          | none =>
            have := HA2.out hv hm
            simpa using this
          | some x =>
            obtain ⟨_, he⟩ := HA1.out x hv
            rw [he]
            have : cmpB nm nm = 0 := cmpB_zero.2 rfl
            simp [this]
        generalize us[L].1 = a at *
        generalize us[L].2 = v at *
        clear q0 q1 HC HA1 HA2 hm
        generalize cmpB a nm = cr at *
        have HD := hid_mk hdec
        clear hdec
        go_wp2_with (go_at_fn 60; refine hcm.mono ?_; clear hcm; rintro e w1 ⟨rfl, hB1⟩)
        refine bodyPost_ret (v := .tuple #[.int .i64 L, .bool (cr == 0)]) (by simp [results, Try.results59, go_sem]) rfl ⟨by rw [HD.out], HB.out.trans (hB1.mono HB.out.size)⟩
      · have HN : Hid ((valA us nm).isSome = false) := by
          show _ = _
          cases hv : valA us nm with
          | none => rfl
          | some x =>
            obtain ⟨hl, _⟩ := HA1.out x hv
            rw [HLN.out] at hl
            exact absurd hl hLn
        clear HC HA1 HA2
        go_wp2
        refine bodyPost_ret (v := .tuple #[.int .i64 L, .bool false]) (by simp [results, Try.results59, go_sem]) rfl ⟨by rw [HN.out], HB.out⟩
set_option maxHeartbeats 400000 in
theorem search_empty (w : World) (a : Option Addr) (c : Nat) (fv : Value) (nm : ByteArray) : Calls Try.prog 59 #[.slice a 0 c, .string nm, fv] w fun e w' => e = .returned (.tuple #[.int .i64 0, .bool false]) ∧ w' = w := by
  go_enter Try.func59, Try.ntmps59
  go_wp2
  go_loopw [9, 10] (fun a9 a10 wr => a9 = .int .i64 0 ∧ a10 = .int .i64 0 ∧ wr = w) (fun _ _ _ => 0)
  case atStart => exact ⟨rfl, rfl, rfl⟩
  case round =>
    obtain ⟨rfl, rfl, hw⟩ := hrel
    have hw2 := hw.symm
    subst hw2
    clear hw
    go_wp2
    refine bodyPost_ret (v := .tuple #[.int .i64 0, .bool false]) (by simp [results, Try.results59, go_sem]) rfl ⟨rfl, rfl⟩
set_option maxHeartbeats 400000 in
/-- Where a name is among an element's attributes, or would be; whether it is there. -/
theorem place_any {w : World} {a : Option Addr} {n c : Nat} {us : Us} (h : RowAt w 2 a n c (attrsV us)) (hs : Srt us) (hn : us.length ≤ 1000) (nm : ByteArray) : Calls Try.prog 38 #[.slice a n c, .string nm] w fun e w' => e = .returned (.tuple #[.int .i64 (loA us nm).length, .bool (valA us nm).isSome]) ∧ Below w.heap.size w w' := by
  have hf : Calls Try.prog 59 #[.slice a n c, .string nm, .func (Fn.func 60) #[] #[]] w fun e w' => e = .returned (.tuple #[.int .i64 (loA us nm).length, .bool (valA us nm).isSome]) ∧ Below w.heap.size w w' := by
    rcases h.2.2.2.2 with ⟨rfl, rfl⟩ | ⟨b, off, rfl, _, _⟩
    · have h0 : n = 0 := by have := h.2.1; omega
      subst h0
      have hu : us = [] := by
        have := h.1
        rw [attrsV_len] at this
        exact List.length_eq_zero_iff.1 (by omega)
      subst hu
      refine (search_empty w none 0 _ nm).mono ?_
      rintro e w' ⟨rfl, rfl⟩
      exact ⟨rfl, Below.refl _ _⟩
    · exact search_any h hs hn nm
  generalize (loA us nm).length = L at *
  generalize (valA us nm).isSome = fin at *
  clear h hs hn
  go_enter Try.func38, Try.ntmps38
  go_wp2_with (go_at_call 59; fail)
  refine hf.mono ?_
  rintro e w1 ⟨rfl, hB⟩
  have HB := hid_mk hB
  clear hf hB
  go_wp2
  refine bodyPost_ret (v := .tuple #[.int .i64 L, .bool fin]) (by simp [results, Try.results38, go_sem]) rfl ⟨rfl, HB.out⟩

end Go.Proofs.Ytecbgleidohjpab.N
