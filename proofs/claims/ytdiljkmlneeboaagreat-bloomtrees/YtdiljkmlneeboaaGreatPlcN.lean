/- The order of names, and attributes that stand by names. dom.place: where an attribute is, or would be. -/
import Derived.Lib.Bytealg
import Derived.Test.YtdiljkmlneeboaaGreatPakN
import Derived.Shelf.Small.Strs
import Derived.Shelf.Lay
import Derived.Ground.NamesProg
import Derived.Deep.LoopGhost
import Derived.Shelf.Abstract
namespace Go.Proofs.YtdiljkmlneeboaaGreat.N

theorem cmp_refl : ∀ a : List UInt8, Lib.compareBytes a a = 0
  | [] => rfl
  | x :: a => by
    have h : ¬ x < x := UInt8.lt_irrefl x
    simp [Lib.compareBytes, h, cmp_refl a]
theorem cmp_zero : ∀ {a b : List UInt8}, Lib.compareBytes a b = 0 → a = b
  | [], [], _ => rfl
  | [], _ :: _, h => by simp [Lib.compareBytes] at h
  | _ :: _, [], h => by simp [Lib.compareBytes] at h
  | x :: a, y :: b, h => by
    unfold Lib.compareBytes at h
    split at h
    · cases h
    · split at h
      · cases h
      · rename_i h1 h2
        have : x = y := UInt8.le_antisymm (UInt8.not_lt.1 h2) (UInt8.not_lt.1 h1)
        rw [this, cmp_zero h]
theorem cmp_flip : ∀ (a b : List UInt8), Lib.compareBytes b a = - Lib.compareBytes a b
  | [], [] => rfl
  | [], _ :: _ => rfl
  | _ :: _, [] => rfl
  | x :: a, y :: b => by
    unfold Lib.compareBytes
    by_cases h1 : x < y
    · have h2 : ¬ y < x := UInt8.not_lt.2 (UInt8.le_of_lt h1)
      simp [h1, h2]
    · by_cases h2 : y < x
      · simp [h1, h2]
      · simp [h1, h2, cmp_flip a b]
theorem cmp_trans : ∀ {a b c : List UInt8}, Lib.compareBytes a b < 0 → Lib.compareBytes b c < 0 → Lib.compareBytes a c < 0
  | [], [], _, h, _ => by simp [Lib.compareBytes] at h
  | [], _ :: _, [], _, h => by simp [Lib.compareBytes] at h
  | [], _ :: _, _ :: _, _, _ => by simp [Lib.compareBytes]
  | _ :: _, [], _, h, _ => by simp [Lib.compareBytes] at h
  | _ :: _, _ :: _, [], _, h => by simp [Lib.compareBytes] at h
  | x :: a, y :: b, z :: c, h1, h2 => by
    unfold Lib.compareBytes at h1 h2 ⊢
    by_cases hxy : x < y
    · by_cases hyz : y < z
      · simp [UInt8.lt_trans hxy hyz]
      · rw [if_neg hyz] at h2
        by_cases hzy : z < y
        · rw [if_pos hzy] at h2
          omega
        · have : y = z := UInt8.le_antisymm (UInt8.not_lt.1 hzy) (UInt8.not_lt.1 hyz)
          subst this
          simp [hxy]
    · rw [if_neg hxy] at h1
      by_cases hyx : y < x
      · rw [if_pos hyx] at h1
        omega
      · rw [if_neg hyx] at h1
        have : x = y := UInt8.le_antisymm (UInt8.not_lt.1 hyx) (UInt8.not_lt.1 hxy)
        subst this
        by_cases hyz : x < z
        · simp [hyz]
        · rw [if_neg hyz] at h2 ⊢
          by_cases hzy : z < x
          · rw [if_pos hzy] at h2
            omega
          · rw [if_neg hzy] at h2 ⊢
            exact cmp_trans h1 h2
/-- How two names stand to each other. -/
def cmpB (a b : ByteArray) : Int := Lib.compareBytes a.data.toList b.data.toList
theorem cmpB_zero {a b : ByteArray} : cmpB a b = 0 ↔ a = b := by
  constructor
  · intro h
    exact ByteArray.ext (Array.toList_inj.1 (cmp_zero h))
  · rintro rfl
    exact cmp_refl _
theorem cmpB_flip (a b : ByteArray) : cmpB b a = - cmpB a b := cmp_flip _ _
theorem cmpB_trans {a b c : ByteArray} (h1 : cmpB a b < 0) (h2 : cmpB b c < 0) : cmpB a c < 0 := cmp_trans h1 h2
abbrev Us := List (ByteArray × ByteArray)
def loA (us : Us) (nm : ByteArray) : Us := us.filter fun p => decide (cmpB p.1 nm < 0)
def hiA (us : Us) (nm : ByteArray) : Us := us.filter fun p => decide (0 < cmpB p.1 nm)
/-- The value of a name. -/
def valA (us : Us) (nm : ByteArray) : Option ByteArray := (us.find? fun p => decide (cmpB p.1 nm = 0)).map (·.2)
def midA (us : Us) (nm : ByteArray) : Us := match valA us nm with
  | none => []
  | some v => [(nm, v)]
def Srt (us : Us) : Prop := us.Pairwise fun a b => cmpB a.1 b.1 < 0
theorem srt_split : ∀ {us : Us} (nm : ByteArray), Srt us → us = loA us nm ++ midA us nm ++ hiA us nm
  | [], _, _ => rfl
  | p :: r, nm, h => by
    obtain ⟨h1, h2⟩ := List.pairwise_cons.1 h
    have ih := srt_split nm h2
    have hbig : 0 ≤ cmpB p.1 nm → ∀ q ∈ r, 0 < cmpB q.1 nm := fun hp q hq => by
      have h3 := h1 q hq
      rcases Int.lt_trichotomy (cmpB q.1 nm) 0 with hx | hx | hx
      · have := cmpB_trans h3 hx
        omega
      · have : q.1 = nm := cmpB_zero.1 hx
        rw [this] at h3
        omega
      · exact hx
    have hall : 0 ≤ cmpB p.1 nm → loA r nm = [] ∧ hiA r nm = r ∧ valA r nm = none := fun hp => by
      refine ⟨?_, ?_, ?_⟩
      · exact List.filter_eq_nil_iff.2 fun q hq => by have := hbig hp q hq; simp; omega
      · exact List.filter_eq_self.2 fun q hq => by have := hbig hp q hq; simpa using this
      · unfold valA
        rw [List.find?_eq_none.2 fun q hq => by have := hbig hp q hq; simp; omega]
        rfl
    rcases Int.lt_trichotomy (cmpB p.1 nm) 0 with hx | hx | hx
    · have e1 : loA (p :: r) nm = p :: loA r nm := by simp [loA, hx]
      have e2 : hiA (p :: r) nm = hiA r nm := by
        have : ¬ 0 < cmpB p.1 nm := by omega
        simp [hiA, this]
      have e3 : valA (p :: r) nm = valA r nm := by
        have : ¬ cmpB p.1 nm = 0 := by omega
        simp [valA, this]
      unfold midA at ih ⊢
      rw [e1, e2, e3, List.cons_append, List.cons_append, ← ih]
    · obtain ⟨a1, a2, a3⟩ := hall (by omega)
      have e1 : loA (p :: r) nm = [] := by
        have : loA (p :: r) nm = loA r nm := by simp [loA, hx]
        rw [this, a1]
      have e2 : hiA (p :: r) nm = r := by
        have : hiA (p :: r) nm = hiA r nm := by simp [hiA, hx]
        rw [this, a2]
      have e3 : valA (p :: r) nm = some p.2 := by simp [valA, hx]
      unfold midA
      rw [e1, e2, e3, ← cmpB_zero.1 hx]
      rfl
    · obtain ⟨a1, a2, a3⟩ := hall (by omega)
      have h4 : ¬ cmpB p.1 nm < 0 := by omega
      have h5 : ¬ cmpB p.1 nm = 0 := by omega
      have e1 : loA (p :: r) nm = [] := by
        have : loA (p :: r) nm = loA r nm := by simp [loA, h4]
        rw [this, a1]
      have e2 : hiA (p :: r) nm = p :: r := by
        have : hiA (p :: r) nm = p :: hiA r nm := by simp [hiA, hx]
        rw [this, a2]
      have e3 : valA (p :: r) nm = none := by
        have : valA (p :: r) nm = valA r nm := by simp [valA, h5]
        rw [this, a3]
      unfold midA
      rw [e1, e2, e3]
      rfl
theorem loA_mem {us : Us} {nm : ByteArray} {p : ByteArray × ByteArray} (h : p ∈ loA us nm) : p ∈ us ∧ cmpB p.1 nm < 0 := by
  obtain ⟨h1, h2⟩ := List.mem_filter.1 h
  exact ⟨h1, of_decide_eq_true h2⟩
theorem hiA_mem {us : Us} {nm : ByteArray} {p : ByteArray × ByteArray} (h : p ∈ hiA us nm) : p ∈ us ∧ 0 < cmpB p.1 nm := by
  obtain ⟨h1, h2⟩ := List.mem_filter.1 h
  exact ⟨h1, of_decide_eq_true h2⟩
theorem midA_some {us : Us} {nm v : ByteArray} (h : valA us nm = some v) : midA us nm = [(nm, v)] := by unfold midA; rw [h]
theorem midA_none {us : Us} {nm : ByteArray} (h : valA us nm = none) : midA us nm = [] := by unfold midA; rw [h]
/-- Where the names below nm end. -/
theorem srt_lt {us : Us} {nm : ByteArray} (h : Srt us) {t : Nat} (ht : t < us.length) : (cmpB us[t].1 nm < 0 ↔ t < (loA us nm).length) := by
  have hs := srt_split nm h
  have hg0 : us[t]? = some us[t] := List.getElem?_eq_getElem ht
  obtain ⟨p, hp⟩ : ∃ p, us[t] = p := ⟨_, rfl⟩
  rw [hp] at hg0 ⊢
  have hg : (loA us nm ++ midA us nm ++ hiA us nm)[t]? = some p := by rw [← hs]; exact hg0
  constructor
  · intro hc
    refine Classical.byContradiction fun hn => ?_
    rw [List.append_assoc, List.getElem?_append_right (by omega)] at hg
    have hm := List.mem_of_getElem? hg
    rcases List.mem_append.1 hm with hm | hm
    · cases e : valA us nm with
      | none => rw [midA_none e] at hm; cases hm
      | some v =>
        rw [midA_some e, List.mem_singleton] at hm
        rw [hm] at hc
        have : cmpB nm nm = 0 := cmpB_zero.2 rfl
        dsimp only at hc
        omega
    · have := (hiA_mem hm).2
      omega
  · intro hl
    rw [List.append_assoc, List.getElem?_append_left hl] at hg
    exact (loA_mem (List.mem_of_getElem? hg)).2
theorem srt_at {us : Us} {nm : ByteArray} (h : Srt us) : (∀ v, valA us nm = some v → ∃ hl : (loA us nm).length < us.length, us[(loA us nm).length] = (nm, v)) ∧ (valA us nm = none → ∀ hl : (loA us nm).length < us.length, cmpB us[(loA us nm).length].1 nm ≠ 0) := by
  have hs := srt_split nm h
  constructor
  · intro v hv
    have hg : us[(loA us nm).length]? = some (nm, v) := by
      have : (loA us nm ++ midA us nm ++ hiA us nm)[(loA us nm).length]? = some (nm, v) := by
        rw [List.append_assoc, List.getElem?_append_right (Nat.le_refl _), Nat.sub_self, midA_some hv]
        rfl
      rwa [← hs] at this
    obtain ⟨hl, he⟩ := List.getElem?_eq_some_iff.1 hg
    exact ⟨hl, he⟩
  · intro hv hl hz
    have hg : us[(loA us nm).length]? = some us[(loA us nm).length] := List.getElem?_eq_getElem hl
    have h2 : (loA us nm ++ midA us nm ++ hiA us nm)[(loA us nm).length]? = some us[(loA us nm).length] := by rw [← hs]; exact hg
    rw [List.append_assoc, List.getElem?_append_right (Nat.le_refl _), Nat.sub_self, midA_none hv, List.nil_append] at h2
    have := (hiA_mem (List.mem_of_getElem? h2)).2
    omega
/-- With another value of a name. -/
def setU (us : Us) (nm v : ByteArray) : Us := loA us nm ++ [(nm, v)] ++ hiA us nm
def dropU (us : Us) (nm : ByteArray) : Us := loA us nm ++ hiA us nm
theorem srt_sub {us vs : Us} (h : Srt us) (hs : vs.Sublist us) : Srt vs := List.Pairwise.sublist hs h
theorem srt_drop {us : Us} {nm : ByteArray} (h : Srt us) : Srt (dropU us nm) := by
  refine List.pairwise_append.2 ⟨srt_sub h List.filter_sublist, srt_sub h List.filter_sublist, fun a ha b hb => ?_⟩
  have h1 := (loA_mem ha).2
  have h2 := (hiA_mem hb).2
  rw [cmpB_flip] at h2
  exact cmpB_trans h1 (by omega)
theorem srt_set {us : Us} {nm v : ByteArray} (h : Srt us) : Srt (setU us nm v) := by
  unfold setU
  rw [List.append_assoc]
  refine List.pairwise_append.2 ⟨srt_sub h List.filter_sublist, List.pairwise_append.2 ⟨List.pairwise_singleton _ _, srt_sub h List.filter_sublist, fun a ha b hb => ?_⟩, fun a ha b hb => ?_⟩
  · rw [List.mem_singleton] at ha
    have h2 := (hiA_mem hb).2
    rw [cmpB_flip] at h2
    rw [ha]
    dsimp only
    omega
  · have h1 := (loA_mem ha).2
    rcases List.mem_append.1 hb with hb | hb
    · rw [List.mem_singleton] at hb
      rw [hb]
      exact h1
    · have h2 := (hiA_mem hb).2
      rw [cmpB_flip] at h2
      exact cmpB_trans h1 (by omega)
theorem set_len {us : Us} (nm v : ByteArray) (h : Srt us) : (setU us nm v).length = (loA us nm).length + 1 + (hiA us nm).length ∧ us.length = (loA us nm).length + (midA us nm).length + (hiA us nm).length := by
  constructor
  · simp [setU]; omega
  · conv => lhs; rw [srt_split nm h]
    simp only [List.length_append]

end Go.Proofs.YtdiljkmlneeboaaGreat.N
namespace Go.Proofs
open Go.Shelf
shelf_lay Lays.n106 Nm 106 at Tryz as Tryz.compareS
end Go.Proofs
namespace Go.Proofs.YtdiljkmlneeboaaGreat.N
open Go.RowKit
set_option maxRecDepth 100000

theorem compare_any (a b : ByteArray) (w : World) : Calls Tryz.prog 98 #[.string a, .string b] w fun e w' => e = .returned (.int .i64 (cmpB a b)) ∧ w' = w := by
  have h := Any.strings_Compare Tryz.compareS a b w
  exact h
theorem e71 : ∀ args w, (callFunc 97 args).run Tryz.prog w = .ok (.enter 97 args) w := enters_of Tryz.func97 (by kernel_rfl) rfl
set_option maxHeartbeats 400000 in
theorem place1_any (a v b : ByteArray) (w : World) : Calls Tryz.prog 97 #[.agg #[.string a, .string v], .string b] w fun e w' => e = .returned (.int .i64 (cmpB a b)) ∧ Below w.heap.size w w' := by
  have h := fun W => compare_any a b W
  have HA : Hid (∀ o, Below w.heap.size w (w.alloc o)) := fun o => (Below.refl _ w).alloc (Nat.le_refl _) o
  generalize cmpB a b = r at *
  go_enter Tryz.func97, Tryz.ntmps97
  go_wp2_with (go_at_call 98; refine (h _).mono ?_; rintro e w' ⟨rfl, rfl⟩)
  go_ret
  exact ⟨rfl, HA.out _⟩

theorem attrsV_at : ∀ {us : Us} {i : Nat} (h : i < us.length), (attrsV us)[i * 2]? = some (.string us[i].1) ∧ (attrsV us)[i * 2 + 1]? = some (.string us[i].2)
  | p :: r, 0, _ => ⟨rfl, rfl⟩
  | p :: r, i + 1, h => by
    have ih := attrsV_at (us := r) (i := i) (by simpa using h)
    have e : attrsV (p :: r) = .string p.1 :: .string p.2 :: attrsV r := by simp [attrsV]
    rw [e, show (i + 1) * 2 = i * 2 + 1 + 1 by omega]
    simpa using ih
theorem attrsV_one (us : Us) : ∀ u ∈ attrsV us, u.oneCell' = true := by
  intro u hu
  obtain ⟨p, _, hp⟩ := List.mem_flatMap.1 hu
  simp at hp
  rcases hp with rfl | rfl <;> rfl
set_option maxHeartbeats 2000000 in
theorem search_any {w : World} {b off n c : Nat} {us : Us} (h : RowAt w 2 (some ⟨b, off, none⟩) n c (attrsV us)) (hs : Srt us) (hn : us.length ≤ 1000) (nm : ByteArray) : Calls Tryz.prog 96 #[.slice (some ⟨b, off, none⟩) n c, .string nm, .func (Fn.func 97) #[] #[]] w fun e w' => e = .returned (.tuple #[.int .i64 (loA us nm).length, .bool (valA us nm).isSome]) ∧ Below w.heap.size w w' := by
  have hl : us.length = n := by have := h.1; rw [attrsV_len] at this; omega
  have hnc := h.2.1
  have HC : Hid (b < w.heap.size ∧ ∀ i (hi : i < us.length), w.cell? ⟨b, off + i * 2, none⟩ = some (.string us[i].1) ∧ w.cell? ⟨b, off + i * 2 + 1, none⟩ = some (.string us[i].2)) := by
    rcases h.2.2.2.2 with ⟨h0, _⟩ | ⟨b', off', e, hb, hc⟩
    · cases h0
    · cases e
      refine ⟨hb, fun i hi => ⟨hc _ _ (attrsV_at hi).1, ?_⟩⟩
      have := hc _ _ (attrsV_at hi).2
      rwa [← Nat.add_assoc] at this
  have HLT : Hid (∀ t (ht : t < us.length), (cmpB us[t].1 nm < 0 ↔ t < (loA us nm).length)) := fun t ht => srt_lt hs ht
  obtain ⟨at1, at2⟩ := srt_at (nm := nm) hs
  have HA1 := hid_mk at1
  have HA2 := hid_mk at2
  have hle : (loA us nm).length ≤ us.length := List.length_filter_le _ _
  have HCM : Hid (∀ a v W, Calls Tryz.prog 97 (#[.agg #[.string a, .string v], .string nm] ++ #[]) W fun e w' => e = .returned (.int .i64 (cmpB a nm)) ∧ Below W.heap.size W w') := fun a v W => place1_any a v nm W
  have eg := e71
  have HLN := hid_mk hl
  rw [hl] at hle hn
  clear at1 at2 h hl
  generalize hL : (loA us nm).length = L at *
  clear hL
  go_enter Tryz.func96, Tryz.ntmps96
  go_wp2
  go_loopg [9, 10] n (fun kx a9 a10 wr => ∃ lo hi : Nat, a9 = .int .i64 lo ∧ a10 = .int .i64 hi ∧ lo ≤ L ∧ L ≤ hi ∧ hi ≤ n ∧ hi - lo ≤ kx ∧ Hid (Below w.heap.size w wr))
  case atStart => exact ⟨0, n, rfl, rfl, Nat.zero_le _, hle, Nat.le_refl _, by omega, hid_mk (Below.refl _ _)⟩
  case round =>
    obtain ⟨lo, hi, rfl, rfl, h1, h2, h3, hk, HB⟩ := hrel
    by_cases hlt : lo < hi
    · have hm : (lo + hi) / 2 < us.length := by rw [HLN.out]; omega
      obtain ⟨q0, q1⟩ := HC.out.2 _ hm
      have c0 := (HB.out.cell (p := ⟨b, off + (lo + hi) / 2 * 2, none⟩) HC.out.1).trans q0
      have c1 := (HB.out.cell (p := ⟨b, off + (lo + hi) / 2 * 2 + 1, none⟩) HC.out.1).trans q1
      have hcm := HCM.out us[(lo + hi) / 2].1 us[(lo + hi) / 2].2 wr
      have hiff := HLT.out _ hm
      generalize us[(lo + hi) / 2].1 = a at *
      generalize us[(lo + hi) / 2].2 = v at *
      by_cases hc : cmpB a nm < 0
      · have hmL := hiff.1 hc
        clear hiff q0 q1 HC HLT HA1 HA2 hm
        generalize cmpB a nm = cr at *
        go_wp2_with (go_at_fn 97; refine hcm.mono ?_; clear hcm; rintro e w1 ⟨rfl, hB1⟩)
        go_roundg (hi - ((lo + hi) / 2 + 1))
        case measure => omega
        case rel => exact ⟨(lo + hi) / 2 + 1, hi, by rw [show ((lo : Int) + (hi : Int)) / 2 + 1 = (((lo + hi) / 2 + 1 : Nat) : Int) by omega], rfl, by omega, h2, h3, Nat.le_refl _, hid_mk (HB.out.trans (hB1.mono HB.out.size))⟩
      · have hmL : L ≤ (lo + hi) / 2 := Nat.le_of_not_lt fun hx => hc (hiff.2 hx)
        clear hiff q0 q1 HC HLT HA1 HA2 hm
        generalize cmpB a nm = cr at *
        go_wp2_with (go_at_fn 97; refine hcm.mono ?_; clear hcm; rintro e w1 ⟨rfl, hB1⟩)
        go_roundg ((lo + hi) / 2 - lo)
        case measure => omega
        case rel => exact ⟨lo, (lo + hi) / 2, rfl, by rw [show ((lo : Int) + (hi : Int)) / 2 = (((lo + hi) / 2 : Nat) : Int) by omega], h1, hmL, by omega, Nat.le_refl _, hid_mk (HB.out.trans (hB1.mono HB.out.size))⟩
    · obtain rfl : hi = lo := by omega
      obtain rfl : L = hi := by omega
      clear hlt hk h1 h2 HLT
      by_cases hLn : L < n
      · have hm : L < us.length := by rw [HLN.out]; exact hLn
        obtain ⟨q0, q1⟩ := HC.out.2 _ hm
        have c0 := (HB.out.cell (p := ⟨b, off + L * 2, none⟩) HC.out.1).trans q0
        have c1 := (HB.out.cell (p := ⟨b, off + L * 2 + 1, none⟩) HC.out.1).trans q1
        have hcm := HCM.out us[L].1 us[L].2 wr
        have hdec : (cmpB us[L].1 nm == 0) = (valA us nm).isSome := by
          cases hv : valA us nm with
          | none =>
            have := HA2.out hv hm
            simpa using this
          | some x =>
            obtain ⟨_, he⟩ := HA1.out x hv
            rw [he]
            have : cmpB nm nm = 0 := cmpB_zero.2 rfl
            simp [this]
        generalize us[L].1 = a at *
        generalize us[L].2 = v at *
        clear q0 q1 HC HA1 HA2 hm
        generalize cmpB a nm = cr at *
        have HD := hid_mk hdec
        clear hdec
        go_wp2_with (go_at_fn 97; refine hcm.mono ?_; clear hcm; rintro e w1 ⟨rfl, hB1⟩)
        refine bodyPost_ret (v := .tuple #[.int .i64 L, .bool (cr == 0)]) (by simp [results, Tryz.results96, go_sem]) rfl ⟨by rw [HD.out], HB.out.trans (hB1.mono HB.out.size)⟩
      · have HN : Hid ((valA us nm).isSome = false) := by
          show _ = _
          cases hv : valA us nm with
          | none => rfl
          | some x =>
            obtain ⟨hl, _⟩ := HA1.out x hv
            rw [HLN.out] at hl
            exact absurd hl hLn
        clear HC HA1 HA2
        go_wp2
        refine bodyPost_ret (v := .tuple #[.int .i64 L, .bool false]) (by simp [results, Tryz.results96, go_sem]) rfl ⟨by rw [HN.out], HB.out⟩
set_option maxHeartbeats 400000 in
theorem search_empty (w : World) (a : Option Addr) (c : Nat) (fv : Value) (nm : ByteArray) : Calls Tryz.prog 96 #[.slice a 0 c, .string nm, fv] w fun e w' => e = .returned (.tuple #[.int .i64 0, .bool false]) ∧ w' = w := by
  go_enter Tryz.func96, Tryz.ntmps96
  go_wp2
  go_loopw [9, 10] (fun a9 a10 wr => a9 = .int .i64 0 ∧ a10 = .int .i64 0 ∧ wr = w) (fun _ _ _ => 0)
  case atStart => exact ⟨rfl, rfl, rfl⟩
  case round =>
    obtain ⟨rfl, rfl, hw⟩ := hrel
    have hw2 := hw.symm
    subst hw2
    clear hw
    go_wp2
    refine bodyPost_ret (v := .tuple #[.int .i64 0, .bool false]) (by simp [results, Tryz.results96, go_sem]) rfl ⟨rfl, rfl⟩
set_option maxHeartbeats 400000 in
/-- Where a name is among an element's attributes, or would be; whether it is there. -/
theorem place_any {w : World} {a : Option Addr} {n c : Nat} {us : Us} (h : RowAt w 2 a n c (attrsV us)) (hs : Srt us) (hn : us.length ≤ 1000) (nm : ByteArray) : Calls Tryz.prog 60 #[.slice a n c, .string nm] w fun e w' => e = .returned (.tuple #[.int .i64 (loA us nm).length, .bool (valA us nm).isSome]) ∧ Below w.heap.size w w' := by
  have hf : Calls Tryz.prog 96 #[.slice a n c, .string nm, .func (Fn.func 97) #[] #[]] w fun e w' => e = .returned (.tuple #[.int .i64 (loA us nm).length, .bool (valA us nm).isSome]) ∧ Below w.heap.size w w' := by
    rcases h.2.2.2.2 with ⟨rfl, rfl⟩ | ⟨b, off, rfl, _, _⟩
    · have h0 : n = 0 := by have := h.2.1; omega
      subst h0
      have hu : us = [] := by
        have := h.1
        rw [attrsV_len] at this
        exact List.length_eq_zero_iff.1 (by omega)
      subst hu
      refine (search_empty w none 0 _ nm).mono ?_
      rintro e w' ⟨rfl, rfl⟩
      exact ⟨rfl, Below.refl _ _⟩
    · exact search_any h hs hn nm
  generalize (loA us nm).length = L at *
  generalize (valA us nm).isSome = fin at *
  clear h hs hn
  go_enter Tryz.func60, Tryz.ntmps60
  go_wp2_with (go_at_call 96; fail)
  refine hf.mono ?_
  rintro e w1 ⟨rfl, hB⟩
  have HB := hid_mk hB
  clear hf hB
  go_wp2
  refine bodyPost_ret (v := .tuple #[.int .i64 L, .bool fin]) (by simp [results, Tryz.results60, go_sem]) rfl ⟨rfl, HB.out⟩

end Go.Proofs.YtdiljkmlneeboaaGreat.N
