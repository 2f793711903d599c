/- gouacheref02.Whole, whatever the text. -/
import Derived.Test.YtpflliophellgaaDoorParseN
namespace Go.Proofs.YtpflliophellgaaDoor
open Go.RowKit

def digB (l : List Int) : Bool := l.all digitZ

theorem digB_iff (l : List Int) : digB l = true ↔ Dig l := by
  unfold digB Dig digitZ
  simp

def sgnB (s : ByteArray) : Bool := decide (0 < s.size) && ((s.get! 0).toNat == 43 || (s.get! 0).toNat == 45)

def negB (s : ByteArray) : Bool := decide (0 < s.size) && (s.get! 0).toNat == 45

def bodyS (s : ByteArray) : ByteArray := if sgnB s then s.extract 1 s.size else s

def negZ (b : Bool) (n : Int) : Int := if b then -n else n

/-- What Int tells of a text's body, whether it was below 0. -/
def intV (bl : Bool) (ds : List Int) : Int × Bool := if ds ≠ [] ∧ digB ds = true then (negZ bl (satL ds), true) else (0, false)

theorem ret2_v {v : Int × Bool} {a : Int} {b : Bool} (h : v = (a, b)) : Ending.returned (.tuple #[.int .i64 a, .bool b]) = .returned (.tuple #[.int .i64 v.1, .bool v.2]) := by rw [h]

set_option maxHeartbeats 2000000 in
set_option maxRecDepth 100000 in
theorem whole_plain (s : ByteArray) (hs : s.size ≤ 100000) (h0 : 0 < s.size) (h45 : (s[0]'h0).toNat ≠ 45) (h43 : (s[0]'h0).toNat ≠ 43) (w : World) :
    Calls Tryd.prog 22 #[.string s] w fun e w' => e = .returned (.tuple #[.int .i64 (intV false (bytesL s)).1, .bool (intV false (bytesL s)).2]) ∧ w = w' := by
  have e1 : (((s[0]'h0).toNat : Int) == 45) = false := by simp; omega
  have e2 : (((s[0]'h0).toNat : Int) == 43) = false := by simp; omega
  have HSZ := hid_mk (bytesL_size s)
  have HGT := hid_mk (fun p hp => byte_at s p hp)
  have HNE : Hid (bytesL s ≠ []) := by
    intro e
    have := bytesL_size s
    rw [e] at this
    simp at this
    omega
  clear h45 h43
  generalize bytesL s = ds at *
  go_enter Tryd.func22, Tryd.ntmps22
  go_wp2
  go_loop [5, 6] (fun a5 a6 => ∃ k : Nat, a6 = .int .i64 k ∧ a5 = .int .i64 (satL (ds.take k)) ∧ k ≤ ds.length ∧ Dig (ds.take k)) (fun _ a6 => ds.length + 1 - (intOf a6).toNat)
  case atStart => exact ⟨0, rfl, rfl, Nat.zero_le _, fun c hc => by simp at hc⟩
  case round =>
    obtain ⟨k, rfl, rfl, hk, hdig⟩ := hrel
    have hsb := satL_bd (ds.take k) hdig
    have HDG := hid_mk hdig
    clear hdig
    by_cases hlt : k < ds.length
    · have hps : k < s.size := by rw [← HSZ.out]; exact hlt
      have HGB := hid_mk (HGT.out k hps)
      have HTK : Hid (ds.take (k + 1) = ds.take k ++ [ds.getD k 0]) := by
        show _ = _
        rw [List.take_add_one]
        simp [List.getD, hlt]
      have HMEM : Hid (ds.getD k 0 ∈ ds) := by
        show _ ∈ _
        simp [List.getD, hlt]
      have hb8 := (s[k]'hps).toNat_lt
      have HNO : Hid (¬ (48 ≤ ds.getD k 0 ∧ ds.getD k 0 ≤ 57) → intV false ds = (0, false)) := by
        intro hnd
        unfold intV
        rw [if_neg]
        rintro ⟨_, hd⟩
        exact hnd ((digB_iff ds).1 hd _ HMEM.out)
      by_cases hc1 : 48 ≤ (s[k]'hps).toNat
      · by_cases hc2 : (s[k]'hps).toNat ≤ 57
        · have HS : Hid (satL (ds.take (k + 1)) = satZ (satL (ds.take k)) (ds.getD k 0)) := by
            show satL (ds.take (k + 1)) = _
            rw [HTK.out, satL_snoc]
          have HD2 : Hid (Dig (ds.take (k + 1))) := by
            show Dig _
            rw [HTK.out]
            intro c hc
            rcases List.mem_append.1 hc with hc | hc
            · exact HDG.out c hc
            · rw [List.mem_singleton.1 hc, HGB.out]
              omega
          have HV : Hid (satL (ds.take (k + 1)) = if 1000000 < 10 * satL (ds.take k) + (((s[k]'hps).toNat : Int) - 48) then 1000000 else 10 * satL (ds.take k) + (((s[k]'hps).toNat : Int) - 48)) := by
            show _ = _
            rw [HS.out, HGB.out]
            unfold satZ
            rw [Int.mul_comm 10]
          clear HNO HGB HTK
          generalize satL (ds.take k) = sn at *
          by_cases hbg : 1000000 < 10 * sn + (((s[k]'hps).toNat : Int) - 48)
          · have HV2 : Hid (satL (ds.take (k + 1)) = 1000000) := by
              show _ = _
              rw [HV.out, if_pos hbg]
            go_wp2
            go_round
            case rel => exact ⟨k + 1, by go_num, congrArg (Value.int .i64) HV2.out.symm, by omega, HD2.out⟩
            case measure => simp [intOf]; omega
          · have HV2 : Hid (satL (ds.take (k + 1)) = 10 * sn + (((s[k]'hps).toNat : Int) - 48)) := by
              show _ = _
              rw [HV.out, if_neg hbg]
            go_wp2
            go_round
            case rel => exact ⟨k + 1, by go_num, congrArg (Value.int .i64) HV2.out.symm, by omega, HD2.out⟩
            case measure => simp [intOf]; omega
        · have HN2 : Hid (intV false ds = (0, false)) := HNO.out (by rw [HGB.out]; omega)
          generalize satL (ds.take k) = sn at *
          clear HNO HGB HTK
          go_wp2
          go_ret2
          exact ⟨ret2_v HN2.out, rfl⟩
      · have HN2 : Hid (intV false ds = (0, false)) := HNO.out (by rw [HGB.out]; omega)
        generalize satL (ds.take k) = sn at *
        clear HNO HGB HTK
        go_wp2
        go_ret2
        exact ⟨ret2_v HN2.out, rfl⟩
    · have hps : ¬ k < s.size := by rw [← HSZ.out]; exact hlt
      have HE : Hid (ds.take k = ds) := by show ds.take k = ds; exact List.take_of_length_le (by omega)
      have HDD : Hid (intV false ds = (negZ false (satL ds), true)) := by
        show _ = _
        unfold intV
        have h1 := HDG.out
        rw [HE.out] at h1
        rw [if_pos ⟨HNE.out, (digB_iff ds).2 h1⟩]
      generalize hsn : satL (ds.take k) = sn at *
      have HSN : Hid (satL ds = sn) := by show satL ds = sn; rw [← hsn, HE.out]
      clear hsn
      go_wp2
      go_ret2
      exact ⟨ret2_v (by rw [HDD.out, HSN.out]; rfl), rfl⟩

set_option maxHeartbeats 2000000 in
set_option maxRecDepth 100000 in
theorem whole_minus (s : ByteArray) (hs : s.size ≤ 100000) (h0 : 0 < s.size) (hc : (s[0]'h0).toNat = 45) (h1 : 1 < s.size) (w : World) :
    Calls Tryd.prog 22 #[.string s] w fun e w' => e = .returned (.tuple #[.int .i64 (intV true (bytesL (s.extract 1 s.size))).1, .bool (intV true (bytesL (s.extract 1 s.size))).2]) ∧ w = w' := by
  have e1 : (((s[0]'h0).toNat : Int) == 45) = true := by rw [hc]; rfl
  have e2 : (((s[0]'h0).toNat : Int) == 43) = false := by rw [hc]; rfl
  have hts : (s.extract 1 s.size).size = s.size - 1 := by simp
  have HSZ := hid_mk (bytesL_size (s.extract 1 s.size))
  have HGT := hid_mk (fun p hp => byte_at (s.extract 1 s.size) p hp)
  have HNE : Hid (bytesL (s.extract 1 s.size) ≠ []) := by
    intro e
    have := bytesL_size (s.extract 1 s.size)
    rw [e] at this
    simp at this
    omega
  generalize bytesL (s.extract 1 s.size) = ds at *
  clear hc
  go_enter Tryd.func22, Tryd.ntmps22
  go_wp2
  generalize s.extract 1 s.size = t at *
  have htp : 0 < t.size := by omega
  have htb : t.size ≤ 100000 := by omega
  clear hts
  go_loop [5, 6] (fun a5 a6 => ∃ k : Nat, a6 = .int .i64 k ∧ a5 = .int .i64 (satL (ds.take k)) ∧ k ≤ ds.length ∧ Dig (ds.take k)) (fun _ a6 => ds.length + 1 - (intOf a6).toNat)
  case atStart => exact ⟨0, rfl, rfl, Nat.zero_le _, fun c hc => by simp at hc⟩
  case round =>
    obtain ⟨k, rfl, rfl, hk, hdig⟩ := hrel
    have hsb := satL_bd (ds.take k) hdig
    have HDG := hid_mk hdig
    clear hdig
    by_cases hlt : k < ds.length
    · have hps : k < t.size := by rw [← HSZ.out]; exact hlt
      have HGB := hid_mk (HGT.out k hps)
      have HTK : Hid (ds.take (k + 1) = ds.take k ++ [ds.getD k 0]) := by
        show _ = _
        rw [List.take_add_one]
        simp [List.getD, hlt]
      have HMEM : Hid (ds.getD k 0 ∈ ds) := by
        show _ ∈ _
        simp [List.getD, hlt]
      have hb8 := (t[k]'hps).toNat_lt
      have HNO : Hid (¬ (48 ≤ ds.getD k 0 ∧ ds.getD k 0 ≤ 57) → intV true ds = (0, false)) := by
        intro hnd
        unfold intV
        rw [if_neg]
        rintro ⟨_, hd⟩
        exact hnd ((digB_iff ds).1 hd _ HMEM.out)
      by_cases hc1 : 48 ≤ (t[k]'hps).toNat
      · by_cases hc2 : (t[k]'hps).toNat ≤ 57
        · have HS : Hid (satL (ds.take (k + 1)) = satZ (satL (ds.take k)) (ds.getD k 0)) := by
            show satL (ds.take (k + 1)) = _
            rw [HTK.out, satL_snoc]
          have HD2 : Hid (Dig (ds.take (k + 1))) := by
            show Dig _
            rw [HTK.out]
            intro c hc
            rcases List.mem_append.1 hc with hc | hc
            · exact HDG.out c hc
            · rw [List.mem_singleton.1 hc, HGB.out]
              omega
          have HV : Hid (satL (ds.take (k + 1)) = if 1000000 < 10 * satL (ds.take k) + (((t[k]'hps).toNat : Int) - 48) then 1000000 else 10 * satL (ds.take k) + (((t[k]'hps).toNat : Int) - 48)) := by
            show _ = _
            rw [HS.out, HGB.out]
            unfold satZ
            rw [Int.mul_comm 10]
          clear HNO HGB HTK
          generalize satL (ds.take k) = sn at *
          by_cases hbg : 1000000 < 10 * sn + (((t[k]'hps).toNat : Int) - 48)
          · have HV2 : Hid (satL (ds.take (k + 1)) = 1000000) := by
              show _ = _
              rw [HV.out, if_pos hbg]
            go_wp2
            go_round
            case rel => exact ⟨k + 1, by go_num, congrArg (Value.int .i64) HV2.out.symm, by omega, HD2.out⟩
            case measure => simp [intOf]; omega
          · have HV2 : Hid (satL (ds.take (k + 1)) = 10 * sn + (((t[k]'hps).toNat : Int) - 48)) := by
              show _ = _
              rw [HV.out, if_neg hbg]
            go_wp2
            go_round
            case rel => exact ⟨k + 1, by go_num, congrArg (Value.int .i64) HV2.out.symm, by omega, HD2.out⟩
            case measure => simp [intOf]; omega
        · have HN2 : Hid (intV true ds = (0, false)) := HNO.out (by rw [HGB.out]; omega)
          generalize satL (ds.take k) = sn at *
          clear HNO HGB HTK
          go_wp2
          go_ret2
          exact ⟨ret2_v HN2.out, rfl⟩
      · have HN2 : Hid (intV true ds = (0, false)) := HNO.out (by rw [HGB.out]; omega)
        generalize satL (ds.take k) = sn at *
        clear HNO HGB HTK
        go_wp2
        go_ret2
        exact ⟨ret2_v HN2.out, rfl⟩
    · have hps : ¬ k < t.size := by rw [← HSZ.out]; exact hlt
      have HE : Hid (ds.take k = ds) := by show ds.take k = ds; exact List.take_of_length_le (by omega)
      have HDD : Hid (intV true ds = (negZ true (satL ds), true)) := by
        show _ = _
        unfold intV
        have h1 := HDG.out
        rw [HE.out] at h1
        rw [if_pos ⟨HNE.out, (digB_iff ds).2 h1⟩]
      generalize hsn : satL (ds.take k) = sn at *
      have HSN : Hid (satL ds = sn) := by show satL ds = sn; rw [← hsn, HE.out]
      clear hsn
      go_wp2
      go_ret2
      exact ⟨ret2_v (by rw [HDD.out, HSN.out]; rfl), rfl⟩

set_option maxHeartbeats 1000000 in
set_option maxRecDepth 100000 in
theorem whole_minus0 (s : ByteArray) (h0 : 0 < s.size) (hc : (s[0]'h0).toNat = 45) (h1 : s.size = 1) (w : World) :
    Calls Tryd.prog 22 #[.string s] w fun e w' => e = .returned (.tuple #[.int .i64 0, .bool false]) ∧ w = w' := by
  have e1 : (((s[0]'h0).toNat : Int) == 45) = true := by rw [hc]; rfl
  have e2 : (((s[0]'h0).toNat : Int) == 43) = false := by rw [hc]; rfl
  have ht : s.extract 1 s.size = ⟨#[]⟩ := empty_of (by simp [h1])
  clear hc
  go_enter Tryd.func22, Tryd.ntmps22
  go_wp2
  first | rw [ht] | skip
  go_loop [5, 6] (fun a5 a6 => a5 = .int .i64 0 ∧ a6 = .int .i64 0) (fun _ _ => 0)
  case atStart => exact ⟨rfl, rfl⟩
  case round =>
    obtain ⟨rfl, rfl⟩ := hrel
    go_wp2
    go_ret2
    exact ⟨rfl, rfl⟩

set_option maxHeartbeats 2000000 in
set_option maxRecDepth 100000 in
theorem whole_plus (s : ByteArray) (hs : s.size ≤ 100000) (h0 : 0 < s.size) (hc : (s[0]'h0).toNat = 43) (h1 : 1 < s.size) (w : World) :
    Calls Tryd.prog 22 #[.string s] w fun e w' => e = .returned (.tuple #[.int .i64 (intV false (bytesL (s.extract 1 s.size))).1, .bool (intV false (bytesL (s.extract 1 s.size))).2]) ∧ w = w' := by
  have e1 : (((s[0]'h0).toNat : Int) == 45) = false := by rw [hc]; rfl
  have e2 : (((s[0]'h0).toNat : Int) == 43) = true := by rw [hc]; rfl
  have hts : (s.extract 1 s.size).size = s.size - 1 := by simp
  have HSZ := hid_mk (bytesL_size (s.extract 1 s.size))
  have HGT := hid_mk (fun p hp => byte_at (s.extract 1 s.size) p hp)
  have HNE : Hid (bytesL (s.extract 1 s.size) ≠ []) := by
    intro e
    have := bytesL_size (s.extract 1 s.size)
    rw [e] at this
    simp at this
    omega
  generalize bytesL (s.extract 1 s.size) = ds at *
  clear hc
  go_enter Tryd.func22, Tryd.ntmps22
  go_wp2
  generalize s.extract 1 s.size = t at *
  have htp : 0 < t.size := by omega
  have htb : t.size ≤ 100000 := by omega
  clear hts
  go_loop [5, 6] (fun a5 a6 => ∃ k : Nat, a6 = .int .i64 k ∧ a5 = .int .i64 (satL (ds.take k)) ∧ k ≤ ds.length ∧ Dig (ds.take k)) (fun _ a6 => ds.length + 1 - (intOf a6).toNat)
  case atStart => exact ⟨0, rfl, rfl, Nat.zero_le _, fun c hc => by simp at hc⟩
  case round =>
    obtain ⟨k, rfl, rfl, hk, hdig⟩ := hrel
    have hsb := satL_bd (ds.take k) hdig
    have HDG := hid_mk hdig
    clear hdig
    by_cases hlt : k < ds.length
    · have hps : k < t.size := by rw [← HSZ.out]; exact hlt
      have HGB := hid_mk (HGT.out k hps)
      have HTK : Hid (ds.take (k + 1) = ds.take k ++ [ds.getD k 0]) := by
        show _ = _
        rw [List.take_add_one]
        simp [List.getD, hlt]
      have HMEM : Hid (ds.getD k 0 ∈ ds) := by
        show _ ∈ _
        simp [List.getD, hlt]
      have hb8 := (t[k]'hps).toNat_lt
      have HNO : Hid (¬ (48 ≤ ds.getD k 0 ∧ ds.getD k 0 ≤ 57) → intV false ds = (0, false)) := by
        intro hnd
        unfold intV
        rw [if_neg]
        rintro ⟨_, hd⟩
        exact hnd ((digB_iff ds).1 hd _ HMEM.out)
      by_cases hc1 : 48 ≤ (t[k]'hps).toNat
      · by_cases hc2 : (t[k]'hps).toNat ≤ 57
        · have HS : Hid (satL (ds.take (k + 1)) = satZ (satL (ds.take k)) (ds.getD k 0)) := by
            show satL (ds.take (k + 1)) = _
            rw [HTK.out, satL_snoc]
          have HD2 : Hid (Dig (ds.take (k + 1))) := by
            show Dig _
            rw [HTK.out]
            intro c hc
            rcases List.mem_append.1 hc with hc | hc
            · exact HDG.out c hc
            · rw [List.mem_singleton.1 hc, HGB.out]
              omega
          have HV : Hid (satL (ds.take (k + 1)) = if 1000000 < 10 * satL (ds.take k) + (((t[k]'hps).toNat : Int) - 48) then 1000000 else 10 * satL (ds.take k) + (((t[k]'hps).toNat : Int) - 48)) := by
            show _ = _
            rw [HS.out, HGB.out]
            unfold satZ
            rw [Int.mul_comm 10]
          clear HNO HGB HTK
          generalize satL (ds.take k) = sn at *
          by_cases hbg : 1000000 < 10 * sn + (((t[k]'hps).toNat : Int) - 48)
          · have HV2 : Hid (satL (ds.take (k + 1)) = 1000000) := by
              show _ = _
              rw [HV.out, if_pos hbg]
            go_wp2
            go_round
            case rel => exact ⟨k + 1, by go_num, congrArg (Value.int .i64) HV2.out.symm, by omega, HD2.out⟩
            case measure => simp [intOf]; omega
          · have HV2 : Hid (satL (ds.take (k + 1)) = 10 * sn + (((t[k]'hps).toNat : Int) - 48)) := by
              show _ = _
              rw [HV.out, if_neg hbg]
            go_wp2
            go_round
            case rel => exact ⟨k + 1, by go_num, congrArg (Value.int .i64) HV2.out.symm, by omega, HD2.out⟩
            case measure => simp [intOf]; omega
        · have HN2 : Hid (intV false ds = (0, false)) := HNO.out (by rw [HGB.out]; omega)
          generalize satL (ds.take k) = sn at *
          clear HNO HGB HTK
          go_wp2
          go_ret2
          exact ⟨ret2_v HN2.out, rfl⟩
      · have HN2 : Hid (intV false ds = (0, false)) := HNO.out (by rw [HGB.out]; omega)
        generalize satL (ds.take k) = sn at *
        clear HNO HGB HTK
        go_wp2
        go_ret2
        exact ⟨ret2_v HN2.out, rfl⟩
    · have hps : ¬ k < t.size := by rw [← HSZ.out]; exact hlt
      have HE : Hid (ds.take k = ds) := by show ds.take k = ds; exact List.take_of_length_le (by omega)
      have HDD : Hid (intV false ds = (negZ false (satL ds), true)) := by
        show _ = _
        unfold intV
        have h1 := HDG.out
        rw [HE.out] at h1
        rw [if_pos ⟨HNE.out, (digB_iff ds).2 h1⟩]
      generalize hsn : satL (ds.take k) = sn at *
      have HSN : Hid (satL ds = sn) := by show satL ds = sn; rw [← hsn, HE.out]
      clear hsn
      go_wp2
      go_ret2
      exact ⟨ret2_v (by rw [HDD.out, HSN.out]; rfl), rfl⟩

set_option maxHeartbeats 1000000 in
set_option maxRecDepth 100000 in
theorem whole_plus0 (s : ByteArray) (h0 : 0 < s.size) (hc : (s[0]'h0).toNat = 43) (h1 : s.size = 1) (w : World) :
    Calls Tryd.prog 22 #[.string s] w fun e w' => e = .returned (.tuple #[.int .i64 0, .bool false]) ∧ w = w' := by
  have e1 : (((s[0]'h0).toNat : Int) == 45) = false := by rw [hc]; rfl
  have e2 : (((s[0]'h0).toNat : Int) == 43) = true := by rw [hc]; rfl
  have ht : s.extract 1 s.size = ⟨#[]⟩ := empty_of (by simp [h1])
  clear hc
  go_enter Tryd.func22, Tryd.ntmps22
  go_wp2
  first | rw [ht] | skip
  go_loop [5, 6] (fun a5 a6 => a5 = .int .i64 0 ∧ a6 = .int .i64 0) (fun _ _ => 0)
  case atStart => exact ⟨rfl, rfl⟩
  case round =>
    obtain ⟨rfl, rfl⟩ := hrel
    go_wp2
    go_ret2
    exact ⟨rfl, rfl⟩

set_option maxHeartbeats 1000000 in
set_option maxRecDepth 100000 in
theorem whole_empty (w : World) : Calls Tryd.prog 22 #[.string ⟨#[]⟩] w fun e w' => e = .returned (.tuple #[.int .i64 0, .bool false]) ∧ w = w' := by
  go_enter Tryd.func22, Tryd.ntmps22
  go_wp2
  go_loop [5, 6] (fun a5 a6 => a5 = .int .i64 0 ∧ a6 = .int .i64 0) (fun _ _ => 0)
  case atStart => exact ⟨rfl, rfl⟩
  case round =>
    obtain ⟨rfl, rfl⟩ := hrel
    go_wp2
    go_ret2
    exact ⟨rfl, rfl⟩

theorem whole_any (s : ByteArray) (hs : s.size ≤ 100000) (w : World) :
    Calls Tryd.prog 22 #[.string s] w fun e w' => e = .returned (.tuple #[.int .i64 (intV (negB s) (bytesL (bodyS s))).1, .bool (intV (negB s) (bytesL (bodyS s))).2]) ∧ w = w' := by
  by_cases h0 : 0 < s.size
  · have hg := get_at s h0
    have es : sgnB s = ((s[0]'h0).toNat == 43 || (s[0]'h0).toNat == 45) := by unfold sgnB; rw [hg]; simp [h0]
    have en : negB s = ((s[0]'h0).toNat == 45) := by unfold negB; rw [hg]; simp [h0]
    have hnil : ∀ bl, intV bl (bytesL ⟨#[]⟩) = (0, false) := by
      intro bl
      unfold intV
      rw [if_neg]
      rintro ⟨h, _⟩
      exact h rfl
    by_cases h43 : (s[0]'h0).toNat = 43
    · have hb : bodyS s = s.extract 1 s.size := by unfold bodyS; rw [es, h43]; rfl
      have hn : negB s = false := by rw [en, h43]; rfl
      rw [hb, hn]
      by_cases h1 : 1 < s.size
      · exact whole_plus s hs h0 h43 h1 w
      · rw [empty_of (show (s.extract 1 s.size).size = 0 by simp; omega), hnil]
        exact whole_plus0 s h0 h43 (by omega) w
    · by_cases h45 : (s[0]'h0).toNat = 45
      · have hb : bodyS s = s.extract 1 s.size := by unfold bodyS; rw [es, h45]; rfl
        have hn : negB s = true := by rw [en, h45]; rfl
        rw [hb, hn]
        by_cases h1 : 1 < s.size
        · exact whole_minus s hs h0 h45 h1 w
        · rw [empty_of (show (s.extract 1 s.size).size = 0 by simp; omega), hnil]
          exact whole_minus0 s h0 h45 (by omega) w
      · have hb : bodyS s = s := by unfold bodyS; rw [es]; simp [h43, h45]
        have hn : negB s = false := by rw [en]; simp [h45]
        rw [hb, hn]
        exact whole_plain s hs h0 h45 h43 w
  · have e := empty_of (show s.size = 0 by omega)
    subst e
    exact whole_empty w
end Go.Proofs.YtpflliophellgaaDoor
