/- gouacheref01.Fold, and gouacheref04.written, whatever the values. -/
import Derived.Test.YtpflliophellgaaDoorWholeN
namespace Go.Proofs.YtpflliophellgaaDoor
open Go.RowKit

set_option maxHeartbeats 4000000 in
set_option maxRecDepth 1000000 in
theorem refFold_any (s : ByteArray) (w : World) (hs : s.size ≤ 1000000000000) :
    Calls Tryd.prog 47 #[.string s] w fun e w' => e = .returned (.string (foldS s)) ∧ Below w.heap.size w w' := by
  obtain ⟨g, cap, W, hcv, hcap, hg, hcell, hfr, hb⟩ := bytesOf s w
  go_enter Tryd.func47, Tryd.ntmps47
  go_wp2
  clear hcv
  go_loopw [10] (fun i wr => ∃ k : Nat, k ≤ s.size ∧ i = .int .i64 k ∧ FoldAt s g k wr ∧ (∀ j, j < s.size → wr.frozen? ⟨g, j, none⟩ = false) ∧ Below w.heap.size w wr) (fun i _ => s.size - (intOf i).toNat)
  case atStart => exact ⟨0, Nat.zero_le _, rfl, fun j hj => by simpa using hcell j hj, hfr, hb⟩
  case round =>
    clear hcell hfr hb
    obtain ⟨k, hk, rfl, hcell, hfr, hb⟩ := hrel
    by_cases hlt : k < s.size
    · obtain ⟨c, hc⟩ : ∃ c : Nat, (s.get! k).toNat = c := ⟨_, rfl⟩
      have ck : wr.cell? ⟨g, k, none⟩ = some (.int .u8 c) := by
        have := hcell k hlt
        rw [if_neg (Nat.lt_irrefl k), hc] at this
        exact this
      have fk := hfr k hlt
      have h256 : c < 256 := by rw [← hc]; exact (s.get! k).toNat_lt
      have HF : Hid (∀ j, j < s.size → wr.frozen? ⟨g, j, none⟩ = false) := hfr
      clear hfr
      by_cases h : 65 ≤ c ∧ c ≤ 90
      · have HX : Hid (((c : Int) + 32) = foldN (s.get! k).toNat) := by
          show _ = _
          rw [hc, foldN, if_pos h]
          omega
        obtain ⟨h1, h2⟩ := h
        clear hc
        go_wp2
        go_roundw
        case rel => exact ⟨k + 1, by omega, by go_num, fold_step hcell hlt (by rw [← HX.out]; try omega), fun j hj => by rw [World.frozen?_setCell]; exact HF.out j hj, hb.setCell hg _⟩
        case measure => simp [intOf]; omega
      · have HX : Hid (foldN (s.get! k).toNat = (s.get! k).toNat) := by
          show _ = _
          rw [hc, foldN, if_neg h]
        clear hc
        rcases (show c < 65 ∨ 90 < c by omega) with h1 | h1
        all_goals
          clear h
          go_wp2
          go_roundw
          case rel => exact ⟨k + 1, by omega, by go_num, fold_keep hcell HX.out, HF.out, hb⟩
          case measure => simp [intOf]; omega
    · have hks : k = s.size := by omega
      rw [hks] at hcell
      have hcv2 := fold_conv (cap := cap) hcell
      clear hks
      go_wp2
      go_ret
      exact ⟨rfl, hb⟩


-- THE WALK
theorem app_app' (s t u : ByteArray) : s ++ t ++ u = s ++ (t ++ u) := by
  apply ByteArray.ext
  simp only [ByteArray.data_append, Array.append_assoc]
theorem plus_str (p : List Int) (tx : ByteArray) : strOfNums p ++ tx = strOfNums (p ++ bytesL tx) := by rw [nums_two, bytesL_str]
def wrt2 (g : Option (List Int)) : ByteArray × Bool := match g with
  | some p => (foldS (strOfNums (rightL (leftL p))), true)
  | none => (⟨#[]⟩, false)

set_option maxHeartbeats 4000000 in
set_option maxRecDepth 100000 in
theorem rwritten_any (W : World) (v : Value) (ts : List Tk) (hv : ValsAt W v ts) (hn : ts.length ≤ 200) (hsz : ∀ t ∈ ts, t.tx.size + t.un.size ≤ 200) :
    Calls Tryd.prog 21 #[v] W fun e w' => e = .returned (.tuple #[.string (wrt2 (gathered ts)).1, .bool (wrt2 (gathered ts)).2]) ∧ Below W.heap.size W w' := by
  have HBY := hid_mk (gathered_byte ts)
  have HLN := hid_mk (fun p h => gathered_len ts p h hsz)
  obtain ⟨a, cap, rfl, hl, hcap, hkid, hc⟩ := hv
  go_enter Tryd.func21, Tryd.ntmps21
  go_wp2
  go_loopw [4, 10] (fun a4 a10 wr => ∃ (k : Nat) (part : List Int), a10 = .int .i64 k ∧ a4 = .string (strOfNums part) ∧ k ≤ ts.length ∧ gathered (ts.take k) = some part ∧ part.length ≤ 201 * k ∧ Below W.heap.size W wr) (fun _ a10 _ => ts.length + 1 - (intOf a10).toNat)
  case atStart => exact ⟨0, [], rfl, rfl, Nat.zero_le _, rfl, by simp, Below.refl _ W⟩
  case round =>
    obtain ⟨k, part, rfl, rfl, hk, hg, hpl, hbr⟩ := hrel
    have HG := hid_mk hg
    clear hg
    have hps : (strOfNums part).size ≤ 100000 := by rw [strOf_size]; omega
    by_cases hlt : k < ts.length
    · obtain ⟨b, off, rfl, hbw, hcell⟩ := hc (by omega)
      have hcc : ∀ j y, (tkCells (ts[k]'hlt))[j]? = some y → wr.cell? ⟨b, off + k * 6 + j, none⟩ = some y := fun j y hy => (hbr.cell (p := ⟨b, off + k * 6 + j, none⟩) hbw).trans (hcell k hlt j y hy)
      have hmem : ts[k]'hlt ∈ ts := List.getElem_mem hlt
      have hs := hsz _ hmem
      have hkd := hkid _ hmem
      have HTK : Hid (ts.take (k + 1) = ts.take k ++ [ts[k]'hlt]) := by
        show _ = _
        rw [List.take_add_one]
        simp [hlt]
      have HNO : Hid (toldT (ts[k]'hlt) = none → gathered ts = none) := fun h => gathered_none ts _ hmem h
      have HLEN : Hid (∀ p, toldT (ts[k]'hlt) = some p → p.length ≤ 201) := fun p h => told_len h hs
      generalize ts[k]'hlt = t at *
      obtain ⟨kk, tx, un, wh, fl, kid⟩ := t
      have c0 := hcc 0 _ rfl
      have c1 := hcc 1 _ rfl
      have c2 := hcc 2 _ rfl
      have c3 := hcc 3 _ rfl
      have c4 := hcc 4 _ rfl
      have c5 := hcc 5 _ rfl
      simp only [Nat.add_zero] at c0 c1 c2 c3 c4 c5 hs hkd
      have HB : Hid (∀ w2, Below wr.heap.size wr w2 → Below W.heap.size W w2) := fun w2 h => hbr.trans (h.mono hbr.size)
      have hal : Below W.heap.size W ((wr.alloc (.cells #[.int .i64 kk, .string tx, .string un, .bool wh, .bool fl, kid] 28)).alloc (.cells #[.int .i64 kk, .string tx, .string un, .bool wh, .bool fl] 26)) := HB.out _ (((Below.refl _ wr).alloc (Nat.le_refl _) _).alloc (by simp) _)
      have HSTEP : Hid (∀ p, toldT ⟨kk, tx, un, wh, fl, kid⟩ = some p → gathered (ts.take (k + 1)) = some (part ++ p) ∧ (part ++ p).length ≤ 201 * (k + 1)) := by
        intro p hp
        refine ⟨by rw [HTK.out]; exact gathered_step HG.out hp, ?_⟩
        have := HLEN.out p hp
        rw [List.length_append]
        omega
      clear hcc hcell hc hmem hkid hsz HTK HLEN HG
      rcases hkd with rfl | ⟨a', l', c', rfl⟩
      · by_cases k1 : kk = 1
        · subst k1
          have HX : Hid (strOfNums part ++ tx = strOfNums (part ++ (bytesL tx))) := by
            show _ = _
            exact plus_str part tx
          generalize strOfNums part = PS at *
          go_wp2
          go_roundw
          case rel =>
            obtain ⟨g1, g2⟩ := HSTEP.out (bytesL tx) rfl
            exact ⟨k + 1, part ++ (bytesL tx), by go_num, congrArg Value.string HX.out, by omega, g1, g2, hal⟩
          case measure => simp [intOf]; omega
        have z1 : (kk == 1) = false := by simpa using k1
        by_cases k10 : kk = 10
        · subst k10
          cases wh
          · have HR : Hid (gathered ts = none) := HNO.out rfl
            go_wp2
            go_ret2
            exact ⟨ret_sb (by rw [HR.out]; rfl), hal⟩
          · have HX : Hid (strOfNums part ++ tx = strOfNums (part ++ (bytesL tx))) := by
              show _ = _
              exact plus_str part tx
            generalize strOfNums part = PS at *
            go_wp2
            go_roundw
            case rel =>
              obtain ⟨g1, g2⟩ := HSTEP.out (bytesL tx) rfl
              exact ⟨k + 1, part ++ (bytesL tx), by go_num, congrArg Value.string HX.out, by omega, g1, g2, hal⟩
            case measure => simp [intOf]; omega
        have z10 : (kk == 10) = false := by simpa using k10
        by_cases k12 : kk = 12
        · subst k12
          cases wh
          · have HR : Hid (gathered ts = none) := HNO.out rfl
            go_wp2
            go_ret2
            exact ⟨ret_sb (by rw [HR.out]; rfl), hal⟩
          · have HX : Hid (strOfNums part ++ (tx ++ un) = strOfNums (part ++ (bytesL tx ++ bytesL un))) := by
              show _ = _
              rw [← List.append_assoc, ← plus_str, ← plus_str]; exact (app_app' _ _ _).symm
            generalize strOfNums part = PS at *
            go_wp2
            go_roundw
            case rel =>
              obtain ⟨g1, g2⟩ := HSTEP.out (bytesL tx ++ bytesL un) rfl
              exact ⟨k + 1, part ++ (bytesL tx ++ bytesL un), by go_num, congrArg Value.string HX.out, by omega, g1, g2, hal⟩
            case measure => simp [intOf]; omega
        have z12 : (kk == 12) = false := by simpa using k12
        by_cases k9 : kk = 9
        · subst k9
          by_cases p43 : tx = ⟨#[43]⟩
          · subst p43
            have HX : Hid (strOfNums part ++ ⟨#[43]⟩ = strOfNums (part ++ (bytesL ⟨#[43]⟩))) := by
              show _ = _
              exact plus_str part ⟨#[43]⟩
            generalize strOfNums part = PS at *
            go_wp2
            go_roundw
            case rel =>
              obtain ⟨g1, g2⟩ := HSTEP.out (bytesL ⟨#[43]⟩) (by unfold toldT toldZ; simp)
              exact ⟨k + 1, part ++ (bytesL ⟨#[43]⟩), by go_num, congrArg Value.string HX.out, by omega, g1, g2, hal⟩
            case measure => simp [intOf]; omega
          by_cases p45 : tx = ⟨#[45]⟩
          · subst p45
            have HX : Hid (strOfNums part ++ ⟨#[45]⟩ = strOfNums (part ++ (bytesL ⟨#[45]⟩))) := by
              show _ = _
              exact plus_str part ⟨#[45]⟩
            generalize strOfNums part = PS at *
            go_wp2
            go_roundw
            case rel =>
              obtain ⟨g1, g2⟩ := HSTEP.out (bytesL ⟨#[45]⟩) (by unfold toldT toldZ; simp)
              exact ⟨k + 1, part ++ (bytesL ⟨#[45]⟩), by go_num, congrArg Value.string HX.out, by omega, g1, g2, hal⟩
            case measure => simp [intOf]; omega
          have HR : Hid (gathered ts = none) := HNO.out (by unfold toldT toldZ; simp [p43, p45])
          obtain ⟨y1, y2⟩ := str_other p43
          obtain ⟨y3, y4⟩ := str_other p45
          clear p43 p45
          go_wp2
          go_ret2
          exact ⟨ret_sb (by rw [HR.out]; rfl), hal⟩
        have z9 : (kk == 9) = false := by simpa using k9
        by_cases k13 : kk = 13
        · subst k13
          have HX : Hid (strOfNums part ++ ⟨#[32]⟩ = strOfNums (part ++ [32])) := by
            show _ = _
            exact plus_str part ⟨#[32]⟩
          generalize strOfNums part = PS at *
          go_wp2
          go_roundw
          case rel =>
            obtain ⟨g1, g2⟩ := HSTEP.out [32] rfl
            exact ⟨k + 1, part ++ [32], by go_num, congrArg Value.string HX.out, by omega, g1, g2, hal⟩
          case measure => simp [intOf]; omega
        have z13 : (kk == 13) = false := by simpa using k13
        have HR : Hid (gathered ts = none) := HNO.out (by unfold toldT toldZ; simp [k1, k9, k10, k12, k13])
        clear k1 k9 k10 k12 k13
        go_wp2
        go_ret2
        exact ⟨ret_sb (by rw [HR.out]; rfl), hal⟩
      · by_cases k1 : kk = 1
        · subst k1
          have HX : Hid (strOfNums part ++ tx = strOfNums (part ++ (bytesL tx))) := by
            show _ = _
            exact plus_str part tx
          generalize strOfNums part = PS at *
          go_wp2
          go_roundw
          case rel =>
            obtain ⟨g1, g2⟩ := HSTEP.out (bytesL tx) rfl
            exact ⟨k + 1, part ++ (bytesL tx), by go_num, congrArg Value.string HX.out, by omega, g1, g2, hal⟩
          case measure => simp [intOf]; omega
        have z1 : (kk == 1) = false := by simpa using k1
        by_cases k10 : kk = 10
        · subst k10
          cases wh
          · have HR : Hid (gathered ts = none) := HNO.out rfl
            go_wp2
            go_ret2
            exact ⟨ret_sb (by rw [HR.out]; rfl), hal⟩
          · have HX : Hid (strOfNums part ++ tx = strOfNums (part ++ (bytesL tx))) := by
              show _ = _
              exact plus_str part tx
            generalize strOfNums part = PS at *
            go_wp2
            go_roundw
            case rel =>
              obtain ⟨g1, g2⟩ := HSTEP.out (bytesL tx) rfl
              exact ⟨k + 1, part ++ (bytesL tx), by go_num, congrArg Value.string HX.out, by omega, g1, g2, hal⟩
            case measure => simp [intOf]; omega
        have z10 : (kk == 10) = false := by simpa using k10
        by_cases k12 : kk = 12
        · subst k12
          cases wh
          · have HR : Hid (gathered ts = none) := HNO.out rfl
            go_wp2
            go_ret2
            exact ⟨ret_sb (by rw [HR.out]; rfl), hal⟩
          · have HX : Hid (strOfNums part ++ (tx ++ un) = strOfNums (part ++ (bytesL tx ++ bytesL un))) := by
              show _ = _
              rw [← List.append_assoc, ← plus_str, ← plus_str]; exact (app_app' _ _ _).symm
            generalize strOfNums part = PS at *
            go_wp2
            go_roundw
            case rel =>
              obtain ⟨g1, g2⟩ := HSTEP.out (bytesL tx ++ bytesL un) rfl
              exact ⟨k + 1, part ++ (bytesL tx ++ bytesL un), by go_num, congrArg Value.string HX.out, by omega, g1, g2, hal⟩
            case measure => simp [intOf]; omega
        have z12 : (kk == 12) = false := by simpa using k12
        by_cases k9 : kk = 9
        · subst k9
          by_cases p43 : tx = ⟨#[43]⟩
          · subst p43
            have HX : Hid (strOfNums part ++ ⟨#[43]⟩ = strOfNums (part ++ (bytesL ⟨#[43]⟩))) := by
              show _ = _
              exact plus_str part ⟨#[43]⟩
            generalize strOfNums part = PS at *
            go_wp2
            go_roundw
            case rel =>
              obtain ⟨g1, g2⟩ := HSTEP.out (bytesL ⟨#[43]⟩) (by unfold toldT toldZ; simp)
              exact ⟨k + 1, part ++ (bytesL ⟨#[43]⟩), by go_num, congrArg Value.string HX.out, by omega, g1, g2, hal⟩
            case measure => simp [intOf]; omega
          by_cases p45 : tx = ⟨#[45]⟩
          · subst p45
            have HX : Hid (strOfNums part ++ ⟨#[45]⟩ = strOfNums (part ++ (bytesL ⟨#[45]⟩))) := by
              show _ = _
              exact plus_str part ⟨#[45]⟩
            generalize strOfNums part = PS at *
            go_wp2
            go_roundw
            case rel =>
              obtain ⟨g1, g2⟩ := HSTEP.out (bytesL ⟨#[45]⟩) (by unfold toldT toldZ; simp)
              exact ⟨k + 1, part ++ (bytesL ⟨#[45]⟩), by go_num, congrArg Value.string HX.out, by omega, g1, g2, hal⟩
            case measure => simp [intOf]; omega
          have HR : Hid (gathered ts = none) := HNO.out (by unfold toldT toldZ; simp [p43, p45])
          obtain ⟨y1, y2⟩ := str_other p43
          obtain ⟨y3, y4⟩ := str_other p45
          clear p43 p45
          go_wp2
          go_ret2
          exact ⟨ret_sb (by rw [HR.out]; rfl), hal⟩
        have z9 : (kk == 9) = false := by simpa using k9
        by_cases k13 : kk = 13
        · subst k13
          have HX : Hid (strOfNums part ++ ⟨#[32]⟩ = strOfNums (part ++ [32])) := by
            show _ = _
            exact plus_str part ⟨#[32]⟩
          generalize strOfNums part = PS at *
          go_wp2
          go_roundw
          case rel =>
            obtain ⟨g1, g2⟩ := HSTEP.out [32] rfl
            exact ⟨k + 1, part ++ [32], by go_num, congrArg Value.string HX.out, by omega, g1, g2, hal⟩
          case measure => simp [intOf]; omega
        have z13 : (kk == 13) = false := by simpa using k13
        have HR : Hid (gathered ts = none) := HNO.out (by unfold toldT toldZ; simp [k1, k9, k10, k12, k13])
        clear k1 k9 k10 k12 k13
        go_wp2
        go_ret2
        exact ⟨ret_sb (by rw [HR.out]; rfl), hal⟩
    · have HE : Hid (gathered ts = some part) := by
        show _ = _
        rw [← HG.out, List.take_of_length_le (by omega)]
      have hpb := HBY.out part HE.out
      have hpl2 : part.length ≤ 50000 := by omega
      have HF : Hid (∀ m : List Int, m.length ≤ 50000 → ∀ w2, Calls Tryd.prog 47 #[.string (strOfNums m)] w2 fun e w' => e = .returned (.string (foldS (strOfNums m))) ∧ Below w2.heap.size w2 w') := fun m hm w2 => refFold_any (strOfNums m) w2 (by rw [strOf_size]; omega)
      clear hc hkid hsz HBY HLN HG
      go_wp2
      go_loop [4] (fun a4 => ∃ m : List Int, a4 = .string (strOfNums m) ∧ leftL m = leftL part ∧ m.length ≤ part.length ∧ ∀ n ∈ m, 0 ≤ n ∧ n < 256) (fun a4 => match a4 with | .string s => s.size | _ => 0)
      case atStart => exact ⟨part, rfl, rfl, Nat.le_refl _, hpb⟩
      case round =>
        obtain ⟨m, rfl, hm, hml, hmb⟩ := hrel
        have HM := hid_mk hm
        clear hm
        have hsz2 := strOf_size m
        cases m with
        | nil =>
          have HR : Hid (gathered ts = some part ∧ rightL (leftL part) = []) := ⟨HE.out, by rw [← HM.out]; rfl⟩
          have he : strOfNums [] = ⟨#[]⟩ := rfl
          have hf := HF.out [] (by simp) wr
          rw [he] at hf ⊢
          clear hsz2
          go_wp2
          go_loop [4] (fun a4 => a4 = .string ⟨#[]⟩) (fun _ => 0)
          case atStart => rfl
          case round =>
            subst hrel
            go_wp2_with (go_at_call 47; fail)
            refine (hf).mono ?_
            rintro e w3 ⟨rfl, b3⟩
            go_wp2
            go_ret2
            exact ⟨ret_sb (by rw [HR.out.1]; show _ = (foldS (strOfNums (rightL (leftL part))), true); rw [HR.out.2]; rfl), hbr.trans (b3.mono hbr.size)⟩
        | cons c r =>
          have h0 : 0 < (strOfNums (c :: r)).size := by rw [hsz2]; simp
          have hc2 := hmb c (by simp)
          have hg : (((strOfNums (c :: r))[0]'h0).toNat : Int) = c := by
            have h1 := get_at (strOfNums (c :: r)) h0
            have h2 := str_get hmb 0
            rw [h1] at h2
            have h3 : ((c :: r).getD 0 0) = c := rfl
            rw [h3] at h2
            omega
          have HX : Hid ((strOfNums (c :: r)).extract 1 (strOfNums (c :: r)).size = strOfNums r) := by
            show _ = _
            rw [hsz2]
            apply ByteArray.ext
            simp [strOfNums]
            exact List.take_of_length_le (by simp)
          have HLEN : Hid ((strOfNums (c :: r)).size = r.length + 1) := by show _ = _; rw [hsz2]; rfl
          have hsb : (strOfNums (c :: r)).size ≤ 1000000 := by rw [hsz2]; omega
          clear hsz2
          by_cases h32 : c = 32
          · generalize strOfNums (c :: r) = s at *
            have z1 : (((s[0]'h0).toNat : Int) == 32) = true := by rw [hg, h32]; rfl
            have HL : Hid (leftL r = leftL part) := by
              show _ = _
              rw [← HM.out, leftL, if_pos h32]
            clear hg
            go_wp2
            go_round
            case rel => exact ⟨r, congrArg Value.string HX.out, HL.out, by simp at hml; omega, fun n hn => hmb n (by simp [hn])⟩
            case measure =>
              show (s.extract 1 s.size).size < s.size
              rw [HX.out, strOf_size, HLEN.out]
              omega
          · have z1 : ((((strOfNums (c :: r))[0]'h0).toNat : Int) == 32) = false := by rw [hg]; simpa using h32
            have HL : Hid (leftL part = c :: r) := by
              show _ = _
              rw [← HM.out, leftL, if_neg h32]
            clear hg HX HLEN
            generalize hq : c :: r = q at *
            clear hq
            go_wp2
            go_loop [4] (fun a4 => ∃ m : List Int, a4 = .string (strOfNums m) ∧ rightL m = rightL q ∧ m.length ≤ q.length ∧ ∀ n ∈ m, 0 ≤ n ∧ n < 256) (fun a4 => match a4 with | .string s => s.size | _ => 0)
            case atStart => exact ⟨q, rfl, rfl, Nat.le_refl _, hmb⟩
            case round =>
              obtain ⟨m, rfl, hm3, hml3, hmb3⟩ := hrel
              have HM3 := hid_mk hm3
              clear hm3
              have hsz3 := strOf_size m
              rcases nil_or_snoc m with rfl | ⟨r3, c3', rfl⟩
              · have HR : Hid (gathered ts = some part ∧ rightL (leftL part) = []) := ⟨HE.out, by rw [HL.out, ← HM3.out]; rfl⟩
                have he : strOfNums [] = ⟨#[]⟩ := rfl
                have hf := HF.out [] (by simp) wr
                rw [he] at hf ⊢
                clear hsz3
                go_wp2_with (go_at_call 47; fail)
                refine (hf).mono ?_
                rintro e w3 ⟨rfl, b3⟩
                go_wp2
                go_ret2
                exact ⟨ret_sb (by rw [HR.out.1]; show _ = (foldS (strOfNums (rightL (leftL part))), true); rw [HR.out.2]; rfl), hbr.trans (b3.mono hbr.size)⟩
              · have hlast : r3.length < (strOfNums (r3 ++ [c3'])).size := by rw [hsz3]; simp
                have hg3 := str_last r3 c3' hmb3 hlast
                have HX3 : Hid ((strOfNums (r3 ++ [c3'])).extract 0 r3.length = strOfNums r3) := by
                  show _ = _
                  apply ByteArray.ext
                  simp [strOfNums]
                have hlen3 : (strOfNums (r3 ++ [c3'])).size = r3.length + 1 := by rw [hsz3]; simp
                have hrl3 : r3.length + 1 ≤ 1000000 := by simp at hml3; omega
                have hf := HF.out (r3 ++ [c3']) (by omega) wr
                clear hsz3
                by_cases h32' : c3' = 32
                · generalize strOfNums (r3 ++ [c3']) = s at *
                  have z2 : (((s[r3.length]'hlast).toNat : Int) == 32) = true := by rw [hg3, h32']; rfl
                  have HL3 : Hid (rightL r3 = rightL q) := by
                    show _ = _
                    rw [← HM3.out, rightL_snoc, if_pos h32']
                  clear hg3 hf
                  go_wp2
                  go_round
                  case rel => exact ⟨r3, congrArg Value.string HX3.out, HL3.out, by simp at hml3; omega, fun n hn => hmb3 n (by simp [hn])⟩
                  case measure =>
                    show (s.extract 0 r3.length).size < s.size
                    rw [HX3.out, strOf_size, hlen3]
                    omega
                · have HR : Hid (gathered ts = some part ∧ rightL (leftL part) = r3 ++ [c3']) := ⟨HE.out, by rw [HL.out, ← HM3.out, rightL_snoc, if_neg h32']⟩
                  have z2 : ((((strOfNums (r3 ++ [c3']))[r3.length]'hlast).toNat : Int) == 32) = false := by rw [hg3]; simpa using h32'
                  have HFS : Hid (foldS (strOfNums (r3 ++ [c3'])) = foldS (strOfNums (rightL (leftL part)))) := by show _ = _; rw [HR.out.2]
                  generalize strOfNums (r3 ++ [c3']) = s at *
                  generalize foldS s = FS at *
                  clear hg3 HX3
                  go_wp2_with (go_at_call 47; fail)
                  refine (hf).mono ?_
                  rintro e w3 ⟨rfl, b3⟩
                  go_wp2
                  go_ret2
                  exact ⟨ret_sb (by rw [HR.out.1]; show _ = (foldS (strOfNums (rightL (leftL part))), true); rw [← HFS.out]), hbr.trans (b3.mono hbr.size)⟩

end Go.Proofs.YtpflliophellgaaDoor
