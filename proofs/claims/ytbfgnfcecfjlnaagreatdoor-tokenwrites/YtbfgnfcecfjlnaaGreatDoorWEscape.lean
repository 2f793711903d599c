/- The document's Escape. -/
import Derived.Test.YtbfgnfcecfjlnaaGreatDoorWHash
namespace Go.Proofs.YtbfgnfcecfjlnaaGreatDoor
open Go.RowKit

theorem refAt_len (n : Nat) (f : Int) (i : Nat) (c : Int) : (refAt n f i c).length ≤ 5 := by
  unfold refAt
  split
  · have := numL_len c
    omega
  · split
    · decide +kernel
    · exact partL_len c
theorem ref_len (n : Nat) (f : Int) : ∀ (xs : List Int) (i : Nat), (refFrom n f xs i).length ≤ 5 * xs.length
  | [], _ => by simp [refFrom]
  | c :: r, i => by
    have h1 := refAt_len n f i c
    have h2 := ref_len n f r (i + 1)
    rw [refFrom, List.length_append, List.length_cons]
    omega
theorem ref_take (n : Nat) (f : Int) {xs : List Int} {k : Nat} (h : k < xs.length) : refFrom n f (xs.take (k + 1)) 0 = refFrom n f (xs.take k) 0 ++ refAt n f k (xs.getD k 0) := by
  rw [List.take_add_one, refFrom_app]
  congr 1
  have e1 : (xs.take k).length = k := by rw [List.length_take]; omega
  rw [e1]
  simp [List.getElem?_eq_getElem h, List.getD, refFrom]

set_option maxHeartbeats 4000000 in
set_option maxRecDepth 100000 in
theorem rescape_any (s : ByteArray) (hs : s.size ≤ 5000) (w : World) : Calls Tryz.prog 14 #[.string s] w fun e w' => e = .returned (.string (strOfNums (escL s))) ∧ Below w.heap.size w w' := by
  obtain ⟨g, cap, W, hcv, hcap, hg, hcell, _, hB⟩ := bytesOf s w
  have hba : BytesAt W (.slice (some ⟨g, 0, none⟩) s.size cap) s := ⟨_, _, rfl, hcap, fun _ => ⟨g, 0, rfl, fun j hj => by simpa using hcell j hj⟩⟩
  have hru := R2.chars_any _ s W (by omega) hba
  have hch : ∀ c ∈ chars s, IsChar c := chars_char s s.size 0
  have hcn : (chars s).length ≤ s.size := charsFrom_len s s.size 0
  clear hcell hba
  rw [escL_eq]
  generalize chars s = xs at *
  go_enter Tryz.func14, Tryz.ntmps14
  go_wp2_with (go_at_call 35; fail)
  refine (hru).mono ?_
  rintro e w2 ⟨u, rfl, hown, hb2⟩
  have hrow := RowAt.own hown
  have B2 : Below w.heap.size w w2 := hB.trans (hb2.mono hB.size)
  obtain ⟨a, c2, rfl, hc2, hcs⟩ := hrow
  clear hown hru
  go_wp2
  go_loopw [4, 13] (fun o i wr => ∃ k : Nat, i = .int .i64 k ∧ o = .string (strOfNums (refFrom xs.length (hd xs 0) (xs.take k) 0)) ∧ k ≤ xs.length ∧ Below w2.heap.size w2 wr) (fun _ i _ => xs.length + 1 - (intOf i).toNat)
  case atStart => exact ⟨0, rfl, rfl, Nat.zero_le _, Below.refl _ w2⟩
  case round =>
    obtain ⟨k, rfl, rfl, hk, hbr⟩ := hrel
    have hlen : (strOfNums (refFrom xs.length (hd xs 0) (xs.take k) 0)).size ≤ 30000 := by
      rw [strOf_size]
      have h1 := ref_len xs.length (hd xs 0) (xs.take k) 0
      have h2 : (xs.take k).length ≤ xs.length := by rw [List.length_take]; omega
      omega
    by_cases hlt : k < xs.length
    · obtain ⟨gb, off, rfl, hcell⟩ := hcs (by omega)
      have hc0 := (hbr.cell (World.block_lt_of_cell? w2 _ (hcell k hlt))).trans (hcell k hlt)
      have hf0 := (hbr.cell (World.block_lt_of_cell? w2 _ (hcell 0 (by omega)))).trans (hcell 0 (by omega))
      rw [Nat.add_zero] at hf0
      have hic : IsChar (xs.getD k 0) := hch _ (by simp [List.getD, hlt])
      have hhd : hd xs 0 = xs.getD 0 0 := by
        cases xs with
        | nil => simp at hlt
        | cons c r => rfl
      have HT : Hid (strOfNums (refFrom xs.length (hd xs 0) (xs.take (k + 1)) 0) = strOfNums (refFrom xs.length (hd xs 0) (xs.take k) 0) ++ strOfNums (refAt xs.length (hd xs 0) k (xs.getD k 0))) := by
        show _ = _
        rw [ref_take _ _ hlt, nums_two]
      have hpl := plain_any (xs.getD k 0) hic wr
      have hdg := fun w => R2.refDigit_any (xs.getD k 0) w
      have HR : Hid (refAt xs.length (hd xs 0) k (xs.getD k 0) = if digitZ (xs.getD k 0) && (k == 0 || (k == 1 && xs.getD 0 0 == 45)) then numL (xs.getD k 0) else if xs.getD k 0 = 45 ∧ xs.length = 1 then slashL 45 else partL (xs.getD k 0)) := by
        show _ = _
        unfold refAt
        rw [hhd]
      have hps : (strOfNums (refAt xs.length (hd xs 0) k (xs.getD k 0))).size ≤ 5 := by
        rw [strOf_size]
        exact refAt_len _ _ _ _
      generalize strOfNums (refFrom xs.length (hd xs 0) (xs.take k) 0) = O at *
      generalize refAt xs.length (hd xs 0) k (xs.getD k 0) = RA at *
      generalize xs.getD k 0 = c at *
      generalize xs.getD 0 0 = c0' at *
      have hes : (strOfNums (Lib.encodeRuneZ c)).size ≤ 4 := by
        rw [strOf_size]
        have := Lib.encodeRuneZ_length c
        omega
      have hcv1 := fun w' => conv_one w' c hic
      have hn0 := hic.1
      clear hcell hcs hch hhd
      have c45 : digitZ c = true → (c == 45) = false := by
        intro h
        unfold digitZ at h
        simp at h ⊢
        omega
      have HPS : Hid (plainL c ≠ [] → partL c = plainL c) := fun h => plain_some hn0 h
      have HPN : Hid (plainL c = [] → unseenB c = false ∧ partZ c = false ∧ partL c = slashL c) := plain_none
      have HDN : Hid (digitZ c = true → ∃ n : Nat, c = (n : Int) ∧ n < 128) := by
        intro h
        unfold digitZ at h
        simp at h
        exact ⟨c.toNat, by omega, by omega⟩
      have HDP : Hid (digitZ c = true → plainL c ≠ []) := by
        intro h e
        have h2 := (plain_none e).2.1
        unfold partZ at h2
        rw [h] at h2
        simp at h2
      have HSL : Hid (strOfNums (slashL c) = ⟨#[92]⟩ ++ strOfNums (Lib.encodeRuneZ c)) := by
        show _ = _
        unfold slashL
        rw [nums_two]
        rfl
      have hsn := str_nil (l := plainL c)
      have HSN := hid_mk hsn
      have hpsz : (strOfNums (plainL c)).size ≤ 5 := by
        rw [strOf_size]
        by_cases h : plainL c = []
        · rw [h]
          decide
        · rw [← HPS.out h]
          exact partL_len c
      clear hsn hic
      cases hdz : digitZ c
      · rw [hdz] at hdg HR
        by_cases hS : c = 45 ∧ xs.length = 1
        · obtain ⟨rfl, hl1⟩ := hS
          have HRA : Hid (strOfNums RA = ⟨#[92]⟩ ++ strOfNums (Lib.encodeRuneZ 45)) := by
            show _ = _
            rw [HR.out, if_neg (by simp), if_pos ⟨rfl, hl1⟩]
            exact HSL.out
          have zl : ((xs.length : Int) == 1) = true := by rw [hl1]; rfl
          clear HR HPS HPN HDN HDP HSL HSN hdz c45 hn0
          generalize strOfNums (Lib.encodeRuneZ 45) = E at *
          generalize strOfNums (plainL 45) = PL at *
          generalize strOfNums RA = RS at *
          clear hl1
          go_wp2_with (go_at_call 42; fail)
          refine (hpl).mono ?_
          rintro e w3 ⟨rfl, b3⟩
          have B3 := hbr.trans (b3.mono hbr.size)
          have hf3 := (b3.cell (World.block_lt_of_cell? wr _ hf0)).trans hf0
          go_wp2_with (go_at_call 43; fail)
          refine (hdg _).mono ?_
          rintro e w' ⟨rfl, rfl⟩
          have hcv2 := hcv1 w3
          have B4 := B3.alloc B3.size (.cells #[.int .i32 45] 21)
          clear hcv1
          go_wp2
          go_roundw
          case rel => exact ⟨k + 1, by go_num, by rw [HT.out, HRA.out], by omega, B4⟩
          case measure => simp [intOf]; omega
        · have HR2 : Hid (RA = partL c) := by
            show _ = _
            rw [HR.out, if_neg (by simp), if_neg hS]
          by_cases hp : plainL c = []
          · obtain ⟨y1, y2⟩ := HSN.out.1 hp
            obtain ⟨_, hpz, e3⟩ := HPN.out hp
            have z45 : (c == 45) = false := by
              rw [Bool.eq_false_iff]
              intro h
              have : c = 45 := by simpa using h
              rw [this] at hpz
              exact absurd hpz (by decide)
            have HRA : Hid (strOfNums RA = ⟨#[92]⟩ ++ strOfNums (Lib.encodeRuneZ c)) := by
              show _ = _
              rw [HR2.out, e3]
              exact HSL.out
            clear HR HPS HPN HDN HDP HSL HSN hdz c45 HR2 hp hpz e3 hS
            generalize strOfNums (Lib.encodeRuneZ c) = E at *
            generalize strOfNums (plainL c) = PL at *
            generalize strOfNums RA = RS at *
            go_wp2_with (go_at_call 42; fail)
            refine (hpl).mono ?_
            rintro e w3 ⟨rfl, b3⟩
            have B3 := hbr.trans (b3.mono hbr.size)
            have hf3 := (b3.cell (World.block_lt_of_cell? wr _ hf0)).trans hf0
            go_wp2_with (go_at_call 43; fail)
            refine (hdg _).mono ?_
            rintro e w' ⟨rfl, rfl⟩
            have hcv2 := hcv1 w3
            have B4 := B3.alloc B3.size (.cells #[.int .i32 c] 21)
            clear hcv1
            go_wp2
            go_roundw
            case rel => exact ⟨k + 1, by go_num, by rw [HT.out, HRA.out], by omega, B4⟩
            case measure => simp [intOf]; omega
          · obtain ⟨y1, y2⟩ := HSN.out.2 hp
            have HRA : Hid (strOfNums RA = strOfNums (plainL c)) := by
              show _ = _
              rw [HR2.out, HPS.out hp]
            clear HR HPS HPN HDN HDP HSL HSN hdz c45 HR2 hp hcv1
            generalize strOfNums (Lib.encodeRuneZ c) = E at *
            generalize strOfNums (plainL c) = PL at *
            generalize strOfNums RA = RS at *
            by_cases z : c = 45
            · have hl1 : xs.length ≠ 1 := fun e => hS ⟨z, e⟩
              subst z
              have zl : ((xs.length : Int) == 1) = false := by simp; omega
              clear hS
              go_wp2_with (go_at_call 42; fail)
              refine (hpl).mono ?_
              rintro e w3 ⟨rfl, b3⟩
              have B3 := hbr.trans (b3.mono hbr.size)
              have hf3 := (b3.cell (World.block_lt_of_cell? wr _ hf0)).trans hf0
              go_wp2_with (go_at_call 43; fail)
              refine (hdg _).mono ?_
              rintro e w' ⟨rfl, rfl⟩
              go_wp2
              go_roundw
              case rel => exact ⟨k + 1, by go_num, by rw [HT.out, HRA.out], by omega, B3⟩
              case measure => simp [intOf]; omega
            · have z45 : (c == 45) = false := by simpa using z
              clear hS z
              go_wp2_with (go_at_call 42; fail)
              refine (hpl).mono ?_
              rintro e w3 ⟨rfl, b3⟩
              have B3 := hbr.trans (b3.mono hbr.size)
              have hf3 := (b3.cell (World.block_lt_of_cell? wr _ hf0)).trans hf0
              go_wp2_with (go_at_call 43; fail)
              refine (hdg _).mono ?_
              rintro e w' ⟨rfl, rfl⟩
              go_wp2
              go_roundw
              case rel => exact ⟨k + 1, by go_num, by rw [HT.out, HRA.out], by omega, B3⟩
              case measure => simp [intOf]; omega
      · have z45 := c45 hdz
        have hpne := HDP.out hdz
        obtain ⟨y1, y2⟩ := HSN.out.2 hpne
        have e3 := HPS.out hpne
        have n45 : ¬ (c = 45 ∧ xs.length = 1) := fun h => by
          have : c = 45 := h.1
          rw [this] at hdz
          exact absurd hdz (by decide)
        obtain ⟨n, hcn2, hn128⟩ := HDN.out hdz
        have hnm : ∀ w, Calls Tryz.prog 44 #[.int .i32 c] w fun e w' => e = .returned (.string (strOfNums (numL c))) ∧ w = w' := by
          intro w
          rw [hcn2]
          exact rnumbered_any n hn128 w
        have hnsz : (strOfNums (numL c)).size ≤ 5 := by
          rw [strOf_size]
          have := numL_len c
          omega
        rw [hdz] at hdg HR
        clear hcn2 HPS HPN HDN HDP HSL HSN hdz c45 hcv1
        by_cases k0 : k = 0
        · subst k0
          rw [Nat.add_zero] at hc0
          have ec : c0' = c := by
            have h := hf0.symm.trans hc0
            simpa using h
          subst ec
          have HRA : Hid (strOfNums RA = strOfNums (numL c0')) := by
            show _ = _
            rw [HR.out]
            rfl
          clear HR hpne e3 n45
          generalize strOfNums (Lib.encodeRuneZ c0') = E at *
          generalize strOfNums (plainL c0') = PL at *
          generalize strOfNums (numL c0') = NS at *
          generalize strOfNums RA = RS at *
          go_wp2_with (go_at_call 42; fail)
          refine (hpl).mono ?_
          rintro e w3 ⟨rfl, b3⟩
          have B3 := hbr.trans (b3.mono hbr.size)
          have hf3 := (b3.cell (World.block_lt_of_cell? wr _ hf0)).trans hf0
          go_wp2_with (go_at_call 43; fail)
          refine (hdg _).mono ?_
          rintro e w' ⟨rfl, rfl⟩
          go_wp2_with (go_at_call 44; fail)
          refine (hnm _).mono ?_
          rintro e w' ⟨rfl, rfl⟩
          go_wp2
          go_roundw
          case rel => exact ⟨0 + 1, by go_num, by rw [HT.out, HRA.out], by omega, B3⟩
          case measure => simp [intOf]
        · have zk0 : ((k : Int) == 0) = false := by simp; omega
          by_cases k1 : k = 1
          · subst k1
            by_cases kc : c0' = 45
            · subst kc
              have HRA : Hid (strOfNums RA = strOfNums (numL c)) := by
                show _ = _
                rw [HR.out]
                rfl
              clear HR hpne e3 n45 k0
              generalize strOfNums (Lib.encodeRuneZ c) = E at *
              generalize strOfNums (plainL c) = PL at *
              generalize strOfNums (numL c) = NS at *
              generalize strOfNums RA = RS at *
              go_wp2_with (go_at_call 42; fail)
              refine (hpl).mono ?_
              rintro e w3 ⟨rfl, b3⟩
              have B3 := hbr.trans (b3.mono hbr.size)
              have hf3 := (b3.cell (World.block_lt_of_cell? wr _ hf0)).trans hf0
              go_wp2_with (go_at_call 43; fail)
              refine (hdg _).mono ?_
              rintro e w' ⟨rfl, rfl⟩
              go_wp2_with (go_at_call 44; fail)
              refine (hnm _).mono ?_
              rintro e w' ⟨rfl, rfl⟩
              go_wp2
              go_roundw
              case rel => exact ⟨1 + 1, by go_num, by rw [HT.out, HRA.out], by omega, B3⟩
              case measure => simp [intOf]; omega
            · have zc : (c0' == 45) = false := by simpa using kc
              have HRA : Hid (strOfNums RA = strOfNums (plainL c)) := by
                show _ = _
                rw [HR.out, zc, if_neg (by decide), if_neg n45, e3]
              clear HR hpne e3 n45 k0 kc
              generalize strOfNums (Lib.encodeRuneZ c) = E at *
              generalize strOfNums (plainL c) = PL at *
              generalize strOfNums (numL c) = NS at *
              generalize strOfNums RA = RS at *
              go_wp2_with (go_at_call 42; fail)
              refine (hpl).mono ?_
              rintro e w3 ⟨rfl, b3⟩
              have B3 := hbr.trans (b3.mono hbr.size)
              have hf3 := (b3.cell (World.block_lt_of_cell? wr _ hf0)).trans hf0
              go_wp2_with (go_at_call 43; fail)
              refine (hdg _).mono ?_
              rintro e w' ⟨rfl, rfl⟩
              go_wp2
              go_roundw
              case rel => exact ⟨1 + 1, by go_num, by rw [HT.out, HRA.out], by omega, B3⟩
              case measure => simp [intOf]; omega
          · have zk1 : ((k : Int) == 1) = false := by simp; omega
            have HRA : Hid (strOfNums RA = strOfNums (plainL c)) := by
              show _ = _
              have q0 : (k == 0) = false := by simpa using k0
              have q1 : (k == 1) = false := by simpa using k1
              rw [HR.out, q0, q1, if_neg (by simp), if_neg n45, e3]
            clear HR hpne e3 n45 k0 k1
            generalize strOfNums (Lib.encodeRuneZ c) = E at *
            generalize strOfNums (plainL c) = PL at *
            generalize strOfNums (numL c) = NS at *
            generalize strOfNums RA = RS at *
            go_wp2_with (go_at_call 42; fail)
            refine (hpl).mono ?_
            rintro e w3 ⟨rfl, b3⟩
            have B3 := hbr.trans (b3.mono hbr.size)
            have hf3 := (b3.cell (World.block_lt_of_cell? wr _ hf0)).trans hf0
            go_wp2_with (go_at_call 43; fail)
            refine (hdg _).mono ?_
            rintro e w' ⟨rfl, rfl⟩
            go_wp2
            go_roundw
            case rel => exact ⟨k + 1, by go_num, by rw [HT.out, HRA.out], by omega, B3⟩
            case measure => simp [intOf]; omega
    · have hkx : k = xs.length := by omega
      have HT : Hid (refFrom xs.length (hd xs 0) (xs.take k) 0 = escR xs) := by
        show _ = _
        rw [hkx, List.take_length]
        rfl
      clear hkx
      go_wp2
      go_ret
      exact ⟨congrArg (fun l => Ending.returned (.string (strOfNums l))) HT.out, B2.trans (hbr.mono B2.size)⟩

end Go.Proofs.YtbfgnfcecfjlnaaGreatDoor
