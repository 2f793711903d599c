/- nth.cut over lists, and what Print writes is read again. -/
import Derived.Test.YtpflliophellgaaGreatDoorNParseN
import Derived.Test.YtpflliophellgaaGreatDoorNPrint
namespace Go.Proofs.YtpflliophellgaaGreatDoor.N
open Go.RowKit

def digB (l : List Int) : Bool := l.all digitZ
theorem digB_iff (l : List Int) : digB l = true ↔ Dig l := by
  unfold digB Dig digitZ
  simp

theorem bytesL_ext {a b : ByteArray} (h : bytesL a = bytesL b) : a = b := by rw [← bytesL_str a, ← bytesL_str b, h]
theorem bytesL_extract (s : ByteArray) (i j : Nat) : bytesL (s.extract i j) = ((bytesL s).drop i).take (j - i) := by
  unfold bytesL
  rw [ByteArray.data_extract, Array.toList_extract, List.extract_eq_take_drop, ← List.map_drop, ← List.map_take]
theorem bytesL_tail (s : ByteArray) (i : Nat) : bytesL (s.extract i s.size) = (bytesL s).drop i := by
  rw [bytesL_extract, List.take_of_length_le]
  rw [List.length_drop, bytesL_size]
  exact Nat.le_refl _
theorem bytesL_append (a b : ByteArray) : bytesL (a ++ b) = bytesL a ++ bytesL b := by
  unfold bytesL
  rw [ByteArray.data_append, Array.toList_append, List.map_append]
theorem size_0 {s : ByteArray} : s.size = 0 ↔ bytesL s = [] := by
  rw [← bytesL_size]
  exact List.length_eq_zero_iff
theorem head_is {s : ByteArray} {c : Int} {r : List Int} (h : bytesL s = c :: r) : ∃ h0 : 0 < s.size, ((s[0]'h0).toNat : Int) = c := by
  have hs : 0 < s.size := by rw [← bytesL_size, h]; simp
  refine ⟨hs, ?_⟩
  rw [← byte_at s 0 hs, h]
  rfl

/-- On lists: the sign, what is behind, one blank less, whether the sign is a minus. -/
def sgnL : List Int → List Int × List Int
  | [] => ([], [])
  | c :: r => if c = 43 ∨ c = 45 then ([c], r) else ([], c :: r)
def trimL : List Int → List Int
  | [] => []
  | c :: r => if c = 32 then r else c :: r
theorem sgnL_cons (c : Int) (r : List Int) : sgnL (c :: r) = if c = 43 ∨ c = 45 then ([c], r) else ([], c :: r) := rfl
theorem trimL_cons (c : Int) (r : List Int) : trimL (c :: r) = if c = 32 then r else c :: r := rfl
def dirL (sg : List Int) : Int := if sg = [45] then -1 else 1
theorem sgn_list (s : ByteArray) : bytesL (sgnZ s).1 = (sgnL (bytesL s)).1 ∧ bytesL (sgnZ s).2 = (sgnL (bytesL s)).2 := by
  cases h : bytesL s with
  | nil =>
    have e := empty_of (size_0.2 h)
    subst e
    exact ⟨rfl, rfl⟩
  | cons c r =>
    obtain ⟨h0, hc⟩ := head_is h
    have ht := bytesL_tail s 1
    rw [h] at ht
    unfold sgnZ
    rw [dif_pos h0, sgnL_cons]
    by_cases h1 : (s[0]'h0).toNat = 43
    · rw [if_pos h1, if_pos (by omega)]
      exact ⟨by have : c = 43 := by omega
                subst this; rfl, ht⟩
    · rw [if_neg h1]
      by_cases h2 : (s[0]'h0).toNat = 45
      · rw [if_pos h2, if_pos (by omega)]
        exact ⟨by have : c = 45 := by omega
                  subst this; rfl, ht⟩
      · rw [if_neg h2, if_neg (by omega)]
        exact ⟨rfl, h⟩
theorem trim_list (s : ByteArray) : bytesL (trimZ s) = trimL (bytesL s) := by
  cases h : bytesL s with
  | nil =>
    have e := empty_of (size_0.2 h)
    subst e
    rfl
  | cons c r =>
    obtain ⟨h0, hc⟩ := head_is h
    have ht := bytesL_tail s 1
    rw [h] at ht
    unfold trimZ
    rw [dif_pos h0, trimL_cons]
    by_cases h1 : (s[0]'h0).toNat = 32
    · rw [if_pos h1, if_pos (by omega)]
      exact ht
    · rw [if_neg h1, if_neg (by omega)]
      exact h
theorem dir_list (sg : ByteArray) : dirB sg = dirL (bytesL sg) := by
  unfold dirB dirL
  by_cases h : sg = ⟨#[45]⟩
  · rw [if_pos h, if_pos (by rw [h]; rfl)]
  · rw [if_neg h, if_neg (show ¬ bytesL sg = [45] from fun e => h (bytesL_ext (b := ⟨#[45]⟩) e))]

/-- The document's whole number of a list. -/
def wholeL (l : List Int) : Int × Bool := if (sgnL l).2 ≠ [] ∧ digB (sgnL l).2 = true then (dirL (sgnL l).1 * satL (sgnL l).2, true) else (0, false)
/-- What stands behind n, by the document. -/
def behindR (l : List Int) : Int × Bool :=
  if l = [] then (0, true)
  else if trimL l = [] ∨ ¬ ((trimL l).headD 0 = 43 ∨ (trimL l).headD 0 = 45) then (0, false)
  else if trimL ((trimL l).drop 1) = [] ∨ ¬ (48 ≤ (trimL ((trimL l).drop 1)).headD 0 ∧ (trimL ((trimL l).drop 1)).headD 0 ≤ 57) then (0, false)
  else wholeL ((trimL l).take 1 ++ trimL ((trimL l).drop 1))
theorem digN_all {l : List Int} (h : digB l = true) : digN l = l.length := digN_at l l.length (by rw [List.take_length]; exact (digB_iff l).1 h) (Nat.le_refl _) (.inl rfl)
theorem all_digN {l : List Int} (h : digN l = l.length) : digB l = true := by
  have := dig_take l
  rw [h, List.take_length] at this
  exact (digB_iff l).2 this
theorem behind_list (s : ByteArray) : behindZ s = behindR (bytesL s) := by
  have hs := sgn_list (trimZ s)
  have ht := trim_list s
  have ht2 := trim_list (sgnZ (trimZ s)).2
  have hz : (trimZ (sgnZ (trimZ s)).2).size = (bytesL (trimZ (sgnZ (trimZ s)).2)).length := (bytesL_size _).symm
  have he : (sgnZ (trimZ s)).1 = ⟨#[]⟩ ↔ (sgnL (trimL (bytesL s))).1 = [] := by
    rw [← ht, ← hs.1]
    exact ⟨fun h => by rw [h]; rfl, fun h => empty_of (size_0.2 h)⟩
  unfold behindZ behindR
  rw [dir_list, hs.1, hz, ht2, hs.2, ht]
  by_cases h0 : bytesL s = []
  · rw [if_pos (size_0.2 h0), if_pos h0]
  rw [if_neg (fun h => h0 (size_0.1 h)), if_neg h0]
  generalize trimL (bytesL s) = t at *
  cases t with
  | nil =>
    rw [if_pos (.inl (he.2 rfl)), if_pos (.inl rfl)]
  | cons c r =>
    by_cases hc : c = 43 ∨ c = 45
    · have e1 : sgnL (c :: r) = ([c], r) := by rw [sgnL_cons, if_pos hc]
      have e3 : (c :: r).drop 1 = r := rfl
      have e4 : (c :: r).take 1 = [c] := rfl
      have e5 : (c :: r).headD 0 = c := rfl
      rw [e1] at he ⊢
      rw [e3, e4, e5]
      simp only
      have hne : ¬ (sgnZ (trimZ s)).1 = ⟨#[]⟩ := fun h => by simpa using he.1 h
      rw [if_neg (show ¬ ((c :: r) = [] ∨ ¬ (c = 43 ∨ c = 45)) by simp [hc])]
      generalize trimL r = u at *
      have hle := digN_le u
      have e6 : sgnL ([c] ++ u) = ([c], u) := by
        show sgnL (c :: u) = _
        rw [sgnL_cons]
        rw [if_pos hc]
      cases u with
      | nil => rw [if_pos (.inr (.inl rfl)), if_pos (.inl rfl)]
      | cons d v =>
        have e7 : (d :: v).headD 0 = d := rfl
        rw [e7]
        by_cases hd : 48 ≤ d ∧ d ≤ 57
        · rw [if_neg (show ¬ ((d :: v) = [] ∨ ¬ (48 ≤ d ∧ d ≤ 57)) by simp [hd])]
          have hp : digN (d :: v) ≠ 0 := by
            rw [digN, if_pos (digit_yes hd)]
            omega
          unfold wholeL
          rw [e6]
          simp only
          by_cases hall : digN (d :: v) = (d :: v).length
          · rw [if_neg (by rintro (h | h | h) <;> first | exact hne h | exact hp h | omega), if_pos ⟨by simp, all_digN hall⟩, hall, List.take_length]
          · rw [if_pos (.inr (.inr (by omega))), if_neg (fun h => hall (digN_all h.2))]
        · rw [if_pos (show ((d :: v) = [] ∨ ¬ (48 ≤ d ∧ d ≤ 57)) from .inr hd)]
          rw [if_pos]
          refine .inr (.inl ?_)
          rw [digN, if_neg]
          unfold digitZ
          simp
          omega
    · have e1 : sgnL (c :: r) = ([], c :: r) := by rw [sgnL_cons, if_neg hc]
      rw [e1] at he
      rw [if_pos (.inl (he.2 rfl)), if_pos (.inr hc)]


/-- nth.cut over a list. -/
def cutL (l : List Int) : Int × Int × Bool :=
  if (sgnL l).2.drop (digN (sgnL l).2) = [] then (0, dirL (sgnL l).1 * satL ((sgnL l).2.take (digN (sgnL l).2)), decide (0 < digN (sgnL l).2))
  else if ((sgnL l).2.drop (digN (sgnL l).2)).headD 0 ≠ 110 then (0, 0, false)
  else if (behindR (((sgnL l).2.drop (digN (sgnL l).2)).drop 1)).2 = false then (0, 0, false)
  else (dirL (sgnL l).1 * (if decide (0 < digN (sgnL l).2) then satL ((sgnL l).2.take (digN (sgnL l).2)) else 1), (behindR (((sgnL l).2.drop (digN (sgnL l).2)).drop 1)).1, true)
theorem cut_list (s : ByteArray) : cutT s = cutL (bytesL s) := by
  have hs := sgn_list s
  unfold cutL
  rw [← hs.1, ← hs.2, ← dir_list]
  unfold cutT cutN
  generalize (sgnZ s).2 = t at *
  have hr : bytesL (t.extract (digN (bytesL t)) t.size) = (bytesL t).drop (digN (bytesL t)) := bytesL_tail t _
  rw [← hr]
  generalize t.extract (digN (bytesL t)) t.size = rest at *
  by_cases h0 : bytesL rest = []
  · rw [if_pos (size_0.2 h0), if_pos h0]
  · rw [if_neg (fun h => h0 (size_0.1 h)), if_neg h0]
    cases hx : bytesL rest with
    | nil => exact absurd hx h0
    | cons c r =>
      obtain ⟨g0, hc⟩ := head_is hx
      have ht := bytesL_tail rest 1
      rw [hx] at ht
      have e1 : (c :: r).headD 0 = c := rfl
      rw [e1]
      have hn : nB rest = false ↔ c ≠ 110 := by
        unfold nB
        rw [dif_pos g0]
        rw [Bool.eq_false_iff]
        simp
        omega
      by_cases h1 : c ≠ 110
      · rw [if_pos (hn.2 h1), if_pos h1]
      · rw [if_neg (fun h => h1 (hn.1 h)), if_neg h1, behind_list, ht]


/-! ### what Print writes -/

theorem bytesL_nums {l : List Int} (h : ∀ n ∈ l, 0 ≤ n ∧ n < 256) : bytesL (strOfNums l) = l := by
  show ((l.map fun n => UInt8.ofNat n.toNat).toArray.toList.map fun x => (x.toNat : Int)) = l
  simp only [List.map_map]
  have : ∀ x ∈ l, ((fun x : UInt8 => (x.toNat : Int)) ∘ fun n : Int => UInt8.ofNat n.toNat) x = x := fun x hx => byte_back (h x hx)
  rw [List.map_congr_left this]
  simp
theorem decF_dig : ∀ (f u : Nat) (acc : List Int), Dig acc → Dig (decF f u acc)
  | 0, _, acc, h => h
  | f + 1, u, acc, h => by
    have hc : Dig (((48 + u % 10 : Nat) : Int) :: acc) := by
      intro c hc
      rcases List.mem_cons.1 hc with rfl | hc
      · omega
      · exact h c hc
    rw [decF]
    split
    · exact hc
    · exact decF_dig f (u / 10) _ hc
theorem decF_ne : ∀ (f u : Nat) (acc : List Int), 0 < f ∨ acc ≠ [] → decF f u acc ≠ []
  | 0, _, acc, h => by
    rcases h with h | h
    · omega
    · exact h
  | f + 1, u, acc, _ => by
    rw [decF]
    split
    · simp
    · exact decF_ne f _ _ (.inr (by simp))
theorem dec_dig (N : Nat) : Dig (decU N) := decF_dig _ _ _ (fun c hc => by cases hc)
theorem dec_ne (N : Nat) : decU N ≠ [] := decF_ne _ _ _ (.inl (by omega))
theorem decF_sat : ∀ (f u : Nat) (acc : List Int), u < p10 f → 0 < f → (decF f u acc).foldl satZ 0 = acc.foldl satZ (if 1000000 < (u : Int) then 1000000 else (u : Int))
  | 0, _, _, _, h => absurd h (by omega)
  | f + 1, u, acc, hu, _ => by
    rw [decF]
    split
    · rename_i hq
      rw [List.foldl_cons]
      congr 1
      unfold satZ
      rw [if_neg (by omega), if_neg (by omega)]
      omega
    · rename_i hq
      have h3 : u / 10 < p10 f := by
        unfold p10 at hu ⊢
        rw [Nat.pow_succ] at hu
        omega
      have h4 : 0 < f := by
        cases f with
        | zero => unfold p10 at h3; simp at h3; omega
        | succ k => omega
      rw [decF_sat f (u / 10) _ h3 h4, List.foldl_cons]
      congr 1
      unfold satZ
      repeat' split
      all_goals omega
theorem dec_sat (N : Nat) (h : N ≤ 1000000) : satL (decU N) = (N : Int) := by
  have := decF_sat 20 N [] (p10_20 N (by omega)) (by omega)
  unfold satL decU
  rw [this, if_neg (by omega)]
  rfl
theorem signD_cases (n : Int) (h0 : -1000000 ≤ n) (h1 : n ≤ 1000000) : ∃ ds, Dig ds ∧ ds ≠ [] ∧ ((n < 0 ∧ signD n = 45 :: ds ∧ satL ds = -n) ∨ (0 ≤ n ∧ signD n = ds ∧ satL ds = n)) := by
  by_cases hn : n < 0
  · refine ⟨decU (-n).toNat, dec_dig _, dec_ne _, .inl ⟨hn, by unfold signD; rw [if_pos hn], ?_⟩⟩
    rw [dec_sat _ (by omega)]
    omega
  · refine ⟨decU n.toNat, dec_dig _, dec_ne _, .inr ⟨by omega, by unfold signD; rw [if_neg hn], ?_⟩⟩
    rw [dec_sat _ (by omega)]
    omega
theorem digN_app {ds R : List Int} (hd : Dig ds) (hR : R = [] ∨ digitZ (R.headD 0) = false) : digN (ds ++ R) = ds.length := by
  refine digN_at (ds ++ R) ds.length (by rw [List.take_left]; exact hd) (by simp) ?_
  rcases hR with rfl | h
  · left; simp
  · cases R with
    | nil => left; simp
    | cons c r =>
      right
      have : (ds ++ c :: r).getD ds.length 0 = c := by simp [List.getD]
      rw [this]
      exact h
theorem sgnL_dig {ds : List Int} (hd : Dig ds) (R : List Int) (h : ds ≠ [] ∨ R.headD 0 = 110) : sgnL (ds ++ R) = ([], ds ++ R) := by
  cases ds with
  | nil =>
    cases R with
    | nil => rfl
    | cons c r =>
      have hc : c = 110 := h.resolve_left (by simp)
      show sgnL (c :: r) = _
      rw [sgnL_cons, if_neg (by omega)]
      rfl
  | cons c r =>
    have := hd c (by simp)
    show sgnL (c :: (r ++ R)) = _
    rw [sgnL_cons, if_neg (by omega)]
    rfl
/-- Sign, digits, n, and what is behind. -/
theorem cut_of {sg ds R : List Int} (hs : sg = [] ∨ sg = [45]) (hd : Dig ds) (x : Int) (hb : behindR R = (x, true)) : cutL (sg ++ (ds ++ 110 :: R)) = (dirL sg * (if ds = [] then 1 else satL ds), x, true) := by
  have e1 : sgnL (sg ++ (ds ++ 110 :: R)) = (sg, ds ++ 110 :: R) := by
    rcases hs with rfl | rfl
    · exact sgnL_dig hd _ (.inr rfl)
    · rfl
  have e2 : digN (ds ++ 110 :: R) = ds.length := digN_app hd (.inr (show digitZ 110 = false by decide))
  unfold cutL
  rw [e1]
  simp only
  rw [e2, List.drop_left, List.take_left]
  rw [if_neg (by simp), if_neg (by simp)]
  have e3 : List.drop 1 (110 :: R) = R := rfl
  rw [e3, hb]
  simp only
  rw [if_neg (show ¬ (true = false) by decide)]
  by_cases h0 : ds = []
  · rw [if_pos h0, if_neg (by simp [h0])]
  · have : 0 < ds.length := List.length_pos_iff.2 h0
    rw [if_neg h0, if_pos (by simp [this])]
theorem cut_num {sg ds : List Int} (hs : sg = [] ∨ sg = [45]) (hd : Dig ds) (hne : ds ≠ []) : cutL (sg ++ ds) = (0, dirL sg * satL ds, true) := by
  have e1 : sgnL (sg ++ ds) = (sg, ds) := by
    rcases hs with rfl | rfl
    · have := sgnL_dig hd [] (.inl hne)
      rwa [List.append_nil] at this
    · rfl
  have e2 : digN ds = ds.length := by
    have := digN_app hd (R := []) (.inl rfl)
    rwa [List.append_nil] at this
  have hp : 0 < ds.length := List.length_pos_iff.2 hne
  unfold cutL
  rw [e1]
  simp only
  rw [e2, List.drop_length, if_pos rfl, List.take_length]
  simp [hp]
theorem behind_sg {c : Int} {ds : List Int} (hc : c = 43 ∨ c = 45) (hd : Dig ds) (hne : ds ≠ []) : behindR (c :: ds) = (dirL [c] * satL ds, true) := by
  have t1 : trimL (c :: ds) = c :: ds := by rw [trimL_cons, if_neg (by omega)]
  have t2 : trimL ds = ds := by
    cases ds with
    | nil => rfl
    | cons d r =>
      have := hd d (by simp)
      rw [trimL_cons, if_neg (by omega)]
  have t3 : List.drop 1 (c :: ds) = ds := rfl
  have t4 : List.take 1 (c :: ds) = [c] := rfl
  have t5 : (c :: ds).headD 0 = c := rfl
  have t6 : 48 ≤ ds.headD 0 ∧ ds.headD 0 ≤ 57 := by
    cases ds with
    | nil => exact absurd rfl hne
    | cons d r => exact hd d (by simp)
  unfold behindR
  rw [if_neg (by simp), t1, t3, t4, t5, t2, if_neg (by rintro (h | h); cases h; exact h hc), if_neg (by rintro (h | h); exact hne h; exact h t6)]
  unfold wholeL
  have t7 : sgnL ([c] ++ ds) = ([c], ds) := by
    show sgnL (c :: ds) = _
    rw [sgnL_cons, if_pos hc]
  rw [t7]
  simp only
  rw [if_pos ⟨hne, (digB_iff ds).2 hd⟩]

end Go.Proofs.YtpflliophellgaaGreatDoor.N
