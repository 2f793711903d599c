/- The characters of two texts with a line feed between, the first without a carriage return: those of the one, the line feed, those of the other. -/
import Derived.Test.YtbfgnfcecfjlnaaDoorApart
import Derived.Test.YtbfgnfcecfjlnaaDoorJoin
namespace Go.Proofs.YtbfgnfcecfjlnaaDoor
open Go.RowKit

set_option maxRecDepth 100000 in
set_option maxHeartbeats 4000000 in
theorem decodeN_cut (n N b0 b1 b2 b3 c1 c2 c3 : Nat) (hn : 1 ≤ n) (hN : n < N) (h1 : 1 < n → c1 = b1) (h1' : n = 1 → c1 = 10) (h2 : 2 < n → c2 = b2) (h2' : n = 2 → c2 = 10) (h3 : 3 < n → c3 = b3) (h3' : n = 3 → c3 = 10) :
    Lib.decodeN N b0 c1 c2 c3 = Lib.decodeN n b0 b1 b2 b3 := by
  rcases (show n = 1 ∨ n = 2 ∨ n = 3 ∨ 3 < n by omega) with rfl | rfl | rfl | h
  · obtain rfl := h1' rfl
    simp [Lib.decodeN]
  · obtain rfl := h1 (by omega)
    obtain rfl := h2' rfl
    have a1 : 1 < N := by omega
    simp [Lib.decodeN, a1]
  · obtain rfl := h1 (by omega)
    obtain rfl := h2 (by omega)
    obtain rfl := h3' rfl
    have a1 : 1 < N := by omega
    have a2 : 2 < N := by omega
    simp [Lib.decodeN, a1, a2]
  · obtain rfl := h1 (by omega)
    obtain rfl := h2 (by omega)
    obtain rfl := h3 (by omega)
    have a1 : 1 < N := by omega
    have a2 : 2 < N := by omega
    have a3 : 3 < N := by omega
    have d1 : 1 < n := by omega
    have d2 : 2 < n := by omega
    simp [Lib.decodeN, a1, a2, a3, d1, d2, h]
set_option maxRecDepth 100000 in
theorem decodeN_width (n b0 b1 b2 b3 : Nat) (hn : 1 ≤ n) : (Lib.decodeN n b0 b1 b2 b3).2 ≤ n := by
  unfold Lib.decodeN
  repeat' split
  all_goals (simp only; omega)

def bytesL (a : ByteArray) : List Int := a.data.toList.map fun x => (x.toNat : Int)
theorem bytesL_size (a : ByteArray) : (bytesL a).length = a.size := by
  unfold bytesL
  rw [List.length_map]
  rfl
theorem bytesL_byte (a : ByteArray) : ∀ n ∈ bytesL a, 0 ≤ n ∧ n < 256 := by
  intro n hn
  obtain ⟨x, _, rfl⟩ := List.mem_map.1 hn
  have := x.toNat_lt
  omega
theorem bytesL_str (a : ByteArray) : strOfNums (bytesL a) = a := strOf a

/-- The characters from a place on. -/
def from_ (s : ByteArray) (pos : Nat) : List Int := charsFrom s (s.size - pos) pos
theorem from_step (s : ByteArray) (pos : Nat) (h : pos < s.size) : from_ s pos = ((Utf8.decode s pos).1 : Int) :: from_ s (pos + (Utf8.decode s pos).2) := by
  have hw := Lib.decode_width_pos s pos h
  unfold from_
  obtain ⟨k, hk⟩ : ∃ k, s.size - pos = k + 1 := ⟨s.size - pos - 1, by omega⟩
  rw [hk, charsFrom, if_pos h]
  congr 1
  by_cases h2 : pos + (Utf8.decode s pos).2 < s.size
  · have := charsFrom_more s (s.size - (pos + (Utf8.decode s pos).2)) (k - (s.size - (pos + (Utf8.decode s pos).2))) (pos + (Utf8.decode s pos).2) (by omega)
    rw [← this]
    congr 1
    omega
  · rw [charsFrom_end _ _ _ h2, charsFrom_end _ _ _ h2]

theorem decode_ahead (l m : List Int) (hl : ∀ n ∈ l, 0 ≤ n ∧ n < 256) (hm : ∀ n ∈ m, 0 ≤ n ∧ n < 256) (pos : Nat) (hp : pos < l.length) :
    Utf8.decode (strOfNums (l ++ 10 :: m)) pos = Utf8.decode (strOfNums l) pos := by
  have hall : ∀ n ∈ l ++ 10 :: m, 0 ≤ n ∧ n < 256 := by
    intro n hn
    rcases List.mem_append.1 hn with h | h
    · exact hl n h
    · rcases List.mem_cons.1 h with rfl | h
      · omega
      · exact hm n h
  have hlt : ∀ j, j < l.length → ((strOfNums (l ++ 10 :: m)).get! j).toNat = ((strOfNums l).get! j).toNat := by
    intro j hj
    rw [str_get hall, str_get hl, List.getD_eq_getElem?_getD, List.getElem?_append_left hj, List.getD_eq_getElem?_getD]
  have heq : ∀ j, j = l.length → ((strOfNums (l ++ 10 :: m)).get! j).toNat = 10 := by
    intro j hj
    subst hj
    rw [str_get hall, List.getD_eq_getElem?_getD, List.getElem?_append_right (Nat.le_refl _), Nat.sub_self]
    rfl
  rw [Lib.decode_at, Lib.decode_at, strOf_size, strOf_size, List.length_append, hlt pos hp]
  refine decodeN_cut _ _ _ _ _ _ _ _ _ (by omega) (by simp only [List.length_cons]; omega) ?_ ?_ ?_ ?_ ?_ ?_
  · intro h; exact hlt _ (by omega)
  · intro h; exact heq _ (by omega)
  · intro h; exact hlt _ (by omega)
  · intro h; exact heq _ (by omega)
  · intro h; exact hlt _ (by omega)
  · intro h; exact heq _ (by omega)
theorem from_ahead (l m : List Int) (hl : ∀ n ∈ l, 0 ≤ n ∧ n < 256) (hm : ∀ n ∈ m, 0 ≤ n ∧ n < 256) : ∀ (k pos : Nat), l.length - pos ≤ k → pos ≤ l.length →
    from_ (strOfNums (l ++ 10 :: m)) pos = from_ (strOfNums l) pos ++ from_ (strOfNums (l ++ 10 :: m)) l.length
  | 0, pos, h, hp => by
    have : pos = l.length := by omega
    subst this
    have e : from_ (strOfNums l) l.length = [] := charsFrom_end _ _ _ (by rw [strOf_size]; omega)
    rw [e]
    rfl
  | k + 1, pos, h, hp => by
    by_cases hlt : pos < l.length
    · have hj : (strOfNums (l ++ 10 :: m)).size = l.length + (m.length + 1) := by rw [strOf_size, List.length_append, List.length_cons]
      have hs : (strOfNums l).size = l.length := strOf_size l
      rw [from_step (strOfNums (l ++ 10 :: m)) pos (by omega), from_step (strOfNums l) pos (by omega), decode_ahead l m hl hm pos hlt]
      have hw := Lib.decode_width_pos (strOfNums l) pos (by omega)
      have hw2 : (Utf8.decode (strOfNums l) pos).2 ≤ l.length - pos := by
        rw [Lib.decode_at, hs]
        exact decodeN_width _ _ _ _ _ (by omega)
      rw [from_ahead l m hl hm k (pos + (Utf8.decode (strOfNums l) pos).2) (by omega) (by omega), List.cons_append]
    · have : pos = l.length := by omega
      subst this
      have e : from_ (strOfNums l) l.length = [] := charsFrom_end _ _ _ (by rw [strOf_size]; omega)
      rw [e]
      rfl
theorem from_line (l m : List Int) (hl : ∀ n ∈ l, 0 ≤ n ∧ n < 256) (hm : ∀ n ∈ m, 0 ≤ n ∧ n < 256) : from_ (strOfNums (l ++ 10 :: m)) l.length = 10 :: from_ (strOfNums m) 0 := by
  have hall : ∀ n ∈ l ++ 10 :: m, 0 ≤ n ∧ n < 256 := by
    intro n hn
    rcases List.mem_append.1 hn with h | h
    · exact hl n h
    · rcases List.mem_cons.1 h with rfl | h
      · omega
      · exact hm n h
  have hj : (strOfNums (l ++ 10 :: m)).size = l.length + (m.length + 1) := by rw [strOf_size, List.length_append, List.length_cons]
  have h10 : ((strOfNums (l ++ 10 :: m)).get! l.length).toNat = 10 := by
    rw [str_get hall, List.getD_eq_getElem?_getD, List.getElem?_append_right (Nat.le_refl _), Nat.sub_self]
    rfl
  have hd : Utf8.decode (strOfNums (l ++ 10 :: m)) l.length = (10, 1) := by
    rw [Lib.decode_at, h10]
    simp [Lib.decodeN]
  rw [from_step _ _ (by omega), hd]
  congr 1
  have e : l ++ 10 :: m = (l ++ [10]) ++ m := by simp
  have hl2 : ∀ n ∈ l ++ [10], 0 ≤ n ∧ n < 256 := fun n hn => hall n (by rw [e]; exact List.mem_append_left _ hn)
  have h := charsFrom_shift (l ++ [10]) m hl2 hm m.length 0
  rw [← e, List.length_append, List.length_singleton, Nat.add_zero] at h
  unfold from_
  rw [hj, strOf_size, show l.length + (m.length + 1) - (l.length + 1) = m.length by omega, Nat.sub_zero]
  exact h
theorem norm_line : ∀ (xs ys : List Int) (last : Int), last ≠ 13 → (∀ c ∈ xs, c ≠ 13) → normZ last (xs ++ 10 :: ys) = normZ last xs ++ 10 :: normZ 0 ys
  | [], ys, last, hl, _ => by
    show normZ last (10 :: ys) = 10 :: _
    rw [normZ, if_neg (by intro e; exact hl e.1), norm_zero ys 10 (by omega)]
    rfl
  | x :: r, ys, last, hl, h => by
    have hx := h x (by simp)
    rw [List.cons_append, normZ, normZ, if_neg (by intro e; exact hl e.1), if_neg (by intro e; exact hl e.1), norm_line r ys x hx (fun c hc => h c (by simp [hc]))]
    rfl
theorem line_str (a b : ByteArray) : a ++ ⟨#[10]⟩ ++ b = strOfNums (bytesL a ++ 10 :: bytesL b) := by
  have ha := str_append (bytesL a) ⟨#[10]⟩
  rw [bytesL_str] at ha
  rw [ha, str_append]
  congr 1
  show bytesL a ++ [10] ++ bytesL b = _
  simp
theorem runes_line (a b : ByteArray) (h : ∀ j (h : j < a.size), (a[j]'h).toNat ≠ 13) : runesZ (a ++ ⟨#[10]⟩ ++ b) = runesZ a ++ 10 :: runesZ b := by
  have h1 := from_ahead (bytesL a) (bytesL b) (bytesL_byte a) (bytesL_byte b) _ 0 (Nat.le_refl _) (Nat.zero_le _)
  rw [from_line (bytesL a) (bytesL b) (bytesL_byte a) (bytesL_byte b), bytesL_str, bytesL_str, ← line_str] at h1
  have e1 : chars (a ++ ⟨#[10]⟩ ++ b) = chars a ++ 10 :: chars b := h1
  unfold runesZ
  rw [e1]
  exact norm_line _ _ 0 (by omega) (char_byte a 13 (by omega) _ _ h)
theorem bare_runes (a : ByteArray) (h : ∀ j (h : j < a.size), (a[j]'h).toNat ≠ 34 ∧ (a[j]'h).toNat ≠ 39 ∧ (a[j]'h).toNat ≠ 40 ∧ (a[j]'h).toNat ≠ 47 ∧ (a[j]'h).toNat ≠ 92) : Bare (runesZ a) := by
  intro c hc
  refine ⟨?_, ?_, ?_, ?_, ?_⟩
  · exact runes_byte a 34 (by omega) (by omega) (fun j hj => (h j hj).1) c hc
  · exact runes_byte a 39 (by omega) (by omega) (fun j hj => (h j hj).2.1) c hc
  · exact runes_byte a 40 (by omega) (by omega) (fun j hj => (h j hj).2.2.1) c hc
  · exact runes_byte a 47 (by omega) (by omega) (fun j hj => (h j hj).2.2.2.1) c hc
  · exact runes_byte a 92 (by omega) (by omega) (fun j hj => (h j hj).2.2.2.2) c hc
/-- No sign of a text that TokenJoins passes by. -/
def Quiet6 (a : ByteArray) (k : Nat) : Prop := ∀ j (h : j < a.size), j < k → (a[j]'h).toNat ≠ 34 ∧ (a[j]'h).toNat ≠ 39 ∧ (a[j]'h).toNat ≠ 40 ∧ (a[j]'h).toNat ≠ 47 ∧ (a[j]'h).toNat ≠ 92 ∧ (a[j]'h).toNat ≠ 13
theorem cut_joined (a b : ByteArray) (h : Quiet6 a a.size) (h1 : ∀ t, (cutZ a).getLast? = some t → t.kind ≠ 13) (h2 : ∀ t, (cutZ b).head? = some t → t.kind ≠ 13) :
    cutZ (a ++ ⟨#[10]⟩ ++ b) = cutZ a ++ plainTok 13 [] :: cutZ b := by
  unfold cutZ
  rw [runes_line a b (fun j hj => (h j hj hj).2.2.2.2.2)]
  exact joined (bare_runes a (fun j hj => ⟨(h j hj hj).1, (h j hj hj).2.1, (h j hj hj).2.2.1, (h j hj hj).2.2.2.1, (h j hj hj).2.2.2.2.1⟩)) h1 h2
end Go.Proofs.YtbfgnfcecfjlnaaDoor
