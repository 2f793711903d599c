/- What a declaration that is written is read as; how long and how many the values of tokens are. -/
import Derived.Test.YtihdiaklhkecmabAppE
namespace Go.Proofs.Ytihdiaklhkecmab
open Go.RowKit

/-- Without space at the ends. -/
def trimZ (vs : List V) : List V := aheadZ (vs.dropWhile spaceV)
theorem drop_id {vs : List V} (h : ∀ x r, vs = x :: r → spaceV x = false) : vs.dropWhile spaceV = vs := by
  cases vs with
  | nil => rfl
  | cons x r => rw [List.dropWhile_cons, h x r rfl]; rfl
theorem ahead_id {vs : List V} (h : ∀ x r, vs = r ++ [x] → spaceV x = false) : aheadZ vs = vs := by
  rcases List.eq_nil_or_concat vs with rfl | ⟨r, x, rfl⟩
  · rfl
  · rw [List.concat_eq_append] at h ⊢
    rw [aheadZ_snoc, h x r rfl]; rfl
theorem drop_head (vs : List V) : ∀ x r, vs.dropWhile spaceV = x :: r → spaceV x = false := by
  induction vs with
  | nil => intro x r h; simp at h
  | cons y t ih =>
    intro x r h
    rw [List.dropWhile_cons] at h
    split at h
    · exact ih x r h
    · rename_i hy
      cases h
      simpa using hy
theorem ahead_last (vs : List V) : ∀ x r, aheadZ vs = r ++ [x] → spaceV x = false := by
  intro x r h
  unfold aheadZ at h
  have h2 := congrArg List.reverse h
  rw [List.reverse_reverse, List.reverse_append, List.reverse_singleton, List.singleton_append] at h2
  exact drop_head _ x r.reverse h2
theorem ahead_pre (vs : List V) : ∃ t, vs = aheadZ vs ++ t := by
  refine ⟨(vs.reverse.takeWhile spaceV).reverse, ?_⟩
  unfold aheadZ
  rw [← List.reverse_append, List.takeWhile_append_dropWhile, List.reverse_reverse]
theorem trim_last (vs : List V) : ∀ x r, trimZ vs = r ++ [x] → spaceV x = false := ahead_last _
theorem trim_head (vs : List V) : ∀ x r, trimZ vs = x :: r → spaceV x = false := by
  intro x r h
  obtain ⟨t, ht⟩ := ahead_pre (vs.dropWhile spaceV)
  unfold trimZ at h
  rw [h, List.cons_append] at ht
  exact drop_head vs x _ ht
theorem trim_id (vs : List V) : trimZ (trimZ vs) = trimZ vs := by
  show aheadZ ((trimZ vs).dropWhile spaceV) = trimZ vs
  rw [drop_id (trim_head vs), ahead_id (trim_last vs)]
theorem trim_sub (vs : List V) : ∀ y ∈ trimZ vs, y ∈ vs := by
  intro y hy
  unfold trimZ aheadZ at hy
  exact (List.dropWhile_sublist spaceV).subset (List.mem_reverse.1 ((List.dropWhile_sublist spaceV).subset (List.mem_reverse.1 hy)))
theorem trim_len (vs : List V) : (trimZ vs).length ≤ vs.length := Nat.le_trans (aheadZ_le _) (List.dropWhile_sublist spaceV).length_le
theorem trim_most {vs : List V} (h : V.most vs) : V.most (trimZ vs) := .mk _ (Nat.le_trans (trim_len vs) h.len) (fun y hy => h.kid (trim_sub vs y hy))

def plainT (k : Int) (tx : ByteArray) : V := V.mk ⟨k, tx, ⟨#[]⟩, false, false⟩ []
def bangV : V := plainT 9 ⟨#[33]⟩
def impV : V := plainT 1 ⟨#[73, 77, 80, 79, 82, 84, 65, 78, 84]⟩
theorem nextZ_none {ks : List Int} {vs : List V} (h : ∀ x ∈ vs, hasZ ks x.tok.k = false) : nextZ ks vs = vs.length := by
  induction vs with
  | nil => rfl
  | cons x r ih =>
    rw [nextZ, h x (List.mem_cons_self ..), ih (fun y hy => h y (List.mem_cons_of_mem _ hy))]
    rfl
theorem isImp_V : isImp impV = true := by
  unfold isImp
  rw [ByteArray.toList_eq]
  show (hasZ [1] 1 && (Array.map foldB #[73, 77, 80, 79, 82, 84, 65, 78, 84]).toList == _) = true
  rw [Array.toList_map]
  decide
theorem isBang_V : isBang bangV = true := by
  unfold isBang
  rw [ByteArray.toList_eq]
  decide
theorem imp_no {vs : List V} (h : ∀ x ∈ vs, isBang x = false) : impZ vs = (vs, false) := by
  rcases List.eq_nil_or_concat vs with rfl | ⟨r, x, rfl⟩
  · rfl
  · rw [List.concat_eq_append] at h ⊢
    cases hx : isImp x with
    | false => exact impZ_no r x hx
    | true =>
      rcases List.eq_nil_or_concat (aheadZ r) with h2 | ⟨r2, y, h2⟩
      · exact impZ_none r x hx h2
      · rw [List.concat_eq_append] at h2
        refine impZ_notb r r2 x y hx h2 (h y ?_)
        obtain ⟨t, ht⟩ := ahead_pre r
        rw [ht, h2]
        simp
theorem imp_yes {vs : List V} (hl : ∀ x r, vs = r ++ [x] → spaceV x = false) : impZ (vs ++ [bangV, impV]) = (vs, true) := by
  have h := impZ_yes (vs ++ [bangV]) vs impV bangV isImp_V (by rw [aheadZ_snoc, if_neg (by decide)]) isBang_V
  rw [ahead_id hl, List.append_assoc] at h
  exact h
/-- A declaration that is written. -/
def written (nm : ByteArray) (tv : List V) (im : Bool) : List V := plainT 1 nm :: plainT 16 ⟨#[]⟩ :: (tv ++ if im then [bangV, impV] else [])
theorem written_read (nm : ByteArray) (vs : List V) (im : Bool) (h17 : ∀ x ∈ trimZ vs, hasZ [17] x.tok.k = false) (hb : ∀ x ∈ trimZ vs, isBang x = false) : declsZ (written nm (trimZ vs) im).length (written nm (trimZ vs) im) = [(foldS nm, trimZ vs, im)] := by
  have hall : ∀ x ∈ plainT 16 ⟨#[]⟩ :: (trimZ vs ++ if im then [bangV, impV] else []), hasZ [17] x.tok.k = false := by
    intro x hx
    rcases List.mem_cons.1 hx with rfl | hx
    · decide
    · rcases List.mem_append.1 hx with hx | hx
      · exact h17 x hx
      · cases im
        · simp at hx
        · simp at hx
          rcases hx with rfl | rfl <;> decide
  have hn := nextZ_none hall
  have htr : trimZ (trimZ vs ++ if im then [bangV, impV] else []) = trimZ vs ++ if im then [bangV, impV] else [] := by
    cases im
    · simpa using trim_id vs
    · show aheadZ (List.dropWhile spaceV (trimZ vs ++ [bangV, impV])) = trimZ vs ++ [bangV, impV]
      rw [drop_id, ahead_id]
      · intro x r h
        have e : trimZ vs ++ [bangV, impV] = (trimZ vs ++ [bangV]) ++ [impV] := by simp
        rw [e] at h
        obtain ⟨_, h2⟩ := List.append_inj' h rfl
        cases h2
        decide
      · intro x r h
        cases ht : trimZ vs with
        | nil =>
          rw [ht] at h
          cases h
          decide
        | cons y t =>
          rw [ht] at h
          cases h
          exact trim_head vs _ _ ht
  have himp : impZ (trimZ vs ++ if im then [bangV, impV] else []) = (trimZ vs, im) := by
    cases im
    · rw [show (trimZ vs ++ if false = true then [bangV, impV] else []) = trimZ vs by simp]
      exact imp_no hb
    · exact imp_yes (trim_last vs)
  have hd : declZ (plainT 1 nm) (plainT 16 ⟨#[]⟩ :: (trimZ vs ++ if im then [bangV, impV] else [])) = some (foldS nm, trimZ vs, im) := by
    unfold declZ
    rw [if_pos (show hasZ [1] (plainT 1 nm).tok.k = true from (by decide : hasZ [1] 1 = true)), List.dropWhile_cons, if_neg (by decide)]
    show (if hasZ [16] 16 then _ else _) = _
    rw [if_pos (by decide)]
    have h := htr
    unfold trimZ at h
    unfold trimZ at himp
    unfold trimZ
    rw [h, himp]
    rfl
  unfold written
  rw [List.length_cons, declsZ, if_neg (show ¬hasZ [13, 17] (plainT 1 nm).tok.k = true from (by decide : ¬hasZ [13, 17] 1 = true)), if_neg (show ¬hasZ [3] (plainT 1 nm).tok.k = true from (by decide : ¬hasZ [3] 1 = true)), hn, List.take_length, List.drop_length, hd, declsZ_nil]
  rfl
theorem some_mem : ∀ (f : Nat) (l : List T5) (c n : Int), (∀ t ∈ (someZ f l c n).2, t ∈ l) ∧ ∀ y ∈ (someZ f l c n).1, y.tok ∈ l
  | 0, l, _, _ => by simp [someZ]
  | _ + 1, [], _, _ => by simp [someZ]
  | f + 1, t :: r, c, n => by
    have h1 := some_mem f r c n
    have h2 := some_mem f r (closeZ t.k) (n + 1)
    have h3 := some_mem f (someZ f r (closeZ t.k) (n + 1)).2 c n
    rw [someZ]
    split
    · exact ⟨fun x hx => List.mem_cons_of_mem _ hx, fun y hy => by simp at hy⟩
    · split
      · refine ⟨fun x hx => List.mem_cons_of_mem _ (h1.1 x hx), fun y hy => ?_⟩
        rcases List.mem_cons.1 hy with rfl | hy
        · exact List.mem_cons_self ..
        · exact List.mem_cons_of_mem _ (h1.2 y hy)
      · split
        · exact ⟨fun x hx => List.mem_cons_of_mem _ (h2.1 x (h3.1 x hx)), fun y hy => List.mem_cons_of_mem _ (h2.1 _ (h3.2 y hy))⟩
        · refine ⟨fun x hx => List.mem_cons_of_mem _ (h2.1 x (h3.1 x hx)), fun y hy => ?_⟩
          rcases List.mem_cons.1 hy with rfl | hy
          · exact List.mem_cons_self ..
          · exact List.mem_cons_of_mem _ (h2.1 _ (h3.2 y hy))
theorem vals_mem (ts : List T5) : ∀ y ∈ valsZ ts, y.tok ∈ ts := (some_mem ts.length ts 0 0).2
theorem flat_ge (vs : List V) : vs.length ≤ (flatL vs).length := by
  induction vs with
  | nil => simp
  | cons x r ih =>
    rw [flatL, List.length_append, List.length_cons]
    cases x
    rw [flatV, List.length_cons]
    omega
theorem flat_in {x : V} {vs : List V} (h : x ∈ vs) : (flatV x).length ≤ (flatL vs).length := by
  induction vs with
  | nil => cases h
  | cons y r ih =>
    rw [flatL, List.length_append]
    rcases List.mem_cons.1 h with rfl | h
    · omega
    · have := ih h
      omega
theorem ok_most {c n : Int} {vs : List V} (h : Ok c n vs) : (flatL vs).length ≤ 1000000000 → V.most vs := by
  induction h with
  | nil c n => intro _; exact .mk _ (by simp) (fun x hx => by cases hx)
  | @flat c n t r h1 h2 hr ih =>
    intro hl
    have hr' : (flatL r).length ≤ 1000000000 := by rw [flatL, List.length_append] at hl; omega
    refine .mk _ (Nat.le_trans (flat_ge _) hl) (fun x hx => ?_)
    rcases List.mem_cons.1 hx with rfl | hx
    · exact .mk _ (by simp [V.kids]) (fun x hx => by cases hx)
    · exact (ih hr').kid hx
  | @block c n t ks r h1 h2 h3 hk hr ihk ihr =>
    intro hl
    have hr' : (flatL r).length ≤ 1000000000 := by rw [flatL, List.length_append] at hl; omega
    have hk' : (flatL ks).length ≤ 1000000000 := by
      rw [flatL, List.length_append, flatV, if_neg h2, List.length_cons, List.length_append] at hl
      omega
    refine .mk _ (Nat.le_trans (flat_ge _) hl) (fun x hx => ?_)
    rcases List.mem_cons.1 hx with rfl | hx
    · exact ihk hk'
    · exact (ihr hr').kid hx
theorem vals_most {ts : List T5} (h : ts.length ≤ 100000) : V.most (valsZ ts) := ok_most (some_ok ts.length ts 0 0) (Nat.le_trans (flat_twice ts) (by omega))
theorem vals_len (ts : List T5) : (valsZ ts).length ≤ 2 * ts.length := Nat.le_trans (flat_ge _) (flat_twice ts)

end Go.Proofs.Ytihdiaklhkecmab
