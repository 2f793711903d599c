/- How specific: the small functions. How specific selectors are, plainly. -/
import Derived.Test.YtdibldcnklgcjaaGreatDoorLSe
namespace Go.Proofs.YtdibldcnklgcjaaGreatDoor.L
open Go.RowKit
set_option maxRecDepth 100000

/-- A specificity. -/
structure S3 where
  a : Int
  b : Int
  c : Int
def S3.v (s : S3) : Value := .agg #[.int .i64 s.a, .int .i64 s.b, .int .i64 s.c]
def S3.ok (s : S3) : Prop := (0 ≤ s.a ∧ s.a ≤ 65535) ∧ (0 ≤ s.b ∧ s.b ≤ 65535) ∧ (0 ≤ s.c ∧ s.c ≤ 65535)
def z3 : S3 := ⟨0, 0, 0⟩
def addS (x y : S3) : S3 := ⟨min (x.a + y.a) 65535, min (x.b + y.b) 65535, min (x.c + y.c) 65535⟩
def lessS (x y : S3) : Bool := if (x.a != y.a) = true then decide (x.a < y.a) else if (x.b != y.b) = true then decide (x.b < y.b) else decide (x.c < y.c)
def wgB (k : Int) : Bool := k == 5 || k == 6
def sglZ (s : S6) : S3 := if (s.k == 3) = true then ⟨1, 0, 0⟩ else if (s.k == 2 || s.k == 4 || s.k == 8 || s.k == 9 || s.k == 10 || s.k == 11) = true then ⟨0, 1, 0⟩ else if (s.k == 1 && !(s.nm.toList == [42])) = true then ⟨0, 0, 1⟩ else z3
theorem addS_ok {x y : S3} (hx : x.ok) (hy : y.ok) : (addS x y).ok := by
  obtain ⟨a1, a2, a3⟩ := hx
  obtain ⟨b1, b2, b3⟩ := hy
  refine ⟨?_, ?_, ?_⟩ <;> simp only [addS] <;> omega
theorem sglZ_ok (s : S6) : (sglZ s).ok := by
  unfold sglZ
  repeat' split
  all_goals simp [S3.ok, z3]
theorem weighed_any (W : World) (k : Int) : Calls Tryz.prog 67 #[.int .i64 k] W fun e w' => e = .returned (.bool (wgB k)) ∧ w' = W := by
  have HE : Hid (wgB k = (k == 5 || k == 6)) := rfl
  generalize wgB k = r at *
  cases h5 : (k == 5)
  · have HR : Hid (r = (k == 6)) := by rw [Hid, HE.out, h5]; rfl
    clear HE
    go_enter Tryz.func67, Tryz.ntmps67
    go_wp2
    go_ret
    exact ⟨by rw [HR.out]; rfl, rfl⟩
  · have HR : Hid (r = true) := by rw [Hid, HE.out, h5]; rfl
    clear HE
    go_enter Tryz.func67, Tryz.ntmps67
    go_wp2
    go_ret
    exact ⟨by rw [HR.out]; rfl, rfl⟩

set_option maxHeartbeats 400000 in
theorem less_any (W : World) (x y : S3) : Calls Tryz.prog 7 #[x.v, y.v] W fun e w' => e = .returned (.bool (lessS x y)) ∧ Below W.heap.size W w' := by
  obtain ⟨xa, xb, xc⟩ := x
  obtain ⟨ya, yb, yc⟩ := y
  have HE : Hid (lessS ⟨xa, xb, xc⟩ ⟨ya, yb, yc⟩ = if (xa != ya) = true then decide (xa < ya) else if (xb != yb) = true then decide (xb < yb) else decide (xc < yc)) := rfl
  have HB : Hid (Below W.heap.size W ((W.alloc (.cells #[.int .i64 xa, .int .i64 xb, .int .i64 xc] 23)).alloc (.cells #[.int .i64 ya, .int .i64 yb, .int .i64 yc] 23))) := ((Below.refl _ _).alloc (Nat.le_refl _) _).alloc (by simp) _
  unfold S3.v
  dsimp only
  generalize lessS ⟨xa, xb, xc⟩ ⟨ya, yb, yc⟩ = r at *
  cases ha : (xa != ya)
  · cases hb : (xb != yb)
    · have HR : Hid (r = decide (xc < yc)) := by rw [Hid, HE.out, ha, hb]; rfl
      clear HE
      go_enter Tryz.func7, Tryz.ntmps7
      go_wp2
      go_ret
      exact ⟨by rw [HR.out]; rfl, HB.out⟩
    · have HR : Hid (r = decide (xb < yb)) := by rw [Hid, HE.out, ha, hb]; rfl
      clear HE
      go_enter Tryz.func7, Tryz.ntmps7
      go_wp2
      go_ret
      exact ⟨by rw [HR.out]; rfl, HB.out⟩
  · have HR : Hid (r = decide (xa < ya)) := by rw [Hid, HE.out, ha]; rfl
    clear HE
    go_enter Tryz.func7, Tryz.ntmps7
    go_wp2
    go_ret
    exact ⟨by rw [HR.out]; rfl, HB.out⟩
theorem cells3s {W : World} {b : Nat} {x0 x1 x2 : Value} {T : TypeId} (h : W.heap[b]? = some (.cells #[x0, x1, x2] T (0, 0))) : (W.cell? ⟨b, 0, none⟩ = some x0 ∧ W.cell? ⟨b, 1, none⟩ = some x1 ∧ W.cell? ⟨b, 2, none⟩ = some x2) ∧ W.frozen? ⟨b, 0, none⟩ = false ∧ W.frozen? ⟨b, 1, none⟩ = false ∧ W.frozen? ⟨b, 2, none⟩ = false :=
  ⟨⟨cellAt h 0, cellAt h 1, cellAt h 2⟩, by simp [World.frozen?, h], by simp [World.frozen?, h], by simp [World.frozen?, h]⟩
theorem below_set3 {B : Nat} {W w : World} (h : Below B W w) {o : Nat} (ho : B ≤ o) (x y z : Value) : Below B W (((w.setCell ⟨o, 0, none⟩ x).setCell ⟨o, 1, none⟩ y).setCell ⟨o, 2, none⟩ z) := ((h.setCell (p := ⟨o, 0, none⟩) ho x).setCell (p := ⟨o, 1, none⟩) ho y).setCell (p := ⟨o, 2, none⟩) ho z

set_option maxHeartbeats 400000 in
theorem plus_any (W : World) {x y : S3} (hx : x.ok) (hy : y.ok) : Calls Tryz.prog 68 #[x.v, y.v] W fun e w' => e = .returned (addS x y).v ∧ Below W.heap.size W w' := by
  obtain ⟨xa, xb, xc⟩ := x
  obtain ⟨ya, yb, yc⟩ := y
  obtain ⟨⟨p1, p2⟩, ⟨p3, p4⟩, p5, p6⟩ := hx
  obtain ⟨⟨q1, q2⟩, ⟨q3, q4⟩, q5, q6⟩ := hy
  dsimp only at p1 p2 p3 p4 p5 p6 q1 q2 q3 q4 q5 q6
  have HB : Hid (Below W.heap.size W (((W.alloc (.cells #[.int .i64 xa, .int .i64 xb, .int .i64 xc] 23)).alloc (.cells #[.int .i64 ya, .int .i64 yb, .int .i64 yc] 23)).alloc (.cells #[.int .i64 0, .int .i64 0, .int .i64 0] 23))) := (((Below.refl _ _).alloc (Nat.le_refl _) _).alloc (by simp) _).alloc (by simp; omega) _
  unfold S3.v addS
  dsimp only
  have m1 : ∀ z : Int, 65535 < z → min z 65535 = 65535 := fun z h => by omega
  have m2 : ∀ z : Int, ¬ 65535 < z → min z 65535 = z := fun z h => by omega
  by_cases ha : 65535 < xa + ya
  all_goals by_cases hb : 65535 < xb + yb
  all_goals by_cases hc : 65535 < xc + yc
  all_goals
    first
      | rw [m1 _ ha]
      | rw [m2 _ ha]
    first
      | rw [m1 _ hb]
      | rw [m2 _ hb]
    first
      | rw [m1 _ hc]
      | rw [m2 _ hc]
    clear m1 m2
    go_enter Tryz.func68, Tryz.ntmps68
    go_wp2
    exact bodyPost_ret (by simp [results, Tryz.results68, go_sem] <;> omega) rfl ⟨rfl, (((Below.refl _ _).alloc (Nat.le_refl _) _).alloc (by simp) _).alloc (by simp; omega) _⟩

set_option maxHeartbeats 400000 in
theorem single_any (W : World) (s : S6) (la : Option Addr) (ln lc : Nat) : Calls Tryz.prog 69 #[.agg #[.int .i64 s.k, .string s.nm, .int .i64 s.op, .string s.v, .int .i64 s.a, .int .i64 s.b, .slice la ln lc]] W fun e w' => e = .returned (sglZ s).v ∧ Below W.heap.size W w' := by
  obtain ⟨k, nm, op, v, a, b⟩ := s
  have HB : Hid (∀ x y z, Below W.heap.size W ((W.alloc (.cells #[.int .i64 k, .string nm, .int .i64 op, .string v, .int .i64 a, .int .i64 b, .slice la ln lc] 40)).alloc (.cells #[.int .i64 x, .int .i64 y, .int .i64 z] 23))) := fun _ _ _ => ((Below.refl _ _).alloc (Nat.le_refl _) _).alloc (by simp) _
  have HE : Hid (sglZ ⟨k, nm, op, v, a, b⟩ = if (k == 3) = true then ⟨1, 0, 0⟩ else if (k == 2 || k == 4 || k == 8 || k == 9 || k == 10 || k == 11) = true then ⟨0, 1, 0⟩ else if (k == 1 && !(nm.toList == [42])) = true then ⟨0, 0, 1⟩ else z3) := rfl
  dsimp only
  generalize sglZ ⟨k, nm, op, v, a, b⟩ = R at *
  cases h3 : (k == 3) with
  | true =>
    have HR : Hid (R = ⟨1, 0, 0⟩) := by rw [Hid, HE.out]; simp [h3]
    rw [HR.out]
    unfold S3.v
    dsimp only
    clear HE HR
    go_enter Tryz.func69, Tryz.ntmps69
    go_wp2
    exact bodyPost_ret (by simp [results, Tryz.results69, go_sem]) rfl ⟨rfl, HB.out _ _ _⟩
  | false =>
  cases h2 : (k == 2) with
  | true =>
    have HR : Hid (R = ⟨0, 1, 0⟩) := by rw [Hid, HE.out]; simp [h3, h2]
    rw [HR.out]
    unfold S3.v
    dsimp only
    clear HE HR
    go_enter Tryz.func69, Tryz.ntmps69
    go_wp2
    exact bodyPost_ret (by simp [results, Tryz.results69, go_sem]) rfl ⟨rfl, HB.out _ _ _⟩
  | false =>
  cases h4 : (k == 4) with
  | true =>
    have HR : Hid (R = ⟨0, 1, 0⟩) := by rw [Hid, HE.out]; simp [h3, h2, h4]
    rw [HR.out]
    unfold S3.v
    dsimp only
    clear HE HR
    go_enter Tryz.func69, Tryz.ntmps69
    go_wp2
    exact bodyPost_ret (by simp [results, Tryz.results69, go_sem]) rfl ⟨rfl, HB.out _ _ _⟩
  | false =>
  cases h8 : (k == 8) with
  | true =>
    have HR : Hid (R = ⟨0, 1, 0⟩) := by rw [Hid, HE.out]; simp [h3, h2, h4, h8]
    rw [HR.out]
    unfold S3.v
    dsimp only
    clear HE HR
    go_enter Tryz.func69, Tryz.ntmps69
    go_wp2
    exact bodyPost_ret (by simp [results, Tryz.results69, go_sem]) rfl ⟨rfl, HB.out _ _ _⟩
  | false =>
  cases h9 : (k == 9) with
  | true =>
    have HR : Hid (R = ⟨0, 1, 0⟩) := by rw [Hid, HE.out]; simp [h3, h2, h4, h8, h9]
    rw [HR.out]
    unfold S3.v
    dsimp only
    clear HE HR
    go_enter Tryz.func69, Tryz.ntmps69
    go_wp2
    exact bodyPost_ret (by simp [results, Tryz.results69, go_sem]) rfl ⟨rfl, HB.out _ _ _⟩
  | false =>
  cases h10 : (k == 10) with
  | true =>
    have HR : Hid (R = ⟨0, 1, 0⟩) := by rw [Hid, HE.out]; simp [h3, h2, h4, h8, h9, h10]
    rw [HR.out]
    unfold S3.v
    dsimp only
    clear HE HR
    go_enter Tryz.func69, Tryz.ntmps69
    go_wp2
    exact bodyPost_ret (by simp [results, Tryz.results69, go_sem]) rfl ⟨rfl, HB.out _ _ _⟩
  | false =>
  cases h11 : (k == 11) with
  | true =>
    have HR : Hid (R = ⟨0, 1, 0⟩) := by rw [Hid, HE.out]; simp [h3, h2, h4, h8, h9, h10, h11]
    rw [HR.out]
    unfold S3.v
    dsimp only
    clear HE HR
    go_enter Tryz.func69, Tryz.ntmps69
    go_wp2
    exact bodyPost_ret (by simp [results, Tryz.results69, go_sem]) rfl ⟨rfl, HB.out _ _ _⟩
  | false =>
  cases h1 : (k == 1) with
  | false =>
    have HR : Hid (R = z3) := by rw [Hid, HE.out]; simp [h3, h2, h4, h8, h9, h10, h11, h1]
    rw [HR.out]
    unfold S3.v z3
    dsimp only
    clear HE HR
    go_enter Tryz.func69, Tryz.ntmps69
    go_wp2
    exact bodyPost_ret (by simp [results, Tryz.results69, go_sem]) rfl ⟨rfl, HB.out _ _ _⟩
  | true =>
  cases hs : (nm.toList == [42]) with
  | true =>
    have HR : Hid (R = z3) := by rw [Hid, HE.out]; simp [h3, h2, h4, h8, h9, h10, h11, h1, hs]
    rw [HR.out]
    unfold S3.v z3
    dsimp only
    clear HE HR
    have hn : (nm.toList != [42]) = false := by rw [bne, hs]; rfl
    go_enter Tryz.func69, Tryz.ntmps69
    go_wp2
    exact bodyPost_ret (by simp [results, Tryz.results69, go_sem]) rfl ⟨rfl, HB.out _ _ _⟩
  | false =>
    have HR : Hid (R = ⟨0, 0, 1⟩) := by rw [Hid, HE.out]; simp [h3, h2, h4, h8, h9, h10, h11, h1, hs]
    rw [HR.out]
    unfold S3.v
    dsimp only
    clear HE HR
    have hn : (nm.toList != [42]) = true := by rw [bne, hs]; rfl
    go_enter Tryz.func69, Tryz.ntmps69
    go_wp2
    exact bodyPost_ret (by simp [results, Tryz.results69, go_sem]) rfl ⟨rfl, HB.out _ _ _⟩
end Go.Proofs.YtdibldcnklgcjaaGreatDoor.L
namespace Go.Proofs.YtdibldcnklgcjaaGreatDoor.L
open Go.RowKit
set_option maxRecDepth 100000

/-- What a simple selector adds; f: what a List is worth. -/
def smF (f : List Cx → S3) (x : S6 × List Cx) : S3 := if wgB x.1.k = true then f x.2 else sglZ x.1
def ptF (f : List Cx → S3) (acc : S3) (p : List (S6 × List Cx)) : S3 := p.foldl (fun m x => addS m (smF f x)) acc
def ofF (f : List Cx → S3) (c : Cx) : S3 := c.parts.foldl (ptF f) z3
def upS (m x : S3) : S3 := if lessS m x = true then x else m
def mostF (f : List Cx → S3) (l : List Cx) : S3 := l.foldl (fun m c => upS m (ofF f c)) z3
def mostD : Nat → List Cx → S3
  | 0, _ => z3
  | d + 1, l => mostF (mostD d) l
mutual
def dpC : Cx → Nat
  | .mk ps _ => dpPs ps
def dpPs : List (List (S6 × List Cx)) → Nat
  | [] => 0
  | p :: r => max (dpP p) (dpPs r)
def dpP : List (S6 × List Cx) → Nat
  | [] => 0
  | x :: r => max (dpX x) (dpP r)
def dpX : S6 × List Cx → Nat
  | (_, l) => dpL l + 1
def dpL : List Cx → Nat
  | [] => 0
  | c :: r => max (dpC c) (dpL r)
end
theorem dpL_mem : ∀ {l : List Cx} {c : Cx}, c ∈ l → dpC c ≤ dpL l
  | a :: r, c, h => by
    rw [dpL]
    rcases List.mem_cons.1 h with rfl | h
    · omega
    · have := dpL_mem h
      omega
theorem dpPs_mem : ∀ {l : List (List (S6 × List Cx))} {c : List (S6 × List Cx)}, c ∈ l → dpP c ≤ dpPs l
  | a :: r, c, h => by
    rw [dpPs]
    rcases List.mem_cons.1 h with rfl | h
    · omega
    · have := dpPs_mem h
      omega
theorem dpP_mem : ∀ {l : List (S6 × List Cx)} {c : S6 × List Cx}, c ∈ l → dpL c.2 < dpP l
  | a :: r, c, h => by
    rw [dpP]
    rcases List.mem_cons.1 h with rfl | h
    · obtain ⟨s, l⟩ := c
      rw [dpX]
      simp only []
      omega
    · have := dpP_mem h
      omega
theorem dpC_parts (c : Cx) : dpC c = dpPs c.parts := by
  cases c with
  | mk p k => rw [dpC]; rfl
theorem foldl_congr' {α β : Type} {f g : β → α → β} : ∀ {l : List α} {b : β}, (∀ b a, a ∈ l → f b a = g b a) → l.foldl f b = l.foldl g b
  | [], _, _ => rfl
  | a :: r, b, h => by
    rw [List.foldl_cons, List.foldl_cons, h b a (by simp), foldl_congr' fun b x hx => h b x (by simp [hx])]
theorem mostF_congr {f g : List Cx → S3} {l : List Cx} (h : ∀ c ∈ l, ∀ p ∈ c.parts, ∀ x ∈ p, f x.2 = g x.2) : mostF f l = mostF g l := by
  unfold mostF
  refine foldl_congr' fun m c hc => ?_
  have e : ofF f c = ofF g c := by
    unfold ofF
    refine foldl_congr' fun m p hp => ?_
    unfold ptF
    refine foldl_congr' fun m x hx => ?_
    unfold smF
    rw [h c hc p hp x hx]
  rw [e]
theorem dp_in {l : List Cx} {c : Cx} (hc : c ∈ l) {p : List (S6 × List Cx)} (hp : p ∈ c.parts) {x : S6 × List Cx} (hx : x ∈ p) : dpL x.2 < dpL l := by
  have h1 := dpL_mem hc
  have h2 := dpC_parts c
  have h3 := dpPs_mem hp
  have h4 := dpP_mem hx
  omega
theorem mostD_same : ∀ (d e : Nat) (l : List Cx), dpL l < d → dpL l < e → mostD d l = mostD e l
  | 0, _, _, h, _ => by omega
  | _ + 1, 0, _, _, h => by omega
  | d + 1, e + 1, l, hd, he => by
    unfold mostD
    exact mostF_congr fun c hc p hp x hx => by
      have := dp_in hc hp hx
      exact mostD_same d e x.2 (by omega) (by omega)
/-- The greatest specificity of a list. -/
def mostZ (l : List Cx) : S3 := mostD (dpL l + 1) l
theorem mostZ_step (l : List Cx) : mostZ l = mostF mostZ l := by
  conv => lhs; unfold mostZ mostD
  exact mostF_congr fun c hc p hp x hx => by
    have := dp_in hc hp hx
    unfold mostZ
    exact mostD_same _ _ x.2 (by omega) (by omega)
theorem z3_ok : z3.ok := by simp [S3.ok, z3]
theorem ptF_ok {f : List Cx → S3} : ∀ {p : List (S6 × List Cx)} {acc : S3}, acc.ok → (∀ x ∈ p, (f x.2).ok) → (ptF f acc p).ok
  | [], _, h, _ => h
  | x :: r, acc, h, hf => by
    unfold ptF
    rw [List.foldl_cons]
    refine ptF_ok (p := r) (addS_ok h ?_) fun y hy => hf y (by simp [hy])
    unfold smF
    split
    · exact hf x (by simp)
    · exact sglZ_ok _
theorem parts_ok {f : List Cx → S3} : ∀ {ps : List (List (S6 × List Cx))} {acc : S3}, acc.ok → (∀ p ∈ ps, ∀ x ∈ p, (f x.2).ok) → (ps.foldl (ptF f) acc).ok
  | [], _, h, _ => h
  | p :: r, acc, h, hf => by
    rw [List.foldl_cons]
    exact parts_ok (ps := r) (ptF_ok h (hf p (by simp))) fun q hq => hf q (by simp [hq])
theorem ofF_ok {f : List Cx → S3} {c : Cx} (h : ∀ p ∈ c.parts, ∀ x ∈ p, (f x.2).ok) : (ofF f c).ok := parts_ok z3_ok h
theorem mostL_ok {f : List Cx → S3} : ∀ {l : List Cx} {m : S3}, m.ok → (∀ c ∈ l, ∀ p ∈ c.parts, ∀ x ∈ p, (f x.2).ok) → (l.foldl (fun m c => upS m (ofF f c)) m).ok
  | [], _, h, _ => h
  | c :: r, m, h, hf => by
    rw [List.foldl_cons]
    refine mostL_ok (l := r) ?_ fun d hd => hf d (by simp [hd])
    unfold upS
    split
    · exact ofF_ok (hf c (by simp))
    · exact h
theorem mostD_ok : ∀ (d : Nat) (l : List Cx), (mostD d l).ok
  | 0, _ => z3_ok
  | d + 1, _ => by unfold mostD; exact mostL_ok z3_ok fun _ _ _ _ x _ => mostD_ok d x.2
theorem mostZ_ok (l : List Cx) : (mostZ l).ok := mostD_ok _ _
/-- The Lists within that are weighed, from left to right. -/
def wgP (p : List (S6 × List Cx)) : List (List Cx) := (p.filter fun x => wgB x.1.k).map Prod.snd
def wgC (c : Cx) : List (List Cx) := c.parts.flatMap wgP
def wgL (l : List Cx) : List (List Cx) := l.flatMap wgC
end Go.Proofs.YtdibldcnklgcjaaGreatDoor.L
