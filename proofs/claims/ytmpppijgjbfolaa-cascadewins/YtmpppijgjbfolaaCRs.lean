/- The document's Sort. -/
import Derived.Test.YtmpppijgjbfolaaCRl
namespace Go.Proofs.Ytmpppijgjbfolaa.C
open Go.RowKit
set_option maxRecDepth 100000

theorem EP.set {w : World} {B g : Nat} {v : Value} {l : List E8} (h : EP w B v l) (hg : v.ownBlock = some g) {i : Nat} (hi : i < l.length) (r : E8) : EP (putE w g (i * 8) r) B v (l.set i r) := by
  have := own_putE h hg (i * 8) r
  rw [set8_flat l i hi r] at this
  unfold EP
  rw [List.length_set]
  exact this
theorem EP.swap {w : World} {B g : Nat} {v : Value} {l : List E8} (h : EP w B v l) (hg : v.ownBlock = some g) {i j : Nat} (hi : i < l.length) (hj : j < l.length) : EP (putE (putE w g (i * 8) l[j]) g (j * 8) l[i]).drew B v (swapL l i j hi hj) ∧ Below B w (putE (putE w g (i * 8) l[j]) g (j * 8) l[i]).drew := by
  have h1 : EP (putE (putE w g (i * 8) l[j]) g (j * 8) l[i]) B v (swapL l i j hi hj) := (h.set hg hi l[j]).set hg (i := j) (by rw [List.length_set]; exact hj) l[i]
  have hB := (World.ownsRow.lt h g hg).1
  have h2 : Below B w (putE (putE w g (i * 8) l[j]) g (j * 8) l[i]) := putE_below (putE_below (Below.refl _ _) hB _ _) hB _ _
  generalize putE (putE w g (i * 8) l[j]) g (j * 8) l[i] = x at *
  exact ⟨h1, h2.drew⟩
theorem EP.at {w : World} {B n c : Nat} {a : Option Addr} {l : List E8} (h : EP w B (.slice a n c) l) {i : Nat} (hi : i < l.length) : ∃ g, a = some ⟨g, 0, none⟩ ∧ g < w.heap.size ∧ (∀ o, w.frozen? ⟨g, o, none⟩ = false) ∧ (w.cell? ⟨g, i * 8, none⟩ = some (.string l[i].n) ∧ w.cell? ⟨g, i * 8 + 1, none⟩ = some (.string l[i].v) ∧ w.cell? ⟨g, i * 8 + 2, none⟩ = some (.int .i64 l[i].o) ∧ w.cell? ⟨g, i * 8 + 3, none⟩ = some (.bool l[i].im) ∧ w.cell? ⟨g, i * 8 + 4, none⟩ = some (.int .i64 l[i].a) ∧ w.cell? ⟨g, i * 8 + 5, none⟩ = some (.int .i64 l[i].b) ∧ w.cell? ⟨g, i * 8 + 6, none⟩ = some (.int .i64 l[i].c) ∧ w.cell? ⟨g, i * 8 + 7, none⟩ = some (.int .i64 l[i].k)) := by
  have h0 := h
  rcases h.2 with ⟨e, e0⟩ | ⟨k, cap, cur, e, h1, h2, h3, h4, _⟩
  · omega
  · cases e
    refine ⟨k, rfl, (Array.getElem?_eq_some_iff.1 h2).1, fun o => by simp [World.frozen?, h2], ?_⟩
    have hc := fun j (hj : j < 8) (u : Value) (hu : (c8 l[i])[j]? = some u) => World.ownsRow.cells h0 (g := k) rfl (i * 8 + j) u ((flat8_at l i hi j hj).trans hu)
    simp only [Addr.add_mid, Nat.zero_add] at hc
    exact ⟨hc 0 (by omega) _ rfl, hc 1 (by omega) _ rfl, hc 2 (by omega) _ rfl, hc 3 (by omega) _ rfl, hc 4 (by omega) _ rfl, hc 5 (by omega) _ rfl, hc 6 (by omega) _ rfl, hc 7 (by omega) _ rfl⟩

theorem EP.keep2 {w w' : World} {B : Nat} {v : Value} {l : List E8} (h : EP w B v l) (hb : Below w.heap.size w w') : EP w' B v l := ownsRow_below h hb
/-- Into what falls: behind whom it is not less than. -/
def insR (x : E8) : List E8 → List E8
  | [] => [x]
  | y :: r => if lessE x y = true then y :: insR x r else x :: y :: r
theorem insR_all (x : E8) : ∀ (c r : List E8), (∀ m ∈ c, lessE x m = true) → insR x (c ++ r) = c ++ insR x r
  | [], r, _ => rfl
  | y :: c, r, h => by
    rw [List.cons_append, insR, if_pos (h y (by simp)), insR_all x c r (fun m hm => h m (by simp [hm]))]
    rfl
theorem ins_done {x : E8} {M : List E8} {j : Nat} (hj : j ≤ M.length) (h : ∀ m ∈ M.drop j, lessE x m = true) (hd : j = 0 ∨ ∃ y, M[j - 1]? = some y ∧ lessE x y = false) : M.take j ++ x :: M.drop j = (insR x M.reverse).reverse := by
  have h1 : M.reverse = (M.drop j).reverse ++ (M.take j).reverse := by rw [← List.reverse_append, List.take_append_drop]
  rw [h1, insR_all x _ _ (fun m hm => h m (by simpa using hm))]
  have h2 : insR x (M.take j).reverse = x :: (M.take j).reverse := by
    rcases hd with rfl | ⟨y, hy, hl⟩
    · simp [insR]
    · by_cases h0 : j = 0
      · subst h0; simp [insR]
      · have h3 : (M.take j).reverse = y :: (M.take (j - 1)).reverse := by
          have hlt : j - 1 < M.length := by omega
          have : M.take j = M.take (j - 1) ++ [y] := by
            rw [List.getElem?_eq_getElem hlt] at hy
            cases hy
            rw [List.take_append_getElem hlt, show j - 1 + 1 = j by omega]
          rw [this]
          simp
        rw [h3, insR, hl]
        rfl
  rw [h2]
  simp
theorem fall_ins {f R : List E8} {x : E8} (h : Fall (tagF f 0) R) : Fall (tagF (f ++ [x]) 0) (insR x R) := by
  obtain ⟨ys, rfl, hp, hw⟩ := h
  have hpl : ∀ y ∈ ys, y.2 < (f.length : Int) := fun y hy => by
    have := (tagF_mem f 0 y (hp.mem_iff.1 hy)).2
    simpa using this
  have key : ∀ zs : List R9, (∀ y ∈ zs, y.2 < (f.length : Int)) → zs.Pairwise (fun x y => bt y x = false) → ∃ us : List R9, insR x (zs.map (·.1)) = us.map (·.1) ∧ us.Perm ((x, (f.length : Int)) :: zs) ∧ us.Pairwise (fun x y => bt y x = false) := by
    intro zs
    induction zs with
    | nil => intro _ _; exact ⟨[(x, (f.length : Int))], rfl, List.Perm.refl _, List.pairwise_singleton _ _⟩
    | cons y r ih =>
      intro hb hpw
      obtain ⟨h1, h2⟩ := List.pairwise_cons.1 hpw
      have hy := hb y (by simp)
      cases hl : lessE x y.1 with
      | true =>
        obtain ⟨us, e1, e2, e3⟩ := ih (fun z hz => hb z (by simp [hz])) h2
        refine ⟨y :: us, by simp [insR, hl, e1], (e2.cons y).trans (List.Perm.swap _ _ _), List.Pairwise.cons (fun z hz => ?_) e3⟩
        rcases List.mem_cons.1 (e2.mem_iff.1 hz) with rfl | hz
        · rw [false_iff (bt_iff _ _)]
          dsimp only
          rintro (h | ⟨h, _⟩)
          · rw [lessE_asym hl] at h; cases h
          · exact h hl
        · exact h1 z hz
      | false =>
        refine ⟨(x, (f.length : Int)) :: y :: r, by simp [insR, hl], List.Perm.refl _, List.Pairwise.cons (fun z hz => ?_) hpw⟩
        have hyx : bt y (x, (f.length : Int)) = false := by
          rw [false_iff (bt_iff _ _)]
          dsimp only
          rw [hl]
          rintro (h | ⟨_, _, h⟩)
          · cases h
          · omega
        rcases List.mem_cons.1 hz with rfl | hz
        · exact hyx
        · exact bt_ord.neg _ _ _ hyx (h1 z hz)
  obtain ⟨us, e1, e2, e3⟩ := key ys hpl hw
  refine ⟨us, e1, e2.trans ?_, e3⟩
  rw [tagF_app, Nat.zero_add]
  exact (hp.cons _).trans (List.perm_append_singleton _ _).symm
theorem ins_swap {x : E8} {M : List E8} {q : Nat} (hq : q < M.length) (h1 : q < (M.take (q + 1) ++ x :: M.drop (q + 1)).length) (h2 : q + 1 < (M.take (q + 1) ++ x :: M.drop (q + 1)).length) : swapL (M.take (q + 1) ++ x :: M.drop (q + 1)) q (q + 1) h1 h2 = M.take q ++ x :: M.drop q := by
  have hl : (M.take (q + 1)).length = q + 1 := by rw [List.length_take]; omega
  have e1 : M.take (q + 1) = M.take q ++ [M[q]] := (List.take_append_getElem hq).symm
  have hlq : (M.take q).length = q := by rw [List.length_take]; omega
  have hg1 : (M.take (q + 1) ++ x :: M.drop (q + 1))[q]'h1 = M[q] := by
    rw [List.getElem_append_left (by omega)]
    simp
  have hg2 : (M.take (q + 1) ++ x :: M.drop (q + 1))[q + 1]'h2 = x := by
    rw [List.getElem_append_right (by omega)]
    simp [hl]
  unfold swapL
  rw [hg1, hg2, List.drop_eq_getElem_cons hq, e1, List.append_assoc]
  have s1 : (M.take q ++ ([M[q]] ++ x :: M.drop (q + 1))).set q x = M.take q ++ ([x] ++ x :: M.drop (q + 1)) := by
    have := set_append_at (M.take q) ([M[q]] ++ x :: M.drop (q + 1)) 0 x
    rw [hlq] at this
    simpa using this
  rw [s1]
  have s2 := set_append_at (M.take q) ([x] ++ x :: M.drop (q + 1)) 1 M[q]
  rw [hlq] at s2
  simpa using s2
/-- So far: sorted. -/
def RsGo (w : World) (l : List E8) (v : Value) (i : Nat) (wr : World) : Prop := ∃ M, M.length = i ∧ Fall (tagF (l.take i) 0) M.reverse ∧ EP wr w.heap.size v M ∧ Below w.heap.size w wr
/-- Within: one more is on its way. -/
def RsIn (w : World) (v : Value) (M : List E8) (x : E8) (j : Nat) (wr : World) : Prop := j ≤ M.length ∧ (∀ m ∈ M.drop j, lessE x m = true) ∧ EP wr w.heap.size v (M.take j ++ x :: M.drop j) ∧ Below w.heap.size w wr

set_option maxHeartbeats 8000000 in
theorem rsort_any {w : World} {a : Option Addr} {c : Nat} {l : List E8} (h : EsAt w a c l) (hL : l.length ≤ 900000) : Calls Try.prog 17 #[.slice a l.length c] w fun e w' => (∃ v s, e = .returned v ∧ s.length = l.length ∧ EP w' w.heap.size v s ∧ Fall (tagF l 0) s.reverse) ∧ Below w.heap.size w w' := by
  obtain ⟨i0, hi0, hz0, hz1, hz2⟩ := info_parts Try.info29s
  have HH := hid_mk h
  have hcap := h.cap
  have HST : Hid (RsGo w l (.slice none 0 0) 0 w) := ⟨[], rfl, ⟨[], rfl, List.Perm.refl _, List.Pairwise.nil⟩, own_nil _ _ _ _, Below.refl _ _⟩
  obtain ⟨n, hn⟩ : ∃ n, n = l.length := ⟨_, rfl⟩
  have HN := hid_mk hn
  rw [← hn] at hcap hL ⊢
  clear h hn
  go_enter Try.func17, Try.ntmps17
  go_wp2
  go_loopw [3, 9] (fun a3 a9 wr => ∃ i : Nat, i ≤ n ∧ a9 = .int .i64 (i : Int) ∧ Hid (RsGo w l a3 i wr)) (fun _ a9 _ => n + 1 - (intOf a9).toNat)
  case atStart => exact ⟨0, Nat.zero_le _, rfl, HST.out⟩
  case round =>
    clear HST
    obtain ⟨i, hi, rfl, HJ⟩ := hrel
    by_cases hlt : i < n
    · have hd : decide ((i : Int) < (n : Int)) = true := decide_eq_true (by omega)
      have hil : i < l.length := by rw [← HN.out]; exact hlt
      obtain ⟨M, hMl, hF, hE, hB⟩ := HJ.out
      obtain ⟨b, off, rfl, hb, c0, c1, c2, c3, c4, c5, c6, c7⟩ := (HH.out.keep hB).at hil
      obtain ⟨x, hx⟩ : ∃ x, x = l[i] := ⟨_, rfl⟩
      rw [← hx] at c0 c1 c2 c3 c4 c5 c6 c7
      have HF : Hid (Fall (tagF (l.take (i + 1)) 0) (insR x M.reverse)) := by
        rw [← List.take_append_getElem hil, ← hx]
        exact fall_ins hF
      have hown : wr.ownsRow w.heap.size 29 8 u3 i (M.flatMap c8) := by
        have : wr.ownsRow w.heap.size 29 8 u3 M.length (M.flatMap c8) := hE
        rwa [hMl] at this
      have HFL : Hid ((M ++ [x]).flatMap c8 = M.flatMap c8 ++ c8 x ∧ (M ++ [x]).length = i + 1) := ⟨by simp, by simp [hMl]⟩
      have hn63 : i + 1 ≤ maxLen := by unfold maxLen; omega
      have hsz := hB.size
      obtain ⟨va, vc, rfl⟩ := own_slice hown
      obtain ⟨xs, hxs⟩ : ∃ xs, xs = M.flatMap c8 := ⟨_, rfl⟩
      rw [← hxs] at hown
      have HXS := hid_mk hxs
      have HML := hid_mk hMl
      obtain ⟨xn, xv, xo, xi, xa, xb, xc, xk⟩ := x
      dsimp only at *
      clear hE hx hF hxs hMl
      have HB := hid_mk hB
      clear hB
      go_wp2_with (at_builtin; go_must (refine wpList_append_lies _ rfl _ _ _ rfl w.heap.size 29 i0 _ 8 80 Try.underlying35 hi0 hz0 hz1 hz2 rfl (by omega) (.slice va i vc) i xs rfl ((hown.alloc _).alloc _) ⟨wr.heap.size + 1, 0, none⟩ 1 1 [.string xn, .string xv, .int .i64 xo, .bool xi, .int .i64 xa, .int .i64 xb, .int .i64 xc, .int .i64 xk] rfl rfl (World.news_of_block (cs := #[.string xn, .string xv, .int .i64 xo, .bool xi, .int .i64 xa, .int .i64 xb, .int .i64 xc, .int .i64 xk]) (t := 29) (fr := (0, 0)) (two_news wr _ _)) (by simp [Value.oneCell']) (by omega) hn63 (by omega) (by simp; omega) (wr.heap.size + 2) (by simp) ?_); intro gg cap w5 hown5 hgr5 _ _; have HO5 := hid_mk hown5; have HG5 := hid_mk hgr5; clear hown5 hgr5)
      obtain ⟨n1, hn1⟩ : ∃ n1, n1 = i + 1 := ⟨_, rfl⟩
      rw [← hn1]
      have HIN : Hid (RsIn w (.slice (some ⟨gg, 0, none⟩) n1 cap) M ⟨xn, xv, xo, xi, xa, xb, xc, xk⟩ i w5) := by
        refine ⟨by rw [HML.out]; exact Nat.le_refl _, (fun m hm => ?_), ?_, ((HB.out.alloc hsz _).alloc (by simp; omega) _).grown HG5.out (by simp; omega) (fun k hk => (hown.lt k hk).1)⟩
        · rw [List.drop_of_length_le (by rw [HML.out]; exact Nat.le_refl _)] at hm
          cases hm
        · rw [List.take_of_length_le (by rw [HML.out]; exact Nat.le_refl _), List.drop_of_length_le (by rw [HML.out]; exact Nat.le_refl _)]
          unfold EP
          rw [HFL.out.1, HFL.out.2, ← HXS.out, hn1]
          exact HO5.out
      have HN1 := hid_mk hn1
      have HEND : Hid (∀ j W, RsIn w (.slice (some ⟨gg, 0, none⟩) n1 cap) M ⟨xn, xv, xo, xi, xa, xb, xc, xk⟩ j W → (j = 0 ∨ ∃ y, M[j - 1]? = some y ∧ lessE ⟨xn, xv, xo, xi, xa, xb, xc, xk⟩ y = false) → RsGo w l (.slice (some ⟨gg, 0, none⟩) n1 cap) (i + 1) W) := fun j W hR hd => by
        obtain ⟨h1, h2, h3, h4⟩ := hR
        have hd2 := ins_done h1 h2 hd
        refine ⟨M.take j ++ ⟨xn, xv, xo, xi, xa, xb, xc, xk⟩ :: M.drop j, ?_, ?_, h3, h4⟩
        · rw [List.length_append, List.length_cons, List.length_take, List.length_drop]
          have := HML.out
          omega
        · rw [hd2, List.reverse_reverse]
          exact HF.out
      have hin1 : i < n1 := by omega
      have hn1b : (n1 : Int) ≤ 900000 := by omega
      have ei : ((n1 : Int) - 1) = (i : Int) := by omega
      have ew : IntKind.i64.wrap ((n1 : Int) - 1) = (i : Int) := by rw [IntKind.wrap_i64] <;> omega
      clear HO5 HG5 hown HB c0 c1 c2 c3 c4 c5 c6 c7 hb HJ HXS hn1 HF HFL
      go_wp2
      clear ei ew
      go_loopw [6] (fun a6 wr => ∃ j : Nat, j ≤ i ∧ a6 = .int .i64 (j : Int) ∧ Hid (RsIn w (.slice (some ⟨gg, 0, none⟩) n1 cap) M ⟨xn, xv, xo, xi, xa, xb, xc, xk⟩ j wr)) (fun a6 _ => (intOf a6).toNat + 1)
      case atStart => exact ⟨i, Nat.le_refl _, rfl, HIN.out⟩
      case round =>
        clear HIN
        obtain ⟨j, hji, rfl, HJ⟩ := hrel
        cases j with
        | zero =>
          have HE : Hid (RsGo w l (.slice (some ⟨gg, 0, none⟩) n1 cap) (i + 1) wr.drew) := HEND.out 0 wr.drew (by
            obtain ⟨h1, h2, h3, h4⟩ := HJ.out
            exact ⟨h1, h2, h3, h4.drew⟩) (.inl rfl)
          have ez : ((0 : Nat) : Int) = 0 := rfl
          rw [ez]
          clear ez HJ HEND
          go_upto_region 7 with (fail)
          refine wp_region_held_drew (S := (fun _ => True)) (by kernel_rfl) (trivial) (fun hHeld => ?_)
          refine wpAnyH_take (i := 0) (oi := { dst := some 20, op := Op.move (Operand.tmp 6), type := 3, pos := "ref.go:46", after := #[], guard := none }) (v := ?_) rfl (by kernel_rfl) (by kernel_rfl) (by kernel_rfl) (fun _ _ _ h => h) (Or.inl ⟨by rfl, ?_⟩) (by assumption) ?_
          rotate_left
          · intro w hSw
            (try dsimp only at hSw)
            go_simp
            try with_reducible rfl
          try simp only [Act.put, List.setIfInBounds_toArray, List.set_cons_zero, List.set_cons_succ]
          refine wpAnyH_take (i := 1) (oi := { dst := some 21, op := Op.binOp BinOp.gtr 3 (Operand.tmp 20) (Operand.const (Value.int IntKind.i64 0)) 3, type := 4, pos := "ref.go:46", after := #[{ on := 0, ground := Ground.data }], guard := none }) (v := ?_) rfl (by kernel_rfl) (by kernel_rfl) (by kernel_rfl) (fun _ _ _ h => h) (Or.inl ⟨by rfl, ?_⟩) (by assumption) ?_
          rotate_left
          · intro w hSw
            (try dsimp only at hSw)
            go_simp
            try with_reducible rfl
          try simp only [Act.put, List.setIfInBounds_toArray, List.set_cons_zero, List.set_cons_succ]
          refine wpAnyH_take (i := 2) (oi := { dst := some 22, op := Op.move (Operand.tmp 21), type := 4, pos := "ref.go:46", after := #[{ on := 1, ground := Ground.data }], guard := none }) (v := ?_) rfl (by kernel_rfl) (by kernel_rfl) (by kernel_rfl) (fun _ _ _ h => h) (Or.inl ⟨by rfl, ?_⟩) (by assumption) ?_
          rotate_left
          · intro w hSw
            (try dsimp only at hSw)
            go_simp
            try with_reducible rfl
          try simp only [Act.put, List.setIfInBounds_toArray, List.set_cons_zero, List.set_cons_succ]
          refine wpAnyH_take (i := 3) (oi := { dst := some 23, op := Op.move (Operand.tmp 3), type := 35, pos := "ref.go:46", after := #[{ on := 2, ground := Ground.guard }], guard := some (2, true) }) (v := undef) rfl (by kernel_rfl) (by kernel_rfl) (by kernel_rfl) (fun _ _ _ h => h) (Or.inr ⟨by rfl, rfl⟩) (by assumption) ?_
          try simp only [Act.put, List.setIfInBounds_toArray, List.set_cons_zero, List.set_cons_succ]
          refine wpAnyH_take (i := 4) (oi := { dst := some 24, op := Op.move (Operand.tmp 6), type := 3, pos := "ref.go:46", after := #[{ on := 2, ground := Ground.guard }], guard := some (2, true) }) (v := undef) rfl (by kernel_rfl) (by kernel_rfl) (by kernel_rfl) (fun _ _ _ h => h) (Or.inr ⟨by rfl, rfl⟩) (by assumption) ?_
          try simp only [Act.put, List.setIfInBounds_toArray, List.set_cons_zero, List.set_cons_succ]
          refine wpAnyH_take (i := 5) (oi := { dst := some 25, op := Op.indexAddr 35 (Operand.tmp 23) (Operand.tmp 24), type := 0, pos := "ref.go:46", after := #[{ on := 3, ground := Ground.data }, { on := 4, ground := Ground.data }, { on := 2, ground := Ground.guard }], guard := some (2, true) }) (v := undef) rfl (by kernel_rfl) (by kernel_rfl) (by kernel_rfl) (fun _ _ _ h => h) (Or.inr ⟨by rfl, rfl⟩) (by assumption) ?_
          try simp only [Act.put, List.setIfInBounds_toArray, List.set_cons_zero, List.set_cons_succ]
          refine wpAnyH_take (i := 6) (oi := { dst := some 26, op := Op.load 29 (Operand.tmp 25), type := 29, pos := "ref.go:46", after := #[{ on := 5, ground := Ground.data }, { on := 2, ground := Ground.guard }], guard := some (2, true) }) (v := undef) rfl (by kernel_rfl) (by kernel_rfl) (by kernel_rfl) (fun _ _ _ h => h) (Or.inr ⟨by rfl, rfl⟩) (by assumption) ?_
          try simp only [Act.put, List.setIfInBounds_toArray, List.set_cons_zero, List.set_cons_succ]
          refine wpAnyH_take (i := 7) (oi := { dst := some 27, op := Op.move (Operand.tmp 3), type := 35, pos := "ref.go:46", after := #[{ on := 2, ground := Ground.guard }], guard := some (2, true) }) (v := undef) rfl (by kernel_rfl) (by kernel_rfl) (by kernel_rfl) (fun _ _ _ h => h) (Or.inr ⟨by rfl, rfl⟩) (by assumption) ?_
          try simp only [Act.put, List.setIfInBounds_toArray, List.set_cons_zero, List.set_cons_succ]
          refine wpAnyH_take (i := 8) (oi := { dst := some 28, op := Op.move (Operand.tmp 6), type := 3, pos := "ref.go:46", after := #[{ on := 2, ground := Ground.guard }], guard := some (2, true) }) (v := undef) rfl (by kernel_rfl) (by kernel_rfl) (by kernel_rfl) (fun _ _ _ h => h) (Or.inr ⟨by rfl, rfl⟩) (by assumption) ?_
          try simp only [Act.put, List.setIfInBounds_toArray, List.set_cons_zero, List.set_cons_succ]
          refine wpAnyH_take (i := 9) (oi := { dst := some 29, op := Op.binOp BinOp.sub 3 (Operand.tmp 28) (Operand.const (Value.int IntKind.i64 1)) 3, type := 3, pos := "ref.go:46", after := #[{ on := 8, ground := Ground.data }, { on := 2, ground := Ground.guard }], guard := some (2, true) }) (v := undef) rfl (by kernel_rfl) (by kernel_rfl) (by kernel_rfl) (fun _ _ _ h => h) (Or.inr ⟨by rfl, rfl⟩) (by assumption) ?_
          try simp only [Act.put, List.setIfInBounds_toArray, List.set_cons_zero, List.set_cons_succ]
          refine wpAnyH_take (i := 10) (oi := { dst := some 30, op := Op.indexAddr 35 (Operand.tmp 27) (Operand.tmp 29), type := 0, pos := "ref.go:46", after := #[{ on := 7, ground := Ground.data }, { on := 9, ground := Ground.data }, { on := 2, ground := Ground.guard }], guard := some (2, true) }) (v := undef) rfl (by kernel_rfl) (by kernel_rfl) (by kernel_rfl) (fun _ _ _ h => h) (Or.inr ⟨by rfl, rfl⟩) (by assumption) ?_
          try simp only [Act.put, List.setIfInBounds_toArray, List.set_cons_zero, List.set_cons_succ]
          refine wpAnyH_take (i := 11) (oi := { dst := some 31, op := Op.load 29 (Operand.tmp 30), type := 29, pos := "ref.go:46", after := #[{ on := 10, ground := Ground.data }, { on := 2, ground := Ground.guard }], guard := some (2, true) }) (v := undef) rfl (by kernel_rfl) (by kernel_rfl) (by kernel_rfl) (fun _ _ _ h => h) (Or.inr ⟨by rfl, rfl⟩) (by assumption) ?_
          try simp only [Act.put, List.setIfInBounds_toArray, List.set_cons_zero, List.set_cons_succ]
          refine wpAnyH_take (i := 12) (oi := { dst := some 32, op := Op.call { callee := Callee.value (Operand.func 13), args := #[Operand.tmp 26, Operand.tmp 31], argTypes := #[29, 29] }, type := 4, pos := "ref.go:46", after := #[{ on := 6, ground := Ground.data }, { on := 11, ground := Ground.data }, { on := 2, ground := Ground.chain }, { on := 2, ground := Ground.guard }], guard := some (2, true) }) (v := undef) rfl (by kernel_rfl) (by kernel_rfl) (by kernel_rfl) (fun _ _ _ h => h) (Or.inr ⟨by rfl, rfl⟩) (by assumption) ?_
          try simp only [Act.put, List.setIfInBounds_toArray, List.set_cons_zero, List.set_cons_succ]
          refine wpAnyH_take (i := 13) (oi := { dst := some 33, op := Op.pick (Operand.tmp 22) (Operand.tmp 32) (Operand.const (Value.bool false)), type := 4, pos := "ref.go:46", after := #[{ on := 2, ground := Ground.data }, { on := 12, ground := Ground.data }], guard := none }) (v := ?_) rfl (by kernel_rfl) (by kernel_rfl) (by kernel_rfl) (fun _ _ _ h => h) (Or.inl ⟨by rfl, ?_⟩) (by assumption) ?_
          rotate_left
          · intro w hSw
            (try dsimp only at hSw)
            go_simp
            try with_reducible rfl
          try simp only [Act.put, List.setIfInBounds_toArray, List.set_cons_zero, List.set_cons_succ]
          refine wpAnyH_done (by kernel_rfl) ?_ _
          go_wp2
          refine ⟨⟨i + 1, by omega, by simp, HE.out⟩, ?_⟩
          simp only [intOf]
          omega
        | succ q =>
          obtain ⟨j, hj⟩ : ∃ j, j = q + 1 := ⟨_, rfl⟩
          rw [← hj] at HJ hji ⊢
          have hqM : q < M.length := by have := HML.out; omega
          obtain ⟨h1, h2, h3, h4⟩ := HJ.out
          have hKl : (M.take j ++ ⟨xn, xv, xo, xi, xa, xb, xc, xk⟩ :: M.drop j).length = n1 := by
            rw [List.length_append, List.length_cons, List.length_take, List.length_drop]
            have := HML.out
            have := HN1.out
            omega
          have hjK : j < (M.take j ++ ⟨xn, xv, xo, xi, xa, xb, xc, xk⟩ :: M.drop j).length := by rw [hKl]; have := HN1.out; omega
          have hqK : q < (M.take j ++ ⟨xn, xv, xo, xi, xa, xb, xc, xk⟩ :: M.drop j).length := by omega
          have hlt : (M.take j).length = j := by rw [List.length_take]; omega
          have hgx : (M.take j ++ ⟨xn, xv, xo, xi, xa, xb, xc, xk⟩ :: M.drop j)[j]'hjK = ⟨xn, xv, xo, xi, xa, xb, xc, xk⟩ := by
            rw [List.getElem_append_right (by omega)]
            simp [hlt]
          have hgy : (M.take j ++ ⟨xn, xv, xo, xi, xa, xb, xc, xk⟩ :: M.drop j)[q]'hqK = M[q] := by
            rw [List.getElem_append_left (by omega)]
            simp
          obtain ⟨g, eg, hgl, hfz, c0, c1, c2, c3, c4, c5, c6, c7⟩ := h3.at hjK
          obtain ⟨g', eg', _, _, d0, d1, d2, d3, d4, d5, d6, d7⟩ := h3.at hqK
          cases eg
          cases eg'
          rw [hgx] at c0 c1 c2 c3 c4 c5 c6 c7
          rw [hgy] at d0 d1 d2 d3 d4 d5 d6 d7
          obtain ⟨y, hy⟩ : ∃ y, y = M[q] := ⟨_, rfl⟩
          rw [← hy] at d0 d1 d2 d3 d4 d5 d6 d7
          obtain ⟨r, hr⟩ : ∃ r, r = lessE ⟨xn, xv, xo, xi, xa, xb, xc, xk⟩ y := ⟨_, rfl⟩
          have HLS : Hid (∀ W, Below wr.heap.size wr W → Calls Try.prog 13 #[.agg #[.string xn, .string xv, .int .i64 xo, .bool xi, .int .i64 xa, .int .i64 xb, .int .i64 xc, .int .i64 xk], y.val] W fun e w' => e = .returned (.bool r) ∧ Below wr.heap.size wr w') := fun W hW => by
            rw [hr]
            exact (rless_any W ⟨xn, xv, xo, xi, xa, xb, xc, xk⟩ y).mono fun _ _ k => ⟨k.1, hW.trans (k.2.mono hW.size)⟩
          have HSTOP : Hid (r = false → ∀ W, Below wr.heap.size wr W → RsGo w l (.slice (some ⟨gg, 0, none⟩) n1 cap) (i + 1) W) := fun h0 W hW => HEND.out j W ⟨h1, h2, h3.keep2 hW, h4.trans (hW.mono h4.size)⟩ (.inr ⟨y, by rw [hj, Nat.add_sub_cancel, List.getElem?_eq_getElem hqM, hy], by rw [← hr]; exact h0⟩)
          have HGO : Hid (r = true → ∀ W, Below wr.heap.size wr W → RsIn w (.slice (some ⟨gg, 0, none⟩) n1 cap) M ⟨xn, xv, xo, xi, xa, xb, xc, xk⟩ q (putE (putE W gg (q * 8) ⟨xn, xv, xo, xi, xa, xb, xc, xk⟩) gg (j * 8) y).drew) := fun h0 W hW => by
            have h5 := (h3.keep2 hW).swap (g := gg) rfl hqK hjK
            rw [hgx, hgy, ← hy] at h5
            obtain ⟨h6, h7⟩ := h5
            refine ⟨by omega, fun m hm => ?_, ?_, (h4.trans (hW.mono h4.size)).trans h7⟩
            · rw [List.drop_eq_getElem_cons hqM] at hm
              rcases List.mem_cons.1 hm with rfl | hm
              · rw [← hy, ← hr]; exact h0
              · exact h2 m (by rw [hj]; exact hm)
            · have h8 := ins_swap (x := ⟨xn, xv, xo, xi, xa, xb, xc, xk⟩) hqM (by rw [← hj]; exact hqK) (by rw [← hj]; exact hjK)
              rw [← h8]
              subst hj
              exact h6
          have HC : Hid (∀ w, Below wr.heap.size wr w → (w.cell? ⟨gg, j * 8, none⟩ = some (.string xn) ∧ w.cell? ⟨gg, j * 8 + 1, none⟩ = some (.string xv) ∧ w.cell? ⟨gg, j * 8 + 2, none⟩ = some (.int .i64 xo) ∧ w.cell? ⟨gg, j * 8 + 3, none⟩ = some (.bool xi) ∧ w.cell? ⟨gg, j * 8 + 4, none⟩ = some (.int .i64 xa) ∧ w.cell? ⟨gg, j * 8 + 5, none⟩ = some (.int .i64 xb) ∧ w.cell? ⟨gg, j * 8 + 6, none⟩ = some (.int .i64 xc) ∧ w.cell? ⟨gg, j * 8 + 7, none⟩ = some (.int .i64 xk)) ∧ (w.cell? ⟨gg, q * 8, none⟩ = some (.string y.n) ∧ w.cell? ⟨gg, q * 8 + 1, none⟩ = some (.string y.v) ∧ w.cell? ⟨gg, q * 8 + 2, none⟩ = some (.int .i64 y.o) ∧ w.cell? ⟨gg, q * 8 + 3, none⟩ = some (.bool y.im) ∧ w.cell? ⟨gg, q * 8 + 4, none⟩ = some (.int .i64 y.a) ∧ w.cell? ⟨gg, q * 8 + 5, none⟩ = some (.int .i64 y.b) ∧ w.cell? ⟨gg, q * 8 + 6, none⟩ = some (.int .i64 y.c) ∧ w.cell? ⟨gg, q * 8 + 7, none⟩ = some (.int .i64 y.k))) := fun W hW => by
            have k1 := (h3.keep2 hW).at hjK
            have k2 := (h3.keep2 hW).at hqK
            obtain ⟨_, e1, _, _, m1⟩ := k1
            obtain ⟨_, e2, _, _, m2⟩ := k2
            cases e1
            cases e2
            rw [hgx] at m1
            rw [hgy, ← hy] at m2
            exact ⟨m1, m2⟩
          have HFZ : Hid (∀ W, Below wr.heap.size wr W → gg < W.heap.size ∧ ∀ o, W.frozen? ⟨gg, o, none⟩ = false) := fun W hW => by
            obtain ⟨_, e1, k1, k2, _⟩ := (h3.keep2 hW).at hjK
            cases e1
            exact ⟨k1, k2⟩
          have hjn : j < n1 := by rw [← hKl]; exact hjK
          have hqn : q < n1 := by omega
          have hqj : q ≠ j := by omega
          have hjn2 : (j : Int) < (n1 : Int) := by omega
          have hqn2 : (q : Int) < (n1 : Int) := by omega
          have hj0 : (0 : Int) ≤ (j : Int) := by omega
          have hq0 : (0 : Int) ≤ (q : Int) := by omega
          have hjp : decide ((0 : Int) < (j : Int)) = true := decide_eq_true (by omega)
          have hjp2 : (0 : Int) < (j : Int) := by omega
          have hjN : 0 < j := by omega
          have hjd : decide (0 < j) = true := decide_eq_true hjN
          have ej : ((j : Int) - 1) = (q : Int) := by omega
          have ew : IntKind.i64.wrap ((j : Int) - 1) = (q : Int) := by rw [IntKind.wrap_i64] <;> omega
          have ewq : IntKind.i64.wrap (q : Int) = (q : Int) := by rw [IntKind.wrap_i64] <;> omega
          have HQ1 : Hid (q ≤ i ∧ q < j) := ⟨by omega, by omega⟩
          obtain ⟨yn, yv, yo, yi, ya, yb, yc, yk⟩ := y
          unfold E8.val at HLS
          dsimp only at *
          clear h1 h2 h3 h4 hKl hjK hqK hlt hgx hgy hfz hgl hr hy hj hqM HEND HJ c0 c1 c2 c3 c4 c5 c6 c7 d0 d1 d2 d3 d4 d5 d6 d7
          have gd : Below wr.heap.size wr wr := Below.refl _ _
          have ge : Below wr.heap.size wr wr.drew := gd.drew
          go_upto_region 7 with (fail)
          go_region_held3 (fun w => (w.cell? ⟨gg, j * 8, none⟩ = some (.string xn) ∧ w.cell? ⟨gg, j * 8 + 1, none⟩ = some (.string xv) ∧ w.cell? ⟨gg, j * 8 + 2, none⟩ = some (.int .i64 xo) ∧ w.cell? ⟨gg, j * 8 + 3, none⟩ = some (.bool xi) ∧ w.cell? ⟨gg, j * 8 + 4, none⟩ = some (.int .i64 xa) ∧ w.cell? ⟨gg, j * 8 + 5, none⟩ = some (.int .i64 xb) ∧ w.cell? ⟨gg, j * 8 + 6, none⟩ = some (.int .i64 xc) ∧ w.cell? ⟨gg, j * 8 + 7, none⟩ = some (.int .i64 xk)) ∧ (w.cell? ⟨gg, q * 8, none⟩ = some (.string yn) ∧ w.cell? ⟨gg, q * 8 + 1, none⟩ = some (.string yv) ∧ w.cell? ⟨gg, q * 8 + 2, none⟩ = some (.int .i64 yo) ∧ w.cell? ⟨gg, q * 8 + 3, none⟩ = some (.bool yi) ∧ w.cell? ⟨gg, q * 8 + 4, none⟩ = some (.int .i64 ya) ∧ w.cell? ⟨gg, q * 8 + 5, none⟩ = some (.int .i64 yb) ∧ w.cell? ⟨gg, q * 8 + 6, none⟩ = some (.int .i64 yc) ∧ w.cell? ⟨gg, q * 8 + 7, none⟩ = some (.int .i64 yk)))
            (first | with_reducible exact HC.out _ gd | with_reducible exact HC.out _ ge | with_reducible exact HC.out _ ga)
            (first
              | (go_at_call 13; with_reducible refine (HLS.out _ ge).mono ?_; rintro e w6 ⟨rfl, ga⟩))
          cases r
          · have HE := hid_mk (HSTOP.out rfl w6 ga)
            clear gd ge ga HC HLS HSTOP HGO HFZ
            go_wp2
            refine ⟨⟨i + 1, by omega, by simp, HE.out⟩, ?_⟩
            simp only [intOf]
            omega
          · obtain ⟨⟨c0, c1, c2, c3, c4, c5, c6, c7⟩, d0, d1, d2, d3, d4, d5, d6, d7⟩ := HC.out w6 ga
            obtain ⟨hgl, hfz⟩ := HFZ.out w6 ga
            obtain ⟨W2, hW2⟩ : ∃ W2, W2 = (putE (putE w6 gg (q * 8) ⟨xn, xv, xo, xi, xa, xb, xc, xk⟩) gg (j * 8) ⟨yn, yv, yo, yi, ya, yb, yc, yk⟩).drew := ⟨_, rfl⟩
            have HE : Hid (RsIn w (.slice (some ⟨gg, 0, none⟩) n1 cap) M ⟨xn, xv, xo, xi, xa, xb, xc, xk⟩ q W2) := by rw [hW2]; exact HGO.out rfl w6 ga
            unfold putE at hW2
            dsimp only at hW2
            have HW2 := hid_mk hW2
            clear gd ge ga HC HLS HSTOP HGO HFZ hW2
            go_upto_region 9 with (fail)
            go_region
            rw [← HW2.out]
            clear HW2 hfz c0 c1 c2 c3 c4 c5 c6 c7 d0 d1 d2 d3 d4 d5 d6 d7
            go_wp2
            refine ⟨⟨q, HQ1.out.1, rfl, HE.out⟩, ?_⟩
            have := HQ1.out.2
            simp only [intOf]
            omega
    · have hd : decide ((i : Int) < (n : Int)) = false := decide_eq_false (by omega)
      have hin : i = n := by omega
      subst hin
      have HE : Hid ((∃ s : List E8, s.length = i ∧ EP wr w.heap.size u3 s ∧ Fall (tagF l 0) s.reverse) ∧ Below w.heap.size w wr) := by
        obtain ⟨M, hMl, hF, hE, hB⟩ := HJ.out
        rw [HN.out, List.take_length] at hF
        exact ⟨⟨M, hMl, hE, hF⟩, hB⟩
      clear HJ
      go_wp2
      go_ret
      obtain ⟨⟨s, h1, h2, h3⟩, hB⟩ := HE.out
      exact ⟨⟨_, s, rfl, h1, h2, h3⟩, hB⟩
end Go.Proofs.Ytmpppijgjbfolaa.C
