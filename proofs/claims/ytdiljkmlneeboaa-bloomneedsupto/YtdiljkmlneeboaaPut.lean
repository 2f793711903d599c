/- The document's put. -/
import Derived.Test.YtdiljkmlneeboaaSkp
namespace Go.Proofs.Ytdiljkmlneeboaa
open Go.RowKit
set_option maxRecDepth 100000

def keysV (l : List Nat) : List Value := l.map fun (k : Nat) => .int .u32 (k : Int)
/-- A row of keys of one's own. -/
def OwnK (w : World) (B : Nat) (v : Value) (l : List Nat) : Prop := w.ownsRow B 25 1 v l.length (keysV l)
theorem OwnK.keep {w w' : World} {B : Nat} {v : Value} {l : List Nat} (h : OwnK w B v l) (hb : Below w.heap.size w w') : OwnK w' B v l := by
  obtain ⟨h1, h2⟩ := h
  refine ⟨h1, h2.imp id fun ⟨g, cap, cur, a, b, c, d⟩ => ⟨g, cap, cur, a, b, (hb.block _ (Array.getElem?_eq_some_iff.1 c).1).trans c, d⟩⟩
theorem OwnK.nil (w : World) (B : Nat) : OwnK w B (.slice none 0 0) [] := ⟨rfl, .inl ⟨rfl, rfl⟩⟩
theorem OwnK.at {w : World} {B : Nat} {v : Value} {l : List Nat} (h : OwnK w B v l) : ∃ a c, v = .slice a l.length c ∧ l.length ≤ c ∧ c ≤ 9223372036854775807 ∧ ∀ t (ht : t < l.length), ∃ g, a = some ⟨g, 0, none⟩ ∧ g < w.heap.size ∧ w.cell? ⟨g, t, none⟩ = some (.int .u32 ((l[t]'ht : Nat) : Int)) := by
  have h0 := h
  rcases h.2 with ⟨rfl, hn⟩ | ⟨g, cap, cur, rfl, _, hg, hnc, hcm, _⟩
  · exact ⟨none, 0, by rw [hn], by omega, by decide, fun t ht => absurd ht (by omega)⟩
  · refine ⟨_, cap, rfl, hnc, hcm, fun t ht => ⟨g, rfl, (Array.getElem?_eq_some_iff.1 hg).1, ?_⟩⟩
    rw [World.ownsRow.cellAt h0 t (by omega)]
    simp [keysV, ht]
/-- One more, in a walk. -/
theorem own_more {w2 : World} {B : Nat} {v' : Value} {l : List Nat} {k : Nat} (ho : w2.ownsRow B 25 1 v' (l.length + 1) (keysV l ++ [.int .u32 (k : Int)])) : OwnK w2 B v' (l ++ [k]) := by
  unfold OwnK
  rw [List.length_append, List.length_singleton]
  have e : keysV (l ++ [k]) = keysV l ++ [.int .u32 (k : Int)] := by simp [keysV]
  rw [e]
  exact ho
theorem grown_below {w w1 w2 : World} {B : Nat} {v : Value} {l : List Nat} (h : OwnK w1 B v l) (hg : w1.grownBy w2 v.ownBlock) (hB : Below B w w1) (hBs : B ≤ w.heap.size) : Below B w w2 := by
  refine ⟨hg.os.trans hB.os, hg.tape.trans hB.tape, hg.output.trans hB.output, Nat.le_trans hB.size hg.size, fun k hk => ?_⟩
  have h4 := hB.size
  rw [hg.block k (by omega) (fun e => by have := (h.lt k e.symm).1; omega)]
  exact hB.block k hk
theorem one_cell (w : World) (k : Nat) : ∀ (j : Nat) u, [Value.int .u32 ((k : Nat) : Int)][j]? = some u → (w.alloc (.cells #[.int .u32 (k : Int)] 25)).cell? (Addr.add ⟨w.heap.size, 0, none⟩ j) = some u := fun j u hu => by
  have hj : j = 0 := by
    have := (List.getElem?_eq_some_iff.1 hu).1
    simp at this
    exact this
  subst hj
  rw [← hu]
  show World.cell? _ ⟨w.heap.size, 0 + 0, none⟩ = _
  rw [cellAt (heap_alloc_last w _)]
  rfl
/-- What is told so far, and whether the new one is among it. -/
def stepP (k : Nat) (s : List Nat × Bool) (x : Nat) : List Nat × Bool :=
  let o1 := if k ≤ x ∧ s.2 = false then s.1 ++ [k] else s.1
  let d1 := if k ≤ x ∧ s.2 = false then true else s.2
  (if x = k then o1 else o1 ++ [x], d1)
def putS (k : Nat) (l : List Nat) : List Nat × Bool := l.foldl (stepP k) ([], false)
def putL (l : List Nat) (k : Nat) : List Nat := if (putS k l).2 then (putS k l).1 else (putS k l).1 ++ [k]
theorem putS_succ {k : Nat} {l : List Nat} {t : Nat} (h : t < l.length) : putS k (l.take (t + 1)) = stepP k (putS k (l.take t)) l[t] := foldl_take (stepP k) (List.getElem?_eq_getElem h)
theorem putS_len (k : Nat) : ∀ (l : List Nat) (s : List Nat × Bool), (l.foldl (stepP k) s).1.length ≤ s.1.length + 2 * l.length
  | [], s => Nat.le_refl _
  | x :: l, s => by
    have h := putS_len k l (stepP k s x)
    rw [List.foldl_cons]
    have h2 : (stepP k s x).1.length ≤ s.1.length + 2 := by
      unfold stepP
      dsimp only
      split <;> split <;> simp
    rw [List.length_cons]
    omega

set_option maxHeartbeats 4000000 in
theorem rput_any {w : World} {B : Nat} {v : Value} {l : List Nat} (h : OwnK w B v l) (hl : l.length ≤ 1000000) (k : Nat) : Calls Try.prog 25 #[v, .int .u32 (k : Int)] w fun e w' => ∃ v', e = .returned v' ∧ OwnK w' w.heap.size v' (putL l k) ∧ Below w.heap.size w w' := by
  obtain ⟨i0, z0, hi, hz0, hz1, hz2, hz3⟩ := info25
  have HC : Hid (∀ w', Below w.heap.size w w' → ∀ t (ht : t < l.length), ∃ g, (∃ a c, v = .slice a l.length c ∧ a = some ⟨g, 0, none⟩) ∧ w'.cell? ⟨g, t, none⟩ = some (.int .u32 ((l[t]'ht : Nat) : Int))) := fun w' hw' t ht => by
    obtain ⟨a, c, e, _, _, hc⟩ := (h.keep hw').at
    obtain ⟨g, e2, _, hcell⟩ := hc t ht
    exact ⟨g, ⟨a, c, e, e2⟩, hcell⟩
  obtain ⟨a, c, rfl, hlc, hcm, _⟩ := h.at
  have HLEN : Hid (∀ t, (putS k (l.take t)).1.length ≤ 2 * l.length) := fun t => by
    have h1 := putS_len k (l.take t) ([], false)
    have h2 : (l.take t).length ≤ l.length := by rw [List.length_take]; omega
    unfold putS
    simp only [List.length_nil] at h1
    omega
  have HB0 := hid_mk (Below.refl w.heap.size w)
  clear h
  go_enter Try.func25, Try.ntmps25
  go_wp2
  go_loopw [5, 6, 11] (fun a5 a6 a11 wq => ∃ t : Nat, t ≤ l.length ∧ a11 = .int .i64 (t : Int) ∧ a6 = .bool (putS k (l.take t)).2 ∧ Hid (OwnK wq w.heap.size a5 (putS k (l.take t)).1) ∧ Hid (Below w.heap.size w wq)) (fun _ _ a11 _ => l.length + 1 - (intOf a11).toNat)
  case atStart => exact ⟨0, Nat.zero_le _, rfl, rfl, OwnK.nil _ _, HB0⟩
  case round =>
    obtain ⟨t, ht, rfl, rfl, HO, HB⟩ := hrel
    by_cases htl : t < l.length
    · obtain ⟨g, ⟨_, _, e1, e2⟩, q1⟩ := HC.out wr HB.out t htl
      cases e1
      subst e2
      have HPS := hid_mk (putS_succ (k := k) htl)
      have hln := HLEN.out t
      generalize putS k (l.take t) = S at *
      obtain ⟨o, d⟩ := S
      generalize l[t] = x at *
      dsimp only at HO hln ⊢
      obtain ⟨o1, ho1⟩ : ∃ o1, o1 = if k ≤ x ∧ d = false then o ++ [k] else o := ⟨_, rfl⟩
      obtain ⟨d1, hd1⟩ : ∃ d1, d1 = if k ≤ x ∧ d = false then true else d := ⟨_, rfl⟩
      have HST : Hid (stepP k (o, d) x = (if x = k then o1 else o1 ++ [x], d1)) := by rw [Hid, ho1, hd1]; rfl
      have hl1 : o1.length ≤ 2000001 := by
        rw [ho1]
        split
        · rw [List.length_append, List.length_singleton]; omega
        · omega
      have HO1 := hid_mk ho1
      have HD1 := hid_mk hd1
      have HI := hid_mk hi
      clear ho1 hd1 hi
      go_upto_region 6 with (fail)
      go_cut [21] (fun s21 wx => s21 = .bool (decide (k ≤ x ∧ d = false)) ∧ wx = wr)
      case first =>
        by_cases hkx : k ≤ x
        · have g1 : decide ((k : Int) ≤ (x : Int)) = true := decide_eq_true (by omega)
          have g2 : decide (k ≤ x) = true := decide_eq_true hkx
          cases d with
          | false =>
            have HDE : Hid (decide (k ≤ x ∧ false = false) = true) := decide_eq_true ⟨hkx, rfl⟩
            clear hkx
            go_wp2_with fail
            go_meet
            exact ⟨by rw [HDE.out], rfl⟩
          | true =>
            have HDE : Hid (decide (k ≤ x ∧ true = false) = false) := decide_eq_false fun h => by cases h.2
            clear hkx
            go_wp2_with fail
            go_meet
            exact ⟨by rw [HDE.out], rfl⟩
        · have g1 : decide ((k : Int) ≤ (x : Int)) = false := decide_eq_false (by omega)
          have g2 : decide (k ≤ x) = false := decide_eq_false hkx
          have HDE : Hid (decide (k ≤ x ∧ d = false) = false) := decide_eq_false fun h => hkx h.1
          clear hkx
          go_wp2_with fail
          go_meet
          exact ⟨by rw [HDE.out], rfl⟩
      case rest =>
      obtain ⟨rfl, hwc⟩ := hcut
      rw [hwc]
      clear hwc q1
      go_upto_if 21 with (fail)
      go_cut [5, 6] (fun s5 s6 wx => s6 = .bool d1 ∧ Hid (OwnK wx w.heap.size s5 o1) ∧ Hid (Below w.heap.size w wx))
      case first =>
        by_cases hkx : k ≤ x ∧ d = false
        · have e1 : decide (k ≤ x ∧ d = false) = true := decide_eq_true hkx
          rw [e1]
          have HE1 : Hid (o1 = o ++ [k]) := by rw [Hid, HO1.out, if_pos hkx]
          have HE2 : Hid (d1 = true) := by rw [Hid, HD1.out, if_pos hkx]
          have hown : (wr.alloc (.cells #[.int .u32 (k : Int)] 25)).ownsRow w.heap.size 25 1 u5 o.length (keysV o) := (HO.out.keep ((Below.refl _ _).alloc (Nat.le_refl _) _) : OwnK _ _ _ _)
          have hbs : w.heap.size ≤ (wr.alloc (.cells #[.int .u32 (k : Int)] 25)).heap.size := by have := HB.out.size; simp; omega
          clear hkx e1
          go_wp2_with (at_builtin; with_reducible refine wpList_append_own _ rfl _ _ 40 rfl w.heap.size 25 i0 z0 1 4 Try.underlying40 HI.out hz0 hz1 hz2 hz3 (by decide) u5 o.length (keysV o) rfl hown ⟨wr.heap.size, 0, none⟩ 1 1 [.int .u32 ((k : Nat) : Int)] rfl rfl (one_cell wr k) ?c1 ?c2 ?c3 ?c4 ?_)
          case c1 => intro u hu; rw [List.mem_singleton.1 hu]; rfl
          case c2 => unfold maxLen; omega
          case c3 => omega
          case c4 => exact hbs
          intro v' w2 ho2 hg _
          have HO2 : Hid (OwnK w2 w.heap.size v' o1) := by rw [Hid, HE1.out]; exact own_more ho2
          have HB2 : Hid (Below w.heap.size w w2) := grown_below (w1 := wr.alloc (.cells #[.int .u32 (k : Int)] 25)) hown hg (HB.out.alloc HB.out.size _) (Nat.le_refl _)
          clear ho2 hg hown hbs
          go_wp2_with fail
          go_meet
          exact ⟨by rw [HE2.out], HO2, HB2⟩
        · have e1 : decide (k ≤ x ∧ d = false) = false := decide_eq_false hkx
          rw [e1]
          have HE1 : Hid (o1 = o) := by rw [Hid, HO1.out, if_neg hkx]
          have HE2 : Hid (d1 = d) := by rw [Hid, HD1.out, if_neg hkx]
          clear hkx e1
          go_wp2_with fail
          go_meet
          exact ⟨by rw [HE2.out], by rw [HE1.out]; exact HO, HB⟩
      case rest =>
      obtain ⟨rfl, HO2, HB2⟩ := hcut
      clear HO HB HO1 HD1
      by_cases hxk : x = k
      · have g1 : ((x : Int) != (k : Int)) = false := by simp [hxk]
        have g2 : (x != k) = false := by simp [hxk]
        have HE : Hid (putS k (l.take (t + 1)) = (o1, d1)) := by rw [Hid, HPS.out, HST.out, if_pos hxk]
        clear hxk HPS HST HC HLEN
        go_wp2
        exact ⟨⟨t + 1, htl, by go_num, by rw [HE.out], by rw [HE.out]; exact HO2, HB2⟩, by simp only [intOf]; omega⟩
      · have g1 : ((x : Int) != (k : Int)) = true := bne_iff_ne.2 (by omega)
        have g2 : (x != k) = true := bne_iff_ne.2 hxk
        have HE : Hid (putS k (l.take (t + 1)) = (o1 ++ [x], d1)) := by rw [Hid, HPS.out, HST.out, if_neg hxk]
        clear hxk HPS HST HC HLEN
        have hown : (wc.alloc (.cells #[.int .u32 (x : Int)] 25)).ownsRow w.heap.size 25 1 u5 o1.length (keysV o1) := (HO2.out.keep ((Below.refl _ _).alloc (Nat.le_refl _) _) : OwnK _ _ _ _)
        have hbs : w.heap.size ≤ (wc.alloc (.cells #[.int .u32 (x : Int)] 25)).heap.size := by have := HB2.out.size; simp; omega
        go_wp2_with (at_builtin; with_reducible refine wpList_append_own _ rfl _ _ 40 rfl w.heap.size 25 i0 z0 1 4 Try.underlying40 HI.out hz0 hz1 hz2 hz3 (by decide) u5 o1.length (keysV o1) rfl hown ⟨wc.heap.size, 0, none⟩ 1 1 [.int .u32 ((x : Nat) : Int)] rfl rfl (one_cell wc x) ?c1 ?c2 ?c3 ?c4 ?_)
        case c1 => intro u hu; rw [List.mem_singleton.1 hu]; rfl
        case c2 => unfold maxLen; omega
        case c3 => omega
        case c4 => exact hbs
        intro v' w2 ho2 hg _
        have HO3 : Hid (OwnK w2 w.heap.size v' (o1 ++ [x])) := own_more ho2
        have HB3 : Hid (Below w.heap.size w w2) := grown_below (w1 := wc.alloc (.cells #[.int .u32 (x : Int)] 25)) hown hg (HB2.out.alloc HB2.out.size _) (Nat.le_refl _)
        clear ho2 hg hown hbs
        go_wp2
        exact ⟨⟨t + 1, htl, by go_num, by rw [HE.out], by rw [HE.out]; exact HO3, HB3⟩, by simp only [intOf]; omega⟩
    · have et : t = l.length := by omega
      subst et
      rw [List.take_length] at *
      have hln := HLEN.out l.length
      rw [List.take_length] at hln
      have HP : Hid (putL l k = if (putS k l).2 then (putS k l).1 else (putS k l).1 ++ [k]) := rfl
      have HI := hid_mk hi
      clear HC HLEN hi
      generalize putS k l = S at *
      obtain ⟨o, d⟩ := S
      dsimp only at HO hln HP ⊢
      cases d with
      | true =>
        have HE : Hid (putL l k = o) := HP.out
        clear HP
        go_wp2
        go_ret
        exact ⟨_, rfl, by rw [HE.out]; exact HO.out, HB.out⟩
      | false =>
        have HE : Hid (putL l k = o ++ [k]) := HP.out
        clear HP
        have hown : (wr.alloc (.cells #[.int .u32 (k : Int)] 25)).ownsRow w.heap.size 25 1 u5 o.length (keysV o) := (HO.out.keep ((Below.refl _ _).alloc (Nat.le_refl _) _) : OwnK _ _ _ _)
        have hbs : w.heap.size ≤ (wr.alloc (.cells #[.int .u32 (k : Int)] 25)).heap.size := by have := HB.out.size; simp; omega
        go_wp2_with (at_builtin; with_reducible refine wpList_append_own _ rfl _ _ 40 rfl w.heap.size 25 i0 z0 1 4 Try.underlying40 HI.out hz0 hz1 hz2 hz3 (by decide) u5 o.length (keysV o) rfl hown ⟨wr.heap.size, 0, none⟩ 1 1 [.int .u32 ((k : Nat) : Int)] rfl rfl (one_cell wr k) ?c1 ?c2 ?c3 ?c4 ?_)
        case c1 => intro u hu; rw [List.mem_singleton.1 hu]; rfl
        case c2 => unfold maxLen; omega
        case c3 => omega
        case c4 => exact hbs
        intro v' w2 ho2 hg _
        have HO3 : Hid (OwnK w2 w.heap.size v' (o ++ [k])) := own_more ho2
        have HB3 : Hid (Below w.heap.size w w2) := grown_below (w1 := wr.alloc (.cells #[.int .u32 (k : Int)] 25)) hown hg (HB.out.alloc HB.out.size _) (Nat.le_refl _)
        clear ho2 hg hown hbs
        go_wp2
        go_ret
        exact ⟨_, rfl, by rw [HE.out]; exact HO3.out, HB3.out⟩
end Go.Proofs.Ytdiljkmlneeboaa
