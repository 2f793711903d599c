/- copied: an entry with a list of its own. -/
import Derived.Test.YtdgbebgjenfmbaaMFn
namespace Go.Proofs.Ytdgbebgjenfmbaa.M
open Go.RowKit
set_option maxRecDepth 100000

theorem own_nil (W : World) (B : Nat) : StO B W (.slice none 0 0) [] := ⟨by simp, .inl ⟨rfl, rfl⟩⟩
theorem StO.form {B : Nat} {w : World} {v : Value} {l : List ByteArray} (h : StO B w v l) : ∃ a c, v = .slice a l.length c := by
  rcases h.2 with ⟨rfl, h0⟩ | ⟨g, cap, cur, rfl, _⟩
  · exact ⟨none, 0, by rw [h0]⟩
  · exact ⟨_, _, rfl⟩
theorem run_append_s (w : World) (ty : TypeId) {P : Nat → Prop} {sv : Value} {l : List ByteArray} (hS : SsAt P w sv l) (hl : l.length ≤ 8796093021952) :
    ∃ v' w', (Builtin.append_ #[29, 29] ty #[.slice none 0 0, sv]).run Try.prog w = .ok v' w' ∧ StO w.heap.size w' v' l ∧ Below w.heap.size w w' := by
  obtain ⟨i0, hi0, hz0, hz1, hz2⟩ := info_parts (P := Try.prog) (e := 9) (z := .string .empty) (size := 1) (bytes := 16) (by kernel_rfl)
  have hu : Try.prog.underlying 29 = some (.slice 9) := by kernel_rfl
  obtain ⟨pa, c, g, o, rfl, h2, h3, h4, h5⟩ := hS
  have go : ∀ (ad : Addr) (hc : ∀ (j : Nat) (y : Value), (l.map Value.string)[j]? = some y → w.cell? (ad.add j) = some y), ∃ v' w', (Builtin.append_ #[29, 29] ty #[.slice none 0 0, .slice (some ad) l.length c]).run Try.prog w = .ok v' w' ∧ StO w.heap.size w' v' l ∧ Below w.heap.size w w' := fun ad hc => by
    obtain ⟨v', w', hr, r2, r3, _, _⟩ := run_append_own_at (P := Try.prog) w w.heap.size 29 ty 9 i0 _ 1 16 hu hi0 hz0 hz1 hz2 rfl (by decide) (.slice none 0 0) 0 [] (own_nil w _) ad l.length c (l.map Value.string) (by simp) hc (fun u hu => by obtain ⟨s, _, rfl⟩ := List.mem_map.1 hu; rfl) (by unfold maxLen; omega) (by omega) (Nat.le_refl _)
    refine ⟨v', w', hr, ?_, (Below.refl _ w).grown r3 (Nat.le_refl _) (fun k hk => by simp [Value.ownBlock] at hk)⟩
    rw [Nat.zero_add, List.nil_append] at r2
    exact r2
  by_cases h0 : 0 < l.length
  · obtain ⟨rfl, hg, _⟩ := h4 h0
    refine go _ fun j y hj => ?_
    rw [List.getElem?_map] at hj
    cases hq : l[j]? with
    | none => rw [hq] at hj; cases hj
    | some s =>
      rw [hq] at hj
      injection hj with hj
      subst hj
      rw [Addr.add_mid]
      exact h5 j s hq
  · have hl0 : l = [] := List.length_eq_zero_iff.1 (by omega)
    subst hl0
    cases pa with
    | none => exact ⟨_, w, run_append_none w ty c, own_nil w _, Below.refl _ w⟩
    | some ad => exact go ad fun j y hj => by simp at hj
theorem step_append_s {ops : Array Oper} {o : Oper} {a : Act} {K : Act → World → Prop} {Q : Exit → Act → World → Prop} {E : Prop} {w : World} (hgd : o.guard = none) (s x : Operand) (ho : o.op = .call { callee := .builtin .append, args := #[s, x], argTypes := #[29, 29] })
    {P : Nat → Prop} {sv : Value} {l : List ByteArray} (hs : a.eval s = .slice none 0 0) (hx : a.eval x = sv) (hS : SsAt P w sv l) (hl : l.length ≤ 8796093021952)
    (h : ∀ v' w', StO w.heap.size w' v' l → Below w.heap.size w w' → K (a.put o.dst v') w') : if Region.wanted o (yielded ops a.tmps) = true then Oper.wp Try.prog o a w K Q else E := by
  have hw : Region.wanted o (yielded ops a.tmps) = true := by simp [Region.wanted, hgd]
  rw [if_pos hw]
  obtain ⟨v', w', hr, h1, h2⟩ := run_append_s w o.type hS hl
  unfold Oper.wp execOp
  simp only [ho, resolve, invoke, builtin, Sem.run_bind, Sem.run_pure, Result.andThen_ok, List.map_toArray, List.map_cons, List.map_nil, hs, hx, hr]
  exact h v' w' h1 h2
theorem set3 {w : World} {b : Nat} {u0 u1 u2 : Value} (h0 : w.cell? ⟨b, 0, none⟩ = some u0) (h1 : w.cell? ⟨b, 1, none⟩ = some u1) (h2 : w.cell? ⟨b, 2, none⟩ = some u2) (v0 v1 v2 : Value) :
    (((w.setCell ⟨b, 0, none⟩ v0).setCell ⟨b, 1, none⟩ v1).setCell ⟨b, 2, none⟩ v2).cell? ⟨b, 0, none⟩ = some v0 ∧ (((w.setCell ⟨b, 0, none⟩ v0).setCell ⟨b, 1, none⟩ v1).setCell ⟨b, 2, none⟩ v2).cell? ⟨b, 1, none⟩ = some v1 ∧ (((w.setCell ⟨b, 0, none⟩ v0).setCell ⟨b, 1, none⟩ v1).setCell ⟨b, 2, none⟩ v2).cell? ⟨b, 2, none⟩ = some v2 := by
  refine ⟨?_, ?_, ?_⟩ <;> simp [go_sem, h0, h1, h2]
set_option maxHeartbeats 2000000 in
theorem copied_any {P : Nat → Prop} {w : World} {g : Nat} {x : En} (h : EnAt P w g x) (hl : x.l.length ≤ 8796093021952) : Calls Try.prog 37 #[.pointer (some ⟨g, 0, none⟩)] w fun r w' => ∃ v, r = .returned (.agg #[.int .i64 x.e, .int .i64 x.d, v]) ∧ StO w.heap.size w' v x.l ∧ Below w.heap.size w w' := by
  obtain ⟨xe, xd, xl⟩ := x
  have hl : xl.length ≤ 8796093021952 := hl
  show Calls Try.prog 37 #[.pointer (some ⟨g, 0, none⟩)] w fun r w' => ∃ v, r = .returned (.agg #[.int .i64 xe, .int .i64 xd, v]) ∧ StO w.heap.size w' v xl ∧ Below w.heap.size w w'
  have HE := hid_mk h
  have hgl := h.lt
  have HC : Hid (∀ w', Below w.heap.size w w' → ∃ sv, w'.cell? ⟨g, 0, none⟩ = some (.int .i64 xe) ∧ w'.cell? ⟨g, 1, none⟩ = some (.int .i64 xd) ∧ w'.cell? ⟨g, 2, none⟩ = some sv ∧ w.cell? ⟨g, 2, none⟩ = some sv ∧ SsAt P w' sv xl) := fun w' hb => by
    obtain ⟨_, sv', hg', hS⟩ := HE.out.keep (Kb.of_below hb)
    obtain ⟨_, sv, hg, _⟩ := HE.out
    have e1 := (hb.block g hgl).symm.trans hg'
    rw [hg] at e1
    cases e1
    exact ⟨sv', by simp [World.cell?, hg'], by simp [World.cell?, hg'], by simp [World.cell?, hg'], by simp [World.cell?, hg], hS⟩
  clear h
  obtain ⟨sv, _, _, _, hsv, _⟩ := HC.out w (Below.refl _ w)
  go_enter Try.func37, Try.ntmps37
  go_wp2
  go_upto_region 1 with fail
  obtain ⟨wx, hwx⟩ : ∃ wx, wx = w.alloc (.cells #[.int .i64 0, .int .i64 0, .slice none 0 0] 31) := ⟨_, rfl⟩
  have HBX : Hid (Below w.heap.size w wx) := by rw [hwx]; exact (Below.refl _ w).alloc (Nat.le_refl _) _
  have hbx : wx.heap[w.heap.size]? = some (.cells #[.int .i64 0, .int .i64 0, .slice none 0 0] 31 (0, 0)) := by rw [hwx]; exact heap_alloc_last w _
  have hsx : wx.heap.size = w.heap.size + 1 := by rw [hwx]; exact World.size_alloc _ _
  rw [← hwx]
  clear hwx
  obtain ⟨sv', c0, c1, c2, e2, hS⟩ := HC.out wx HBX.out
  rw [hsv] at e2
  injection e2 with e2
  subst e2
  have HS : Hid (SsAt P wx.drew sv xl) := hS
  have HD : Hid (∀ w' v', Below wx.drew.heap.size wx.drew w' → StO wx.drew.heap.size w' v' xl → w'.cell? ⟨g, 0, none⟩ = some (.int .i64 xe) ∧ w'.cell? ⟨g, 1, none⟩ = some (.int .i64 xd) ∧ w'.cell? ⟨w.heap.size, 0, none⟩ = some (.int .i64 0) ∧ w'.cell? ⟨w.heap.size, 1, none⟩ = some (.int .i64 0) ∧ w'.cell? ⟨w.heap.size, 2, none⟩ = some (.slice none 0 0) ∧ w'.frozen? ⟨w.heap.size, 0, none⟩ = false ∧ w'.frozen? ⟨w.heap.size, 1, none⟩ = false ∧ w'.frozen? ⟨w.heap.size, 2, none⟩ = false) := fun w' v' hb hs => by
    have hb1 : Below w.heap.size w w' := HBX.out.drew.trans (hb.mono (by show w.heap.size ≤ wx.heap.size; omega))
    obtain ⟨_, q0, q1, _⟩ := HC.out w' hb1
    have hq : w'.heap[w.heap.size]? = some (.cells #[.int .i64 0, .int .i64 0, .slice none 0 0] 31 (0, 0)) := (hb.block w.heap.size (by show w.heap.size < wx.heap.size; omega)).trans hbx
    exact ⟨q0, q1, by simp [World.cell?, hq], by simp [World.cell?, hq], by simp [World.cell?, hq], by simp [World.frozen?, hq], by simp [World.frozen?, hq], by simp [World.frozen?, hq]⟩
  have HF : Hid (∀ w' pa pc, Below wx.drew.heap.size wx.drew w' → StO wx.drew.heap.size w' (.slice pa xl.length pc) xl → StO w.heap.size (((w'.setCell ⟨w.heap.size, 0, none⟩ (.int .i64 xe)).setCell ⟨w.heap.size, 1, none⟩ (.int .i64 xd)).setCell ⟨w.heap.size, 2, none⟩ (.slice pa xl.length pc)) (.slice pa xl.length pc) xl ∧ Below w.heap.size w (((w'.setCell ⟨w.heap.size, 0, none⟩ (.int .i64 xe)).setCell ⟨w.heap.size, 1, none⟩ (.int .i64 xd)).setCell ⟨w.heap.size, 2, none⟩ (.slice pa xl.length pc))) := fun w' pa pc hb hs => by
    have hb1 : Below w.heap.size w w' := HBX.out.drew.trans (hb.mono (by show w.heap.size ≤ wx.heap.size; omega))
    have hd : wx.drew.heap.size = w.heap.size + 1 := hsx
    rw [hd] at hs
    refine ⟨(hs.keep fun q hq hq2 => ?_).mono (by omega), ((hb1.setCell (p := ⟨w.heap.size, 0, none⟩) (Nat.le_refl _) _).setCell (p := ⟨w.heap.size, 1, none⟩) (Nat.le_refl _) _).setCell (p := ⟨w.heap.size, 2, none⟩) (Nat.le_refl _) _⟩
    rw [Below.heap_setCell _ ⟨w.heap.size, 2, none⟩ _ q (by show q ≠ w.heap.size; omega), Below.heap_setCell _ ⟨w.heap.size, 1, none⟩ _ q (by show q ≠ w.heap.size; omega), Below.heap_setCell _ ⟨w.heap.size, 0, none⟩ _ q (by show q ≠ w.heap.size; omega)]
  clear hS hsv
  go_region_law (refine step_append_s rfl _ _ rfl rfl rfl HS.out hl ?_; intro v' w' hst hb; obtain ⟨pa, pc, rfl⟩ := hst.form; obtain ⟨q0, q1, q2, q3, q4, q5, q6, q7⟩ := HD.out w' _ hb hst; have HST := hid_mk hst; have HBW := hid_mk hb; clear hst hb)
  all_goals
    have HFF := hid_mk (HF.out w' pa pc HBW.out HST.out)
    obtain ⟨W6, hW6⟩ : ∃ W6, W6 = ((w'.setCell ⟨w.heap.size, 0, none⟩ (.int .i64 xe)).setCell ⟨w.heap.size, 1, none⟩ (.int .i64 xd)).setCell ⟨w.heap.size, 2, none⟩ (.slice pa xl.length pc) := ⟨_, rfl⟩
    obtain ⟨k0, k1, k2⟩ := set3 q2 q3 q4 (.int .i64 xe) (.int .i64 xd) (.slice pa xl.length pc)
    rw [← hW6] at HFF k0 k1 k2 ⊢
    clear HBW HST HF HD HC hW6 q0 q1 q2 q3 q4 q5 q6 q7 HBX HE hbx c0 c1 c2
    go_wp2
    exact bodyPost_ret (v := .agg #[.int .i64 xe, .int .i64 xd, .slice pa xl.length pc]) (by simp [results, Try.results37, go_sem, k0, k1, k2]) rfl ⟨_, rfl, HFF.out⟩
end Go.Proofs.Ytdgbebgjenfmbaa.M
