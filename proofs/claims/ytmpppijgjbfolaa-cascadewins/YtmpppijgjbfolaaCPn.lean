/- plain; the document's Same. -/
import Derived.Test.YtmpppijgjbfolaaCOm
namespace Go.Proofs.Ytmpppijgjbfolaa.C
open Go.RowKit
set_option maxRecDepth 100000

theorem Try.info29s : (Try.prog.info? 29).map (fun i => (i.zero, i.size, i.bytes)) = some (some (.agg #[.string ⟨#[]⟩, .string ⟨#[]⟩, .int .i64 0, .bool false, .int .i64 0, .int .i64 0, .int .i64 0, .int .i64 0]), 8, 80) := by kernel_rfl
/-- A row of the document's entries, of one's own. -/
def EP (w : World) (B : Nat) (v : Value) (l : List E8) : Prop := w.ownsRow B 29 8 v l.length (l.flatMap c8)
theorem EP.es {w : World} {B : Nat} {v : Value} {l : List E8} (h : EP w B v l) : ∃ a c, v = .slice a l.length c ∧ EsAt w a c l := by
  obtain ⟨a, c, rfl, hr, _⟩ := RowAt.of_owns h (flat8_one l)
  exact ⟨a, c, rfl, EsAt.of hr⟩
def PlGo (w : World) (l : List E8) (v : Value) (i : Nat) (wr : World) : Prop := EP wr w.heap.size v (l.take i) ∧ Below w.heap.size w wr
theorem two_news (w : World) (o1 o2 : Obj) : ((w.alloc o1).alloc o2).heap[w.heap.size + 1]? = some o2 := by
  have := heap_alloc_last (w.alloc o1) o2
  rwa [World.size_alloc] at this

theorem below_drewN {n0 : Nat} {a b : World} (h : Below n0 a b) (n : Nat) : Below n0 a (b.drewN n) := ⟨h.os, h.tape, h.output, h.size, h.block⟩
set_option maxHeartbeats 4000000 in
theorem plain_any {w : World} {a : Option Addr} {c : Nat} {l : List E8} (h : EsAt w a c l) (hL : l.length ≤ 900000) : Calls Try.prog 15 #[.slice a l.length c] w fun e w' => (∃ v, e = .returned v ∧ EP w' w.heap.size v l) ∧ Below w.heap.size w w' := by
  obtain ⟨i0, hi0, hz0, hz1, hz2⟩ := info_parts Try.info29s
  have HH := hid_mk h
  have hcap := h.cap
  have HST : Hid (PlGo w l (.slice none 0 0) 0 w) := ⟨own_nil _ _ _ _, Below.refl _ _⟩
  obtain ⟨n, hn⟩ : ∃ n, n = l.length := ⟨_, rfl⟩
  have HN := hid_mk hn
  rw [← hn] at hcap hL ⊢
  clear h hn
  go_enter Try.func15, Try.ntmps15
  go_wp2
  go_loopw [3, 8] (fun a3 a8 wr => ∃ i : Nat, i ≤ n ∧ a8 = .int .i64 (i : Int) ∧ Hid (PlGo w l a3 i wr)) (fun _ a8 _ => n + 1 - (intOf a8).toNat)
  case atStart => exact ⟨0, Nat.zero_le _, rfl, HST.out⟩
  case round =>
    clear HST
    obtain ⟨i, hi, rfl, HJ⟩ := hrel
    by_cases hlt : i < n
    · have hd : decide ((i : Int) < (n : Int)) = true := decide_eq_true (by omega)
      have hil : i < l.length := by rw [← HN.out]; exact hlt
      obtain ⟨hE, hB⟩ := HJ.out
      obtain ⟨b, off, rfl, hb, c0, c1, c2, c3, c4, c5, c6, c7⟩ := (HH.out.keep hB).at hil
      obtain ⟨x, hx⟩ : ∃ x, x = l[i] := ⟨_, rfl⟩
      rw [← hx] at c0 c1 c2 c3 c4 c5 c6 c7
      have hlen : (l.take i).length = i := by rw [List.length_take]; omega
      have HT : Hid ((l.take (i + 1)).flatMap c8 = (l.take i).flatMap c8 ++ [.string x.n, .string x.v, .int .i64 x.o, .bool x.im, .int .i64 x.a, .int .i64 x.b, .int .i64 x.c, .int .i64 x.k]) := by
        show _ = _
        rw [← List.take_append_getElem hil, List.flatMap_append, ← hx]
        simp [c8]
      have hown : wr.ownsRow w.heap.size 29 8 u3 i ((l.take i).flatMap c8) := by
        have : wr.ownsRow w.heap.size 29 8 u3 (l.take i).length ((l.take i).flatMap c8) := hE
        rwa [hlen] at this
      have HLN : Hid ((l.take (i + 1)).length = i + 1) := by show _ = _; rw [List.length_take]; omega
      have hn63 : i + 1 ≤ maxLen := by unfold maxLen; omega
      have hsz := hB.size
      obtain ⟨va, vc, rfl⟩ := own_slice hown
      generalize (l.take i).flatMap c8 = xs at *
      obtain ⟨xn, xv, xo, xi, xa, xb, xc, xk⟩ := x
      dsimp only at *
      clear hE hx hlen
      have HB := hid_mk hB
      clear hB
      go_wp2_with (at_builtin; go_must (refine wpList_append_lies _ rfl _ _ _ rfl w.heap.size 29 i0 _ 8 80 Try.underlying35 hi0 hz0 hz1 hz2 rfl (by omega) (.slice va i vc) i xs rfl ((hown.alloc _).alloc _) ⟨wr.heap.size + 1, 0, none⟩ 1 1 [.string xn, .string xv, .int .i64 xo, .bool xi, .int .i64 xa, .int .i64 xb, .int .i64 xc, .int .i64 xk] rfl rfl (World.news_of_block (cs := #[.string xn, .string xv, .int .i64 xo, .bool xi, .int .i64 xa, .int .i64 xb, .int .i64 xc, .int .i64 xk]) (t := 29) (fr := (0, 0)) (two_news wr _ _)) (by simp [Value.oneCell']) (by omega) hn63 (by omega) (by simp; omega) (wr.heap.size + 2) (by simp) ?_); intro gg cap w5 hown5 hgr5 _ _; have HO5 := hid_mk hown5; have HG5 := hid_mk hgr5; clear hown5 hgr5)
      have HFIN : Hid (PlGo w l (.slice (some ⟨gg, 0, none⟩) (i + 1) cap) (i + 1) w5) := by
        refine ⟨?_, ((HB.out.alloc hsz _).alloc (by simp; omega) _).grown HG5.out (by simp; omega) (fun k hk => (hown.lt k hk).1)⟩
        unfold EP
        rw [HLN.out, HT.out]
        exact HO5.out
      clear HO5 HG5 hown
      go_wp2
      refine ⟨⟨i + 1, by omega, by simp, HFIN.out⟩, ?_⟩
      simp only [intOf]
      omega
    · have hd : decide ((i : Int) < (n : Int)) = false := decide_eq_false (by omega)
      have hin : i = n := by omega
      subst hin
      have HE : Hid (EP wr w.heap.size u3 l ∧ Below w.heap.size w wr) := by
        have := HJ.out
        unfold PlGo at this
        rwa [HN.out, List.take_length] at this
      clear HJ
      go_wp2
      go_ret
      exact ⟨⟨_, rfl, HE.out.1⟩, HE.out.2⟩

set_option maxHeartbeats 4000000 in
theorem rsame_yes {w : World} {a a' : Option Addr} {c c' : Nat} {l : List E8} (h : EsAt w a c l) (h' : EsAt w a' c' l) : Calls Try.prog 14 #[.slice a l.length c, .slice a' l.length c'] w fun e w' => e = .returned (.bool true) ∧ Below w.heap.size w w' := by
  have HH := hid_mk h
  have HH' := hid_mk h'
  have hcap := h.cap
  have hcap' := h'.cap
  obtain ⟨n, hn⟩ : ∃ n, n = l.length := ⟨_, rfl⟩
  have HN := hid_mk hn
  rw [← hn] at hcap hcap' ⊢
  clear h h' hn
  go_enter Try.func14, Try.ntmps14
  go_wp2
  go_loopw [13] (fun a13 wr => ∃ i : Nat, i ≤ n ∧ a13 = .int .i64 (i : Int) ∧ Hid (Below w.heap.size w wr)) (fun a13 _ => n + 1 - (intOf a13).toNat)
  case atStart => exact ⟨0, Nat.zero_le _, rfl, Below.refl _ _⟩
  case round =>
    obtain ⟨i, hi, rfl, HB⟩ := hrel
    by_cases hlt : i < n
    · have hd : decide ((i : Int) < (n : Int)) = true := decide_eq_true (by omega)
      have hil : i < l.length := by rw [← HN.out]; exact hlt
      obtain ⟨b, off, rfl, _, c0, c1, c2, c3, c4, c5, c6, c7⟩ := (HH.out.keep HB.out).at hil
      obtain ⟨b', off', rfl, _, d0, d1, d2, d3, d4, d5, d6, d7⟩ := (HH'.out.keep HB.out).at hil
      generalize l[i] = x at *
      obtain ⟨xn, xv, xo, xi, xa, xb, xc, xk⟩ := x
      dsimp only at *
      go_upto_region 6 with (fail)
      go_quiet (fail)
      go_wp2
      refine ⟨⟨i + 1, by omega, by simp, below_drewN HB.out _⟩, ?_⟩
      simp only [intOf]
      omega
    · have hd : decide ((i : Int) < (n : Int)) = false := decide_eq_false (by omega)
      go_wp2
      go_ret
      exact ⟨rfl, HB.out⟩
end Go.Proofs.Ytmpppijgjbfolaa.C
