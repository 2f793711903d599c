/- selector.spread: all the Lists that are weighed, in a row, and where each one's own begin. selector.spread: the walk. selector.Most: what its loop keeps. selector.Most: the walk. selector.Of: one selector. The example of layer 5. -/
import Derived.Test.YtdibldcnklgcjaaGreatDoorLSz
import Derived.Test.YtdibldcnklgcjaaGreatDoorLPf
import Derived.Test.YtdibldcnklgcjaaGreatDoorLTx
namespace Go.Proofs.YtdibldcnklgcjaaGreatDoor.L
open Go.RowKit
set_option maxRecDepth 100000

theorem info23 : ∃ i z, Tryz.prog.info? 27 = some i ∧ i.zero = some z ∧ i.size = 1 ∧ i.bytes = 24 ∧ z.cells.size = 1 := ⟨_, _, by rfl, by rfl, by rfl, by rfl, by rfl⟩
theorem SeeAt.keep {W W' : World} {v : Value} {l : List (List (List (Int × Addr)))} (h : SeeAt W v l) (hb : Below W.heap.size W W') : SeeAt W' v l := by
  obtain ⟨b, off, hs, hat⟩ := h
  refine ⟨b, off, hs.keep hb, fun i hi => ?_⟩
  obtain ⟨pv, cv, bp, op, q1, q2, q3, q4, q5⟩ := hat i hi
  refine ⟨pv, cv, bp, op, (hs.cell hb (by omega) _).trans q1, (hs.cell hb (by omega) _).trans q2, q3, q4.keep hb, fun j hj => ?_⟩
  obtain ⟨qv, bq, oq, r1, r2, r3⟩ := q5 j hj
  exact ⟨qv, bq, oq, (q4.cell hb (by omega) _).trans r1, r2.keep hb, fun t ht => ⟨(r3 t ht).1, (r2.cell hb (by omega) _).trans (r3 t ht).2⟩⟩
theorem within_in {W w : World} {v : Value} {l : List Cx} (h : ClAt W v l) (hw : Below W.heap.size W w) (hbig : (wgL l).length ≤ 1000000) :
    Calls Tryz.prog 39 #[v, .func (.func 67) #[] #[]] w fun e w' => ∃ v' A, e = .returned v' ∧ PsAt w.heap.size w' v' A ∧ F2 (LsAt W) A (wgL l) ∧ Below w.heap.size w w' := by
  obtain ⟨l', hs, hf⟩ := h.see
  refine (within_83 (f := wgB) (fun w k => weighed_any w k) (hs.keep hw) (by rw [hf.len]; exact hbig)).mono ?_
  rintro e w' ⟨v', rfl, hp, hb⟩
  exact ⟨v', _, rfl, hp, hf, hb⟩
/-- A row stays where one of another type grows. -/
theorem own_by {w wa w2 : World} {B n s m s' : Nat} {T U : TypeId} {v v' : Value} {xs ys : List Value} (h : w.ownsRow B T s v n xs) (k : w.ownsRow B U s' v' m ys) (hT : T ≠ U) (ha : Below w.heap.size w wa) (hg : wa.grownBy w2 v'.ownBlock) : w2.ownsRow B T s v n xs :=
  own_stayT h fun g c hc _ => by
    have hl := (Array.getElem?_eq_some_iff.1 hc).1
    rw [hg.block g (Nat.lt_of_lt_of_le hl ha.size) (fun e => ?_), ha.block g hl]
    obtain ⟨_, d, hd⟩ := own_at k e.symm
    exact hT (ty_ne hc hd)
theorem own_n {w : World} {B n s m c : Nat} {T : TypeId} {a : Option Addr} {xs : List Value} (h : w.ownsRow B T s (.slice a m c) n xs) : m = n := by
  rcases h.2 with ⟨e, rfl⟩ | ⟨g, cap, cur, e, _⟩
  · cases e; rfl
  · cases e; rfl
theorem own_new (W : World) (e : TypeId) (x : Value) : (W.alloc (.cells #[x] e)).ownsRow W.heap.size e 1 (.slice (some ⟨W.heap.size, 0, none⟩) 1 1) 1 [x] :=
  ⟨by simp, .inr ⟨W.heap.size, 1, #[x], rfl, Nat.le_refl _, heap_alloc_last W _, Nat.le_refl _, by decide, by simp, by simp⟩⟩
/-- A row of Lists of its own; a row of numbers. -/
def AsAt (W w : World) (v : Value) (al : List (List Cx)) : Prop := ∃ us, w.ownsRow W.heap.size 27 1 v al.length us ∧ F2 (fun u L => ClAt W u L) us al
def InAt (W w : World) (v : Value) (ins : List Nat) : Prop := w.ownsRow W.heap.size 3 1 v ins.length (ins.map fun (n : Nat) => Value.int .i64 (n : Int))
/-- The queue of spread, plainly. -/
structure Que (l : List Cx) (al : List (List Cx)) (ins : List Nat) (i : Nat) : Prop where
  len : ins.length = i
  le : i ≤ al.length
  sum : i + ((al.drop i).map szZ).sum = szZ l
  first : al[0]? = some l
  ok : ∀ k (h : k < ins.length) (h' : k < al.length), k < ins[k]'h ∧ ins[k]'h ≤ al.length ∧ ∃ rest, al.drop (ins[k]'h) = wgL (al[k]'h') ++ rest
theorem Que.start (l : List Cx) : Que l [l] [] 0 := ⟨rfl, Nat.zero_le _, by simp, rfl, fun k h => absurd h (by simp)⟩
theorem Que.big {l : List Cx} {al : List (List Cx)} {ins : List Nat} {i : Nat} (h : Que l al ins i) : al.length ≤ szZ l := by
  have h1 := sum_len (al.drop i)
  have h2 := h.sum
  have h3 := h.le
  rw [List.length_drop] at h1
  omega
theorem Que.next {l : List Cx} {al : List (List Cx)} {ins : List Nat} {i : Nat} (h : Que l al ins i) (hi : i < al.length) : Que l (al ++ wgL (al[i]'hi)) (ins ++ [al.length]) (i + 1) := by
  refine ⟨by simp [h.len], by simp; omega, by rw [← queue_step hi]; exact h.sum, ?_, fun k h1 h2 => ?_⟩
  · rw [List.getElem?_append_left (by omega)]
    exact h.first
  · by_cases hk : k < ins.length
    · have hk' : k < al.length := by have := h.len; omega
      obtain ⟨q1, q2, rest, q3⟩ := h.ok k hk hk'
      rw [List.getElem_append_left hk, List.getElem_append_left hk']
      refine ⟨q1, by simp; omega, rest ++ wgL (al[i]'hi), ?_⟩
      rw [List.drop_append_of_le_length q2, q3, List.append_assoc]
    · have hke : k = i := by
        have := h.len
        simp at h1
        omega
      subst hke
      have e : (ins ++ [al.length])[k]'h1 = al.length := by
        rw [List.getElem_append_right (by omega)]
        simp
      rw [e, List.getElem_append_left hi]
      exact ⟨hi, by simp, [], by simp⟩
/-- What the inner loop of spread keeps. -/
structure Sp3 (W : World) (al X : List (List Cx)) (pv iv : Value) (A : List Addr) (ins : List Nat) (t : Nat) (av : Value) (w : World) : Prop where
  all : AsAt W w av (al ++ X.take t)
  inn : InAt W w iv ins
  ps : w.ownsRow W.heap.size 94 1 pv A.length (A.map fun a => Value.pointer (some a))
  bel : Below W.heap.size W w
theorem Sp3.next {W w w3 : World} {al X : List (List Cx)} {pv iv av v3 u : Value} {A : List Addr} {ins : List Nat} {t : Nat} {us : List Value} (h : Sp3 W al X pv iv A ins t av w) (ht : t < X.length) (hu : ClAt W u (X[t]'ht))
    (ho : w.ownsRow W.heap.size 27 1 av (al ++ X.take t).length us) (hf : F2 (fun u L => ClAt W u L) us (al ++ X.take t)) (hg : (w.alloc (.cells #[u] 27)).grownBy w3 av.ownBlock) (ho3 : w3.ownsRow W.heap.size 27 1 v3 ((al ++ X.take t).length + 1) (us ++ [u])) : Sp3 W al X pv iv A ins (t + 1) v3 w3 := by
  have ha : Below w.heap.size w (w.alloc (.cells #[u] 27)) := (Below.refl _ _).alloc (Nat.le_refl _) _
  have e : al ++ X.take (t + 1) = (al ++ X.take t) ++ [X[t]'ht] := by rw [List.take_add_one, List.getElem?_eq_getElem ht, Option.toList_some, List.append_assoc]
  refine ⟨⟨us ++ [u], ?_, ?_⟩, own_by h.inn ho (by decide) ha hg, own_by h.ps ho (by decide) ha hg, ?_⟩
  · rw [e, List.length_append (bs := [X[t]'ht])]
    exact ho3
  · rw [e]
    exact hf.append (.cons hu .nil)
  · exact (h.bel.alloc h.bel.size _).grown hg (h.bel.alloc h.bel.size _).size fun k hk => (own_at ho hk).1
end Go.Proofs.YtdibldcnklgcjaaGreatDoor.L
namespace Go.Proofs.YtdibldcnklgcjaaGreatDoor.L
open Go.RowKit
set_option maxRecDepth 100000

theorem own_low {w w' : World} {B n s : Nat} {T : TypeId} {v : Value} {xs : List Value} (h : w.ownsRow B T s v n xs) (hb : Below w.heap.size w w') : w'.ownsRow B T s v n xs := own_stayT h fun g _ hc _ => hb.block g (Array.getElem?_eq_some_iff.1 hc).1

set_option maxHeartbeats 1000000 in
theorem spread_any {W : World} {v : Value} {l : List Cx} (h : ClAt W v l) (hsz : szZ l ≤ 1000000) :
    Calls Tryz.prog 33 #[v] W fun e w' => ∃ av iv al ins, e = .returned (.tuple #[av, iv]) ∧ AsAt W w' av al ∧ InAt W w' iv ins ∧ Que l al ins al.length ∧ Below W.heap.size W w' := by
  obtain ⟨i0, z0, hi0, hz0, hz1, hz2, hz3⟩ := info23
  obtain ⟨i1, y0, hi1, hy0, hy1, hy2, hy3⟩ := info3
  obtain ⟨a, ll, cap, rfl⟩ : ∃ a n c, v = .slice a n c := by
    obtain ⟨_, _, ⟨a, cap, e, _⟩, _⟩ := h.at
    exact ⟨_, _, _, e⟩
  obtain ⟨W1, hW1⟩ : ∃ W1, W1 = W.alloc (.cells #[.slice a ll cap] 27) := ⟨_, rfl⟩
  have HA0 : Hid (∃ al ins, AsAt W W1 (.slice (some ⟨W.heap.size, 0, none⟩) 1 1) al ∧ InAt W W1 (.slice none 0 0) ins ∧ Que l al ins 0) := by
    refine ⟨[l], [], ⟨[.slice a ll cap], ?_, .cons h .nil⟩, ⟨rfl, .inl ⟨rfl, rfl⟩⟩, Que.start l⟩
    rw [hW1]
    exact own_new W 27 _
  have HB0 : Hid (Below W.heap.size W W1) := by rw [Hid, hW1]; exact (Below.refl _ _).alloc (Nat.le_refl _) _
  have HSZ := hid_mk hsz
  have HW1 := hid_mk hW1
  clear h hW1 hsz
  go_enter Tryz.func33, Tryz.ntmps33
  go_upto_region 3 with (fail)
  rw [← HW1.out]
  clear HW1
  go_wp2
  go_loopw [4, 5, 6] (fun a4 a5 a6 wq => ∃ (i : Nat) (aa : Option Addr) (an ac : Nat) (ia : Option Addr) (im ic : Nat), i ≤ 1000000 ∧ a6 = .int .i64 (i : Int) ∧ a4 = .slice aa an ac ∧ a5 = .slice ia im ic ∧ Hid (∃ al ins, AsAt W wq (.slice aa an ac) al ∧ InAt W wq (.slice ia im ic) ins ∧ Que l al ins i) ∧ Hid (Below W.heap.size W wq)) (fun _ _ a6 _ => 1000001 - (intOf a6).toNat)
  case atStart => exact ⟨0, _, _, _, _, _, _, Nat.zero_le _, rfl, rfl, rfl, HA0, HB0⟩
  case round =>
    obtain ⟨i, aa, an, ac, ia, im, ic, hi, rfl, rfl, rfl, HA, HB⟩ := hrel
    clear HA0 HB0
    obtain ⟨al, ins, ⟨us, hus, hf⟩, hin, hq⟩ := HA.out
    have hbig := Nat.le_trans hq.big HSZ.out
    have hle := hq.le
    have hnl : an = al.length := own_n hus
    by_cases hil : i < an
    · have hil' : i < al.length := by omega
      have hHin : (wr.alloc (.cells #[.int .i64 (an : Int)] 3)).ownsRow W.heap.size 3 1 (.slice ia im ic) ins.length (ins.map fun (n : Nat) => Value.int .i64 (n : Int)) := own_stayT hin fun g c hc _ => Below.heap_alloc _ _ _ (Array.getElem?_eq_some_iff.1 hc).1
      have HNX : Hid (∀ w3 v3, (wr.alloc (.cells #[.int .i64 (an : Int)] 3)).grownBy w3 (Value.slice ia im ic).ownBlock → w3.ownsRow W.heap.size 3 1 v3 (ins.length + 1) ((ins.map fun (n : Nat) => Value.int .i64 (n : Int)) ++ [.int .i64 (an : Int)]) → InAt W w3 v3 (ins ++ [al.length]) ∧ w3.ownsRow W.heap.size 27 1 (.slice aa an ac) al.length us ∧ Below W.heap.size W w3) := fun w3 v3 hgr ho => by
        have ha : Below wr.heap.size wr (wr.alloc (.cells #[.int .i64 (an : Int)] 3)) := (Below.refl _ _).alloc (Nat.le_refl _) _
        refine ⟨?_, own_by hus hin (by decide) ha hgr, ?_⟩
        · unfold InAt
          rw [List.length_append, List.map_append, ← hnl]
          exact ho
        · have hB2 : Below W.heap.size W (wr.alloc (.cells #[.int .i64 (an : Int)] 3)) := HB.out.alloc HB.out.size _
          exact hB2.grown hgr hB2.size fun k hk => (own_at hin hk).1
      have HOS : Hid (∀ u ∈ [Value.int .i64 (an : Int)], u.oneCell' = true) := by
        intro u hu
        rw [List.mem_singleton.1 hu]
        rfl
      have HON : Hid (∀ j u, [Value.int .i64 (an : Int)][j]? = some u → (wr.alloc (.cells #[.int .i64 (an : Int)] 3)).cell? (Addr.add ⟨wr.heap.size, 0, none⟩ j) = some u) := one_news
      have hszA : W.heap.size ≤ (wr.alloc (.cells #[.int .i64 (an : Int)] 3)).heap.size := by have := HB.out.size; simp; omega
      have hil1 : ins.length ≤ 1000000 := by have := hq.len; omega
      have HF := hid_mk hf
      have HQ := hid_mk hq
      have HLN := hid_mk hnl
      have hdl : (i : Int) < (an : Int) := by omega
      rw [← hnl] at hbig hle
      clear HA hf hus hin hq hnl
      go_wp2_with (at_builtin; with_reducible refine wpList_append_own _ rfl _ _ 36 rfl W.heap.size 3 i1 y0 1 8 Tryz.underlying36 hi1 hy0 hy1 hy2 hy3 (by decide) (.slice ia im ic) ins.length (ins.map fun (n : Nat) => Value.int .i64 (n : Int)) rfl hHin ⟨wr.heap.size, 0, none⟩ 1 1 [.int .i64 (an : Int)] rfl rfl HON.out HOS.out ?c1 ?c2 ?c3 ?_)
      case c1 => unfold maxLen; omega
      case c2 => omega
      case c3 => exact hszA
      intro v3 w3 ho3 hgr3 _
      obtain ⟨hin3, hus3, hB3⟩ := HNX.out w3 v3 hgr3 ho3
      obtain ⟨ea, en, ec, rfl⟩ := own_sl ho3
      obtain ⟨ag, agc, x, e1, hag, _, hc1, hc2, hx, cx⟩ := own_cell hus3 hil'
      have hxi : i < us.length := by have := HF.out.len; omega
      rw [List.getElem?_eq_getElem hxi] at hx
      have hcl := HF.out.get i hxi hil'
      rw [Option.some.inj hx] at hcl
      obtain ⟨xa, xn, xc, rfl⟩ : ∃ a n c, x = .slice a n c := by
        obtain ⟨_, _, ⟨a, cap, e, _⟩, _⟩ := hcl.at
        exact ⟨_, _, _, e⟩
      have HX2 : Hid ((wgL (al[i]'hil')).length + al.length ≤ 1000000) := by
        have h1 := (HQ.out.next hil').big
        rw [List.length_append] at h1
        have := HSZ.out
        rw [Hid]
        omega
      have hcall := within_in hcl hB3 (by have := HX2.out; omega)
      obtain ⟨rfl, rfl⟩ : aa = some ⟨ag, 0, none⟩ ∧ ac = agc := by
        cases e1
        exact ⟨rfl, rfl⟩
      rw [← HLN.out] at hc1
      have HI3 := hid_mk hin3
      have HU3 := hid_mk hus3
      have HB3 := hid_mk hB3
      clear HNX hHin ho3 hgr3 hin3 hus3 hB3 e1 hx HOS HON hcl hszA
      have HQN := hid_mk (HQ.out.next hil')
      generalize al[i]'hil' = L at *
      clear HQ
      go_wp2_with (go_at_call 39; fail)
      refine hcall.mono ?_
      rintro e w4 ⟨v4, A, rfl, hps, hls, hb4⟩
      obtain ⟨pa, pn, pc, rfl⟩ := own_sl hps
      have hpn : pn = A.length := own_n hps
      have HPC : Hid (∀ (k : Nat) (w : World), w.ownsRow W.heap.size 94 1 (.slice pa pn pc) A.length (A.map fun a => Value.pointer (some a)) → k < pn → ∃ g x, pa = some ⟨g, 0, none⟩ ∧ pn ≤ pc ∧ pc ≤ 9223372036854775807 ∧ A[k]? = some x ∧ w.cell? ⟨g, k, none⟩ = some (.pointer (some x))) := fun k w hp hk => by
        obtain ⟨g, c, x, e1, e2, _, q1, q2, e5, e6⟩ := own_cell hp (show k < A.length by omega)
        cases e1
        rw [List.getElem?_map] at e5
        cases hx : A[k]? with
        | none => rw [hx] at e5; cases e5
        | some y =>
          rw [hx] at e5
          cases e5
          exact ⟨g, y, rfl, q1, q2, rfl, e6⟩
      have HG0 : Hid (Sp3 W al (wgL L) (.slice pa pn pc) (.slice ea en ec) A (ins ++ [al.length]) 0 (.slice (some ⟨ag, 0, none⟩) an ac) w4) := by
        refine ⟨⟨us, ?_, ?_⟩, own_low HI3.out hb4, own_from hps HB3.out.size, HB3.out.trans (hb4.mono HB3.out.size)⟩
        · rw [List.take_zero, List.append_nil]
          exact own_low HU3.out hb4
        · rw [List.take_zero, List.append_nil]
          exact HF.out
      have HLS := hid_mk hls
      have HPN : Hid (pn = (wgL L).length) := hpn.trans hls.len
      have hpn9 : pn + an ≤ 1000000 := by
        have h1 := HX2.out
        have h2 := HPN.out
        have h3 := HLN.out
        omega
      generalize wgL L = X at *
      clear hcall hps hls hb4 hpn HI3 HU3 HB3 HF cx hag
      go_wp2
      go_loopw [4, 28] (fun a4 a28 wq => ∃ (t : Nat) (aa : Option Addr) (am ac : Nat), t ≤ pn ∧ a28 = .int .i64 (t : Int) ∧ a4 = .slice aa am ac ∧ Hid (Sp3 W al X (.slice pa pn pc) (.slice ea en ec) A (ins ++ [al.length]) t (.slice aa am ac) wq)) (fun _ a28 _ => pn + 1 - (intOf a28).toNat)
      case atStart => exact ⟨0, _, _, _, Nat.zero_le _, rfl, rfl, HG0⟩
      case round =>
        obtain ⟨t, ba, bn, bc, ht, rfl, rfl, HG⟩ := hrel
        clear HG0
        by_cases htl : t < pn
        · obtain ⟨pg, x, rfl, hpc1, hpc2, hx, hcx⟩ := HPC.out t wr HG.out.ps htl
          have htA : t < A.length := (List.getElem?_eq_some_iff.1 hx).1
          have htX : t < X.length := by have := HPN.out; omega
          rw [List.getElem?_eq_getElem htA] at hx
          obtain ⟨xg, xo, u, hxe, hxg, hu, hucl⟩ := HLS.out.get t htA htX
          rw [Option.some.inj hx] at hxe
          subst hxe
          obtain ⟨ua, un, uc, rfl⟩ : ∃ a n c, u = .slice a n c := by
            obtain ⟨_, _, ⟨a, cap, e, _⟩, _⟩ := hucl.at
            exact ⟨_, _, _, e⟩
          have hu' := (HG.out.bel.cell (p := ⟨xg, xo + 6, none⟩) hxg).trans hu
          obtain ⟨vs, hvs, hvf⟩ := HG.out.all
          have hnn : (al ++ X.take t).length + 1 ≤ 1000000 := by
            have h1 := HPN.out
            have h2 := HLN.out
            rw [List.length_append, List.length_take]
            omega
          have hown : (wr.alloc (.cells #[.slice ua un uc] 27)).ownsRow W.heap.size 27 1 (.slice ba bn bc) (al ++ X.take t).length vs := own_stayT hvs fun g c hc _ => Below.heap_alloc _ _ _ (Array.getElem?_eq_some_iff.1 hc).1
          have HNX : Hid (∀ w3 v3, (wr.alloc (.cells #[.slice ua un uc] 27)).grownBy w3 (Value.slice ba bn bc).ownBlock → w3.ownsRow W.heap.size 27 1 v3 ((al ++ X.take t).length + 1) (vs ++ [.slice ua un uc]) → Sp3 W al X (.slice (some ⟨pg, 0, none⟩) pn pc) (.slice ea en ec) A (ins ++ [al.length]) (t + 1) v3 w3) := fun w3 v3 hg ho => HG.out.next htX hucl hvs hvf hg ho
          have HOS : Hid (∀ z ∈ [Value.slice ua un uc], z.oneCell' = true) := by
            intro z hz
            rw [List.mem_singleton.1 hz]
            rfl
          have HON : Hid (∀ j z, [Value.slice ua un uc][j]? = some z → (wr.alloc (.cells #[.slice ua un uc] 27)).cell? (Addr.add ⟨wr.heap.size, 0, none⟩ j) = some z) := one_news
          have hszA : W.heap.size ≤ (wr.alloc (.cells #[.slice ua un uc] 27)).heap.size := by have := HG.out.bel.size; simp; omega
          generalize (al ++ X.take t).length = nn at *
          have hdt : (t : Int) < (pn : Int) := by omega
          clear hvs hvf hu hucl hx HG HLS HPC HQN
          go_wp2_with (at_builtin; with_reducible refine wpList_append_own _ rfl _ _ 81 rfl W.heap.size 27 i0 z0 1 24 Tryz.underlying81 hi0 hz0 hz1 hz2 hz3 (by decide) (.slice ba bn bc) nn vs rfl hown ⟨wr.heap.size, 0, none⟩ 1 1 [.slice ua un uc] rfl rfl HON.out HOS.out ?c1 ?c2 ?c3 ?_)
          case c1 => unfold maxLen; omega
          case c2 => omega
          case c3 => exact hszA
          intro v5 w5 ho5 hgr5 _
          have HG5 := hid_mk (HNX.out w5 v5 hgr5 ho5)
          obtain ⟨fa, fn, fc, rfl⟩ := own_sl ho5
          clear ho5 hgr5 HNX hown hu' hcx HON HOS hszA
          go_wp2
          exact ⟨⟨t + 1, _, _, _, by omega, by go_num, rfl, HG5⟩, by simp only [intOf]; omega⟩
        · have hte : t = pn := by omega
          subst hte
          have HAN : Hid (∃ al ins, AsAt W wr (.slice ba bn bc) al ∧ InAt W wr (.slice ea en ec) ins ∧ Que l al ins (i + 1)) := by
            refine ⟨_, _, ?_, HG.out.inn, HQN.out⟩
            have h1 := HG.out.all
            rw [HPN.out, List.take_length] at h1
            exact h1
          have HBN := hid_mk HG.out.bel
          clear HG HQN HLS HPC htl
          go_wp2
          exact ⟨⟨i + 1, _, _, _, _, _, _, by omega, by go_num, rfl, rfl, HAN, HBN⟩, by simp only [intOf]; omega⟩
    · have hie : i = an := by omega
      have HFIN : Hid (∃ al ins, AsAt W wr (.slice aa an ac) al ∧ InAt W wr (.slice ia im ic) ins ∧ Que l al ins al.length) := by
        refine ⟨al, ins, ⟨us, hus, hf⟩, hin, ?_⟩
        rw [← hnl, ← hie]
        exact hq
      clear HA hf hus hin hq hnl hbig hle hil
      subst hie
      go_wp2
      go_ret2
      obtain ⟨al, ins, h1, h2, h3⟩ := HFIN.out
      exact ⟨_, _, al, ins, rfl, h1, h2, h3, HB.out⟩
end Go.Proofs.YtdibldcnklgcjaaGreatDoor.L
namespace Go.Proofs.YtdibldcnklgcjaaGreatDoor.L
open Go.RowKit
set_option maxRecDepth 100000

theorem info39 : ∃ i z, Tryz.prog.info? 23 = some i ∧ i.zero = some z ∧ i.size = 3 ∧ i.bytes = 24 ∧ z.cells.size = 3 := ⟨_, _, by rfl, by rfl, by rfl, by rfl, by rfl⟩
/-- The row of specificities, from m on; all that was before stays. -/
structure Ms (w2 : World) (al : List (List Cx)) (m : Nat) (w : World) : Prop where
  row : ∃ cur : Array Value, w.heap[w2.heap.size]? = some (.cells cur 23 (0, 0)) ∧ cur.size = al.length * 3 ∧ ∀ j (h : j < al.length), m ≤ j → cur[j * 3]? = some (.int .i64 (mostZ (al[j]'h)).a) ∧ cur[j * 3 + 1]? = some (.int .i64 (mostZ (al[j]'h)).b) ∧ cur[j * 3 + 2]? = some (.int .i64 (mostZ (al[j]'h)).c)
  bel : Below w2.heap.size w2 w
theorem Ms.start {w2 w : World} {al : List (List Cx)} {xs : List Value} (h : w.ownsRow w2.heap.size 23 3 (.slice (some ⟨w2.heap.size, 0, none⟩) al.length al.length) al.length xs) (hb : Below w2.heap.size w2 w) : Ms w2 al al.length w := by
  refine ⟨?_, hb⟩
  rcases h.2 with ⟨e, _⟩ | ⟨g, cap, cur, e, _, h2, _, _, h5, _⟩
  · cases e
  · cases e
    exact ⟨cur, h2, h5, fun j h1 h2 => by omega⟩
theorem Ms.then {w2 w w' : World} {al : List (List Cx)} {m : Nat} (h : Ms w2 al m w) (hb : Below w.heap.size w w') : Ms w2 al m w' := by
  obtain ⟨cur, h1, h2, h3⟩ := h.row
  exact ⟨⟨cur, (hb.block _ (Array.getElem?_eq_some_iff.1 h1).1).trans h1, h2, h3⟩, h.bel.trans (hb.mono h.bel.size)⟩
/-- The part of the row that lies behind. -/
theorem Ms.sp {w2 w : World} {al : List (List Cx)} {m k : Nat} (h : Ms w2 al m w) (hk : m ≤ k) (hkn : k ≤ al.length) (hbig : al.length ≤ 1000000) {ia : Option Addr} (hia : k < al.length → ia = some ⟨w2.heap.size, k * 3, none⟩) : SpAt w (.slice ia (al.length - k) (al.length - k)) ((al.drop k).map mostZ) := by
  obtain ⟨cur, h1, h2, h3⟩ := h.row
  refine ⟨w2.heap.size, k * 3, ⟨ia, al.length - k, by rw [List.length_map, List.length_drop], by rw [List.length_map, List.length_drop]; exact Nat.le_refl _, by omega, fun h0 => ⟨hia (by rw [List.length_map, List.length_drop] at h0; omega), (Array.getElem?_eq_some_iff.1 h1).1⟩⟩, fun i hi => ?_⟩
  have hi' : k + i < al.length := by rw [List.length_map, List.length_drop] at hi; omega
  obtain ⟨q0, q1, q2⟩ := h3 (k + i) hi' (by omega)
  have hc : ∀ o u, cur[o]? = some u → w.cell? ⟨w2.heap.size, o, none⟩ = some u := fun o u hu => (cellAt h1 o).trans hu
  rw [List.getElem_map, List.getElem_drop, show k * 3 + i * 3 = (k + i) * 3 by omega]
  exact ⟨hc _ _ q0, hc _ _ q1, hc _ _ q2⟩
/-- One more is laid down. -/
theorem Ms.put {w2 w : World} {al : List (List Cx)} {i : Nat} (h : Ms w2 al (i + 1) w) (hi : i < al.length) : Ms w2 al i (((w.setCell ⟨w2.heap.size, i * 3, none⟩ (.int .i64 (mostZ (al[i]'hi)).a)).setCell ⟨w2.heap.size, i * 3 + 1, none⟩ (.int .i64 (mostZ (al[i]'hi)).b)).setCell ⟨w2.heap.size, i * 3 + 2, none⟩ (.int .i64 (mostZ (al[i]'hi)).c)) := by
  obtain ⟨cur, h1, h2, h3⟩ := h.row
  have s1 := set_at (i * 3) (.int .i64 (mostZ (al[i]'hi)).a) (0, 0) h1
  have s2 := set_at (i * 3 + 1) (.int .i64 (mostZ (al[i]'hi)).b) (0, 0) s1
  have s3 := set_at (i * 3 + 2) (.int .i64 (mostZ (al[i]'hi)).c) (0, 0) s2
  refine ⟨⟨_, s3, by simpa using h2, fun j hj hij => ?_⟩, ((h.bel.setCell (p := ⟨w2.heap.size, i * 3, none⟩) (Nat.le_refl _) _).setCell (p := ⟨w2.heap.size, i * 3 + 1, none⟩) (Nat.le_refl _) _).setCell (p := ⟨w2.heap.size, i * 3 + 2, none⟩) (Nat.le_refl _) _⟩
  by_cases hj2 : j = i
  · subst hj2
    have b0 : j * 3 < cur.size := by omega
    have b1 : j * 3 + 1 < cur.size := by omega
    have b2 : j * 3 + 2 < cur.size := by omega
    simp [b0, b1, b2]
  · obtain ⟨q0, q1, q2⟩ := h3 j hj (by omega)
    refine ⟨?_, ?_, ?_⟩
    · rw [Array.getElem?_setIfInBounds_ne (by omega), Array.getElem?_setIfInBounds_ne (by omega), Array.getElem?_setIfInBounds_ne (by omega)]
      exact q0
    · rw [Array.getElem?_setIfInBounds_ne (by omega), Array.getElem?_setIfInBounds_ne (by omega), Array.getElem?_setIfInBounds_ne (by omega)]
      exact q1
    · rw [Array.getElem?_setIfInBounds_ne (by omega), Array.getElem?_setIfInBounds_ne (by omega), Array.getElem?_setIfInBounds_ne (by omega)]
      exact q2
end Go.Proofs.YtdibldcnklgcjaaGreatDoor.L
namespace Go.Proofs.YtdibldcnklgcjaaGreatDoor.L
open Go.RowKit
set_option maxRecDepth 100000

set_option maxHeartbeats 1000000 in
theorem most_any {W : World} {v : Value} {l : List Cx} (h : ClAt W v l) (hsz : szZ l ≤ 1000000) :
    Calls Tryz.prog 14 #[v] W fun e w' => e = .returned (mostZ l).v ∧ Below W.heap.size W w' := by
  obtain ⟨i0, hi0, hz0, hz1, hz2⟩ : ∃ i, Tryz.prog.info? 23 = some i ∧ i.zero = some (.agg #[.int .i64 0, .int .i64 0, .int .i64 0]) ∧ i.size = 3 ∧ i.bytes = 24 := ⟨_, by rfl, by rfl, by rfl, by rfl⟩
  obtain ⟨a, ll, cap, rfl⟩ : ∃ a n c, v = .slice a n c := by
    obtain ⟨_, _, ⟨a, cap, e, _⟩, _⟩ := h.at
    exact ⟨_, _, _, e⟩
  obtain ⟨W1, hW1⟩ : ∃ W1, W1 = W.alloc (.cells #[.int .i64 0, .int .i64 0, .int .i64 0] 23) := ⟨_, rfl⟩
  have hB1 : Below W.heap.size W W1 := by rw [hW1]; exact (Below.refl _ _).alloc (Nat.le_refl _) _
  have hR1 : SB W1 W.heap.size z3 := by
    unfold SB
    rw [hW1]
    exact heap_alloc_last W _
  have hcall := spread_any (h.keep hB1) hsz
  have HSZ := hid_mk hsz
  have HB1 := hid_mk hB1
  have HR1 := hid_mk hR1
  have HW1 := hid_mk hW1
  clear h hB1 hR1 hsz hW1
  go_enter Tryz.func14, Tryz.ntmps14
  go_upto_region 1 with (fail)
  rw [← HW1.out]
  clear HW1
  go_wp2_with (go_at_call 33; fail)
  refine hcall.mono ?_
  rintro e w2 ⟨av, iv, al, ins, rfl, ⟨us, hus, hf⟩, hin, hq, hb2⟩
  clear hcall
  obtain ⟨aa, an, ac, rfl⟩ := own_sl hus
  obtain ⟨ia, im, ic, rfl⟩ := own_sl hin
  have hnl : an = al.length := own_n hus
  have hml : im = ins.length := own_n hin
  have hql := hq.len
  have hbig : an ≤ 1000000 := by
    have := hq.big
    have := HSZ.out
    omega
  have hpos : 0 < an := by
    have h1 := hq.first
    have := (List.getElem?_eq_some_iff.1 h1).1
    omega
  have HCE : Hid (∀ i, i < an → ∃ (hi : i < al.length) (k : Nat) (ag ig : Nat) (xa : Option Addr) (xn xc : Nat), aa = some ⟨ag, 0, none⟩ ∧ an ≤ ac ∧ ac ≤ 9223372036854775807 ∧ ia = some ⟨ig, 0, none⟩ ∧ im ≤ ic ∧ ic ≤ 9223372036854775807 ∧ ag < w2.heap.size ∧ ig < w2.heap.size ∧ w2.cell? ⟨ag, i, none⟩ = some (.slice xa xn xc) ∧ w2.cell? ⟨ig, i, none⟩ = some (.int .i64 (k : Int)) ∧ ClAt W1 (.slice xa xn xc) (al[i]'hi) ∧ i < k ∧ k ≤ an ∧ ∃ rest, al.drop k = wgL (al[i]'hi) ++ rest) := fun i hi => by
    have hi' : i < al.length := by omega
    have hi2 : i < ins.length := by omega
    obtain ⟨ag, agc, x, e1, hag, _, hc1, hc2, hx, cx⟩ := own_cell hus hi'
    obtain ⟨ig, igc, y, e2, hig, _, hd1, hd2, hy, cy⟩ := own_cell hin hi2
    have hxi : i < us.length := by have := hf.len; omega
    rw [List.getElem?_eq_getElem hxi] at hx
    have hcl := hf.get i hxi hi'
    rw [Option.some.inj hx] at hcl
    obtain ⟨xa, xn, xc, rfl⟩ : ∃ a n c, x = .slice a n c := by
      obtain ⟨_, _, ⟨a, cap, e, _⟩, _⟩ := hcl.at
      exact ⟨_, _, _, e⟩
    rw [List.getElem?_map, List.getElem?_eq_getElem hi2] at hy
    obtain ⟨o1, o2, rest, o3⟩ := hq.ok i hi2 hi'
    cases hy
    cases e1
    cases e2
    exact ⟨hi', _, ag, ig, xa, xn, xc, rfl, hc1, hc2, rfl, hd1, hd2, hag, hig, cx, cy, hcl, o1, o2, rest, o3⟩
  have HFI : Hid (∀ hi : 0 < al.length, al[0]'hi = l) := fun hi => by
    have h1 := hq.first
    rw [List.getElem?_eq_getElem hi] at h1
    exact Option.some.inj h1
  have him : im = an := by omega
  subst him
  have HB2 := hid_mk hb2
  have HNL := hid_mk hnl
  have hszb : W.heap.size < w2.heap.size := by
    have h1 := (Array.getElem?_eq_some_iff.1 HR1.out).1
    have h2 := hb2.size
    omega
  clear hus hf hin hq hb2 hnl hml hql
  go_wp2_with (at_make; with_reducible refine wpList_make_full _ rfl _ _ 84 rfl w2.heap.size 23 i0 (.agg #[.int .i64 0, .int .i64 0, .int .i64 0]) 3 Tryz.underlying84 hi0 hz0 hz1 .i64 .i64 _ _ im rfl rfl rfl rfl ?c1 ?c2 ?c3 ?_)
  case c1 => rw [hz2]; omega
  case c2 => unfold maxLen; omega
  case c3 => exact Nat.le_refl _
  intro w3 ho3 hg3
  have HM0 : Hid (Ms w2 al im w3) := by
    rw [Hid]
    rw [HNL.out] at ho3 ⊢
    exact Ms.start ho3 ((Below.refl _ _).grown hg3 (Nat.le_refl _) fun k hk => by cases hk)
  clear ho3 hg3
  go_wp2
  go_loopw [6] (fun a6 wq => ∃ (m : Nat) (z : Int), m ≤ im ∧ z = (m : Int) - 1 ∧ a6 = .int .i64 z ∧ Hid (Ms w2 al m wq)) (fun a6 _ => (intOf a6 + 1).toNat)
  case atStart => exact ⟨im, _, Nat.le_refl _, rfl, rfl, HM0⟩
  case round =>
    obtain ⟨m, z, hm, hz, rfl, HM⟩ := hrel
    clear HM0
    cases m with
    | zero =>
      obtain rfl : z = -1 := by omega
      clear hz hm
      have hn0 : 0 < al.length := by have := HNL.out; omega
      obtain ⟨cur, h1, h2, h3⟩ := HM.out.row
      obtain ⟨q0, q1, q2⟩ := h3 0 hn0 (Nat.le_refl _)
      rw [HFI.out hn0] at q0 q1 q2
      rw [Nat.zero_mul] at q0 q1 q2
      have c0 : wr.cell? ⟨w2.heap.size, 0, none⟩ = some (.int .i64 (mostZ l).a) := (cellAt h1 0).trans q0
      have c1 : wr.cell? ⟨w2.heap.size, 1, none⟩ = some (.int .i64 (mostZ l).b) := (cellAt h1 1).trans q1
      have c2 : wr.cell? ⟨w2.heap.size, 2, none⟩ = some (.int .i64 (mostZ l).c) := (cellAt h1 2).trans q2
      have hbw : Below W1.heap.size W1 wr := HB2.out.trans (HM.out.bel.mono HB2.out.size)
      have hr : SB wr W.heap.size z3 := (hbw.block _ (Array.getElem?_eq_some_iff.1 HR1.out).1).trans HR1.out
      obtain ⟨⟨k0, k1, k2⟩, f0, f1, f2⟩ := cells3s hr
      have HBW : Hid (Below W.heap.size W wr) := HB1.out.trans (hbw.mono HB1.out.size)
      clear h1 h2 h3 q0 q1 q2 hr hbw HM HCE HFI
      go_wp2
      exact bodyPost_ret (by simp [results, Tryz.results14, go_sem, k0, k1, k2]; rfl) rfl ⟨rfl, below_set3 HBW.out (Nat.le_refl _) _ _ _⟩
    | succ i =>
      obtain rfl : z = (i : Int) := by omega
      clear hz
      obtain ⟨hi, k, ag, ig, xa, xn, xc, rfl, hc1, hc2, rfl, hd1, hd2, hag, hig, cx, cy, hcl, o1, o2, rest, o3⟩ := HCE.out i (by omega)
      have cx' := (HM.out.bel.cell (p := ⟨ag, i, none⟩) hag).trans cx
      have cy' := (HM.out.bel.cell (p := ⟨ig, i, none⟩) hig).trans cy
      have hbw : Below W1.heap.size W1 wr := HB2.out.trans (HM.out.bel.mono HB2.out.size)
      have HGR : Hid (∀ w' ia', Below wr.heap.size wr w' → (k < im → ia' = some ⟨w2.heap.size, k * 3, none⟩) → Calls Tryz.prog 34 #[.slice xa xn xc, .slice ia' (im - k) (im - k)] w' fun e w'' => e = .returned (.agg #[.int .i64 (mostZ (al[i]'hi)).a, .int .i64 (mostZ (al[i]'hi)).b, .int .i64 (mostZ (al[i]'hi)).c]) ∧ Below wr.heap.size wr w'') := fun w' ia' hb hia => by
        have hsp := (HM.out.then hb).sp (k := k) (ia := ia') o1 (by have := HNL.out; omega) (by have := HNL.out; omega) (fun h => hia (by have := HNL.out; omega))
        rw [o3, List.map_append, ← HNL.out] at hsp
        exact (greatest_any (hcl.keep (hbw.trans (hb.mono hbw.size))) hsp).mono fun _ _ q => ⟨q.1, hb.trans (q.2.mono hb.size)⟩
      have HCL : Hid (∀ w', Below wr.heap.size wr w' → (∃ x0 x1 x2, w'.cell? ⟨w2.heap.size, i * 3, none⟩ = some x0 ∧ w'.cell? ⟨w2.heap.size, i * 3 + 1, none⟩ = some x1 ∧ w'.cell? ⟨w2.heap.size, i * 3 + 2, none⟩ = some x2) ∧ w'.frozen? ⟨w2.heap.size, i * 3, none⟩ = false ∧ w'.frozen? ⟨w2.heap.size, i * 3 + 1, none⟩ = false ∧ w'.frozen? ⟨w2.heap.size, i * 3 + 2, none⟩ = false) := fun w' hb => by
        obtain ⟨cur, h1, h2, h3⟩ := (HM.out.then hb).row
        have b2 : i * 3 + 2 < cur.size := by omega
        refine ⟨⟨_, _, _, (cellAt h1 _).trans (Array.getElem?_eq_getElem (by omega)), (cellAt h1 _).trans (Array.getElem?_eq_getElem (by omega)), (cellAt h1 _).trans (Array.getElem?_eq_getElem b2)⟩, ?_, ?_, ?_⟩ <;> simp [World.frozen?, h1]
      have HPU : Hid (∀ w', Below wr.heap.size wr w' → Ms w2 al i (((w'.setCell ⟨w2.heap.size, i * 3, none⟩ (.int .i64 (mostZ (al[i]'hi)).a)).setCell ⟨w2.heap.size, i * 3 + 1, none⟩ (.int .i64 (mostZ (al[i]'hi)).b)).setCell ⟨w2.heap.size, i * 3 + 2, none⟩ (.int .i64 (mostZ (al[i]'hi)).c))) := fun w' hb => (HM.out.then hb).put hi
      generalize mostZ (al[i]'hi) = y at *
      have gr : Below wr.heap.size wr wr := Below.refl _ _
      have gd : Below wr.heap.size wr wr.drew := gr.drew
      have hin : i < im := by omega
      clear cx cy hcl hbw o3 HM HCE HFI
      go_upto_region 6 with (fail)
      go_region_law (go_simp; go_at_call 34; refine (HGR.out _ _ ?_ ?_).mono ?_; assumption; (intro hkk; first | rw [if_neg (by omega)] | (simp; omega)); rintro e w5 ⟨rfl, hb5⟩; obtain ⟨⟨x0, x1, x2, t0, t1, t2⟩, k0, k1, k2⟩ := HCL.out w5 hb5; have HS5 := hid_mk (HPU.out w5 hb5); clear hb5)
      all_goals
        obtain ⟨W6, hW6⟩ : ∃ W6, W6 = ((w5.setCell ⟨w2.heap.size, i * 3, none⟩ (.int .i64 y.a)).setCell ⟨w2.heap.size, i * 3 + 1, none⟩ (.int .i64 y.b)).setCell ⟨w2.heap.size, i * 3 + 2, none⟩ (.int .i64 y.c) := ⟨_, rfl⟩
        rw [← hW6] at HS5 ⊢
        clear hW6 t0 t1 t2 k0 k1 k2 HCL HPU HGR cx' cy' gr gd
        go_wp2
        exact ⟨⟨i, _, by omega, rfl, rfl, HS5⟩, by simp only [intOf]; omega⟩
end Go.Proofs.YtdibldcnklgcjaaGreatDoor.L
namespace Go.Proofs.YtdibldcnklgcjaaGreatDoor.L
open Go.RowKit
set_option maxRecDepth 100000

theorem ClAt.one {W : World} {g : Nat} {pv cv : Value} {c : Cx} {bc oc bp op : Nat} {qv : Nat → Value} {bq oq : Nat → Nat} {lv : Nat → Nat → Value} (h : CxAt (ClAt W) W pv cv c bc oc bp op qv bq oq lv) (hg : g < W.heap.size) (h0 : W.cell? ⟨g, 0, none⟩ = some pv) (h1 : W.cell? ⟨g, 1, none⟩ = some cv) : ClAt W (.slice (some ⟨g, 0, none⟩) 1 1) [c] := by
  have e : ∀ i (hi : i < [c].length), [c][i]'hi = c := fun i hi => by
    have : i = 0 := by simpa using hi
    subst this
    rfl
  refine .mk _ [c] g 0 (fun _ => pv) (fun _ => cv) (fun _ => bc) (fun _ => oc) (fun _ => bp) (fun _ => op) (fun _ => qv) (fun _ => bq) (fun _ => oq) (fun _ => lv) ⟨_, 1, rfl, Nat.le_refl _, by decide, fun _ => ⟨rfl, hg⟩⟩ (fun i hi => ?_) (fun i hi => ?_) (fun i hi t ht => ?_) (fun i hi => ?_) (fun i hi j hj => ?_) (fun i hi j hj => ?_) (fun i hi j hj t ht => ?_) (fun i hi j hj t ht => ?_)
  all_goals
    have : i = 0 := by simpa using hi
    subst this
  · exact ⟨h0, h1⟩
  · exact h.cs
  · exact h.cc t ht
  · exact h.ps
  · exact h.pc j hj
  · exact h.qs j hj
  · exact h.qc j hj t ht
  · exact h.ls j hj t ht

set_option maxHeartbeats 400000 in
theorem of_any {W : World} {pv cv : Value} {c : Cx} {bc oc bp op : Nat} {qv : Nat → Value} {bq oq : Nat → Nat} {lv : Nat → Nat → Value} (h : CxAt (ClAt W) W pv cv c bc oc bp op qv bq oq lv) (hsz : szZ [c] ≤ 1000000) :
    Calls Tryz.prog 8 #[.agg #[pv, cv]] W fun e w' => e = .returned (mostZ [c]).v ∧ Below W.heap.size W w' := by
  obtain ⟨pa, pc, rfl, _⟩ := h.ps
  obtain ⟨ca, cc, rfl, _⟩ := h.cs
  generalize c.parts.length = pn at *
  generalize c.combs.length = cn at *
  obtain ⟨W1, hW1⟩ : ∃ W1, W1 = ((W.alloc (.cells #[.slice pa pn pc, .slice ca cn cc] 38)).alloc (.cells #[.int .i64 0, .int .i64 0, .int .i64 0] 23)).alloc (.cells #[.slice pa pn pc, .slice ca cn cc] 38) := ⟨_, rfl⟩
  have hB1 : Below W.heap.size W W1 := by rw [hW1]; exact (((Below.refl _ _).alloc (Nat.le_refl _) _).alloc (by simp) _).alloc (by simp; omega) _
  have x2 : W1.heap[W.heap.size + 2]? = some (.cells #[.slice pa pn pc, .slice ca cn cc] 38 (0, 0)) := by
    have e : W.heap.size + 2 = ((W.alloc (.cells #[.slice pa pn pc, .slice ca cn cc] 38)).alloc (.cells #[.int .i64 0, .int .i64 0, .int .i64 0] 23)).heap.size := by simp
    rw [hW1, e]
    exact heap_alloc_last _ _
  have x1 : SB W1 (W.heap.size + 1) z3 := by
    have e : W.heap.size + 1 = (W.alloc (.cells #[.slice pa pn pc, .slice ca cn cc] 38)).heap.size := by simp
    unfold SB
    rw [hW1, Below.heap_alloc _ _ _ (by simp), e]
    exact heap_alloc_last _ _
  have hcall := most_any (ClAt.one (h.keep hB1) (Array.getElem?_eq_some_iff.1 x2).1 (cellAt x2 0) (cellAt x2 1)) hsz
  have HFR : Hid (∀ w', Below W1.heap.size W1 w' → SB w' (W.heap.size + 1) z3 ∧ Below W.heap.size W w') := fun w' hb => ⟨(hb.block _ (Array.getElem?_eq_some_iff.1 x1).1).trans x1, hB1.trans (hb.mono hB1.size)⟩
  have HW1 := hid_mk hW1
  unfold S3.v at hcall ⊢
  generalize mostZ [c] = R at *
  clear h hsz hB1 x1 x2 hW1
  go_enter Tryz.func8, Tryz.ntmps8
  go_wp2_with (go_at_call 14; fail)
  rw [← HW1.out]
  refine hcall.mono ?_
  rintro e w2 ⟨rfl, hb⟩
  obtain ⟨hs, hbw⟩ := HFR.out w2 hb
  obtain ⟨⟨k0, k1, k2⟩, f0, f1, f2⟩ := cells3s hs
  have HBW := hid_mk hbw
  clear hb hs hbw HFR hcall HW1
  go_wp2
  exact bodyPost_ret (by simp [results, Tryz.results8, go_sem, k0, k1, k2]) rfl ⟨rfl, below_set3 HBW.out (by omega) _ _ _⟩
end Go.Proofs.YtdibldcnklgcjaaGreatDoor.L
namespace Go.Proofs.YtdibldcnklgcjaaGreatDoor.L
open Go.RowKit
set_option maxRecDepth 100000

/-- Fit, by looking. -/
def fitD : Nat → List V → Bool
  | 0, _ => false
  | d + 1, l => decide (l.length ≤ 100000) && l.all fun v => decide (v.tok.tx.size + v.tok.un.size ≤ 2000000) && fitD d v.kids
theorem fit_of : ∀ (d : Nat) (l : List V), fitD d l = true → Fit l
  | 0, _, h => by cases h
  | d + 1, l, h => by
    unfold fitD at h
    rw [Bool.and_eq_true, List.all_eq_true] at h
    refine .mk l (of_decide_eq_true h.1) (fun v hv => ?_) fun v hv => ?_
    · have := h.2 v hv
      rw [Bool.and_eq_true] at this
      exact of_decide_eq_true this.1
    · have := h.2 v hv
      rw [Bool.and_eq_true] at this
      exact fit_of d _ this.2
def exA : ByteArray := ⟨#[97, 35, 98, 32, 62, 32, 46, 99, 58, 110, 111, 116, 40, 100, 41]⟩
def exB : ByteArray := ⟨#[58, 110, 116, 104, 45, 99, 104, 105, 108, 100, 40, 111, 100, 100, 41]⟩
def exC : ByteArray := ⟨#[97, 44, 44, 98]⟩
def ex1 (k : Int) (s : ByteArray) : S6 := ⟨k, s, 0, ⟨#[]⟩, 0, 0⟩
def exAC : List Cx := [.mk [[(ex1 1 ⟨#[97]⟩, []), (ex1 3 ⟨#[98]⟩, [])], [(ex1 2 ⟨#[99]⟩, []), (ex1 5 ⟨#[]⟩, [.mk [[(ex1 1 ⟨#[100]⟩, [])]] []])]] [2]]
def exBC : List Cx := [.mk [[(⟨8, ⟨#[]⟩, 0, ⟨#[]⟩, 2, 1⟩, [])]] []]
theorem exA_len : decide ((toks (runesZ exA)).length ≤ 100000) = true := by kernel_rfl
theorem exB_len : decide ((toks (runesZ exB)).length ≤ 100000) = true := by kernel_rfl
theorem exC_len : decide ((toks (runesZ exC)).length ≤ 100000) = true := by kernel_rfl
theorem exA_fit : fitD 4 (valsS exA) = true := by kernel_rfl
theorem exB_fit : fitD 4 (valsS exB) = true := by kernel_rfl
theorem exC_fit : fitD 4 (valsS exC) = true := by kernel_rfl
theorem exA_cnt : decide (cntL (valsS exA) ≤ 500000) = true := by kernel_rfl
theorem exB_cnt : decide (cntL (valsS exB) ≤ 500000) = true := by kernel_rfl
theorem exC_cnt : decide (cntL (valsS exC) ≤ 500000) = true := by kernel_rfl
theorem exA_parse : parseZ (valsS exA) = some exAC := by kernel_rfl
theorem exB_parse : parseZ (valsS exB) = some exBC := by kernel_rfl
theorem exC_parse : parseZ (valsS exC) = none := by kernel_rfl
theorem exA_most : mostZ exAC = ⟨1, 1, 2⟩ := by kernel_rfl
theorem exA_sz : szZ exAC = 2 := by kernel_rfl
theorem text_A (W : World) (hsg : Signs W) : Calls Tryz.prog 5 #[.string exA] W (TxPost W (some exAC)) := by
  rw [← exA_parse]
  exact text_any exA W hsg (by decide) (of_decide_eq_true exA_len) (fit_of _ _ exA_fit) (of_decide_eq_true exA_cnt)
theorem text_B (W : World) (hsg : Signs W) : Calls Tryz.prog 5 #[.string exB] W (TxPost W (some exBC)) := by
  rw [← exB_parse]
  exact text_any exB W hsg (by decide) (of_decide_eq_true exB_len) (fit_of _ _ exB_fit) (of_decide_eq_true exB_cnt)
theorem text_C (W : World) (hsg : Signs W) : Calls Tryz.prog 5 #[.string exC] W (TxPost W none) := by
  rw [← exC_parse]
  exact text_any exC W hsg (by decide) (of_decide_eq_true exC_len) (fit_of _ _ exC_fit) (of_decide_eq_true exC_cnt)

set_option maxHeartbeats 1000000 in
theorem lives_any (W : World) (hsg : Signs W) : Calls Tryz.prog 4 #[] W fun e w' => e = .returned (.bool true) ∧ Below W.heap.size W w' := by
  have hA := text_A W hsg
  have HB0 : Hid (∀ w, Below W.heap.size W w → Calls Tryz.prog 5 #[.string exB] w (TxPost w (some exBC))) := fun w h => text_B w (hsg.keep h)
  have HC0 : Hid (∀ w, Below W.heap.size W w → Calls Tryz.prog 5 #[.string exC] w (TxPost w none)) := fun w h => text_C w (hsg.keep h)
  unfold exA at hA
  clear hsg
  go_enter Tryz.func4, Tryz.ntmps4
  go_wp2_with (go_at_call 5; fail)
  refine hA.mono ?_
  rintro e w1 ⟨u, rfl, hcl, hB1⟩
  have hb := HB0.out w1 hB1
  unfold exB at hb
  obtain ⟨b, off, ⟨a, cap, rfl, hc1, hc2, hsa⟩, hat⟩ := hcl.at
  obtain ⟨rfl, hbw⟩ := hsa (by decide)
  obtain ⟨p0, v0, bc0, oc0, bp0, op0, qv0, bq0, oq0, lv0, a0, b0, cx0⟩ := hat 0 (by decide)
  have HOF : Hid (∀ w, Below w1.heap.size w1 w → Calls Tryz.prog 8 #[.agg #[p0, v0]] w fun e w' => e = .returned (mostZ exAC).v ∧ Below w.heap.size w w') := fun w hw => of_any (c := exAC[0]) (cx0.keep hw) (by rw [show [exAC[0]] = exAC from rfl, exA_sz]; decide)
  obtain ⟨pa0, pc0, hp0, _⟩ := cx0.ps
  obtain ⟨ca0, cc0, hv0, _⟩ := cx0.cs
  have HB1 := hid_mk hB1
  simp only [Nat.zero_mul, Nat.add_zero] at a0 b0
  rw [show exAC.length = 1 from rfl] at *
  clear hA hcl hsa hat cx0 hB1 HB0
  go_wp2_with (go_at_call 5; fail)
  refine hb.mono ?_
  rintro e w2 ⟨u2, rfl, hcl2, hB2⟩
  have hB2' : Below W.heap.size W w2 := HB1.out.trans (hB2.mono HB1.out.size)
  have hcc := HC0.out w2 hB2'
  unfold exC at hcc
  have HB2 := hid_mk hB2
  have HB2' := hid_mk hB2'
  have HCL2 := hid_mk hcl2
  obtain ⟨b2, off2, ⟨a2, cap2, rfl, hd1, hd2, hsa2⟩, hat2⟩ := hcl2.at
  obtain ⟨rfl, hbw2⟩ := hsa2 (by decide)
  rw [show exBC.length = 1 from rfl] at *
  clear hb hcl2 hsa2 hat2 hB2 hB2' HC0
  go_wp2_with (go_at_call 5; fail)
  refine hcc.mono ?_
  rintro e w3 ⟨rfl, hB3⟩
  have hB13 : Below w1.heap.size w1 w3 := HB2.out.trans (hB3.mono HB2.out.size)
  have hof := HOF.out w3 hB13
  rw [exA_most] at hof
  unfold S3.v at hof
  have c0 := (hB13.cell (p := ⟨b, off, none⟩) hbw).trans a0
  have c1 := (hB13.cell (p := ⟨b, off + 1, none⟩) hbw).trans b0
  have HB3 := hid_mk hB3
  subst hp0 hv0
  clear hcc hB3 HB1 HB2 hB13 a0 b0 HOF
  go_wp2_with (go_at_call 8; fail)
  refine hof.mono ?_
  rintro e w4 ⟨rfl, hB4⟩
  have hB24 : Below w2.heap.size w2 w4 := HB3.out.trans (hB4.mono HB3.out.size)
  have HBW4 : Hid (Below W.heap.size W w4) := HB2'.out.trans (hB24.mono HB2'.out.size)
  obtain ⟨b3, off3, ⟨a3, cap3, he3, hd3, hd4, hsa3⟩, hat3⟩ := (HCL2.out.keep hB24).at
  obtain ⟨rfl, hbw3⟩ := hsa3 (by decide)
  obtain ⟨p1, v1, _, _, bp1, op1, qv1, bq1, oq1, lv1, a1, b1, cx1⟩ := hat3 0 (by decide)
  obtain ⟨hb3, ho3⟩ : b2 = b3 ∧ off2 = off3 := by
    cases he3
    exact ⟨rfl, rfl⟩
  subst hb3 ho3
  obtain ⟨pa1, pc1, rfl, hpn, hpm, hpa⟩ := cx1.ps
  obtain ⟨rfl, _⟩ := hpa (by decide)
  have q0 := cx1.pc 0 (by decide)
  obtain ⟨qa1, qc1, hq1, hqn, hqm, hqa⟩ := cx1.qs 0 (by decide)
  obtain ⟨rfl, _⟩ := hqa (by decide)
  rw [hq1] at q0
  have r4 := cx1.qc 0 (by decide) 0 (by decide) 4 _ rfl
  have r5 := cx1.qc 0 (by decide) 0 (by decide) 5 _ rfl
  simp only [Nat.zero_mul, Nat.add_zero] at a1 b1 q0 r4 r5
  have hl1 : (exBC[0]'(by decide)).parts.length = 1 := rfl
  have hl2 : ((exBC[0]'(by decide)).parts[0]'(by decide)).length = 1 := rfl
  have hl4 : (((exBC[0]'(by decide)).parts[0]'(by decide))[0]'(by decide)).1.a = 2 := rfl
  have hl5 : (((exBC[0]'(by decide)).parts[0]'(by decide))[0]'(by decide)).1.b = 1 := rfl
  rw [hl1] at a1
  rw [hl2] at q0
  rw [hl4] at r4
  rw [hl5] at r5
  clear hof hB4 hB24 HB2' HB3 HCL2 hat3 hsa3 he3 cx1 hpa hqa hq1 hl1 hl2 hl4 hl5 hpn hpm hqn hqm c0 c1
  go_wp2
  go_ret
  exact ⟨rfl, HBW4.out⟩
end Go.Proofs.YtdibldcnklgcjaaGreatDoor.L
