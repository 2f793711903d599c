/- The simple selectors of a list of which something is asked. The reader of selectors: what is still to be read. -/
import Derived.Test.YtdgkhpkgjkpmnaaGreatDoorLLi
namespace Go.Proofs.YtdgkhpkgjkpmnaaGreatDoor.L
open Go.RowKit
set_option maxRecDepth 100000

/-- Kinds and addresses of the simple selectors of a list, part by part. -/
def SeeAt (W : World) (v : Value) (l : List (List (List (Int × Addr)))) : Prop := ∃ b off, Sl W v l.length b off ∧ ∀ i (hi : i < l.length), ∃ pv cv bp op, W.cell? ⟨b, off + i * 2, none⟩ = some pv ∧ W.cell? ⟨b, off + i * 2 + 1, none⟩ = some cv ∧ (∃ ca cn cc, cv = .slice ca cn cc) ∧ Sl W pv (l[i]'hi).length bp op ∧
  ∀ j (hj : j < (l[i]'hi).length), ∃ qv bq oq, W.cell? ⟨bp, op + j, none⟩ = some qv ∧ Sl W qv ((l[i]'hi)[j]'hj).length bq oq ∧ ∀ t (ht : t < ((l[i]'hi)[j]'hj).length), (((l[i]'hi)[j]'hj)[t]'ht).2 = ⟨bq, oq + t * 7, none⟩ ∧ W.cell? ⟨bq, oq + t * 7, none⟩ = some (.int .i64 (((l[i]'hi)[j]'hj)[t]'ht).1)
def selP (f : Int → Bool) (p : List (Int × Addr)) : List Addr := (p.filter fun x => f x.1).map Prod.snd
def selC (f : Int → Bool) (c : List (List (Int × Addr))) : List Addr := c.flatMap (selP f)
def selL (f : Int → Bool) (l : List (List (List (Int × Addr)))) : List Addr := l.flatMap (selC f)
theorem selP_step (f : Int → Bool) {p : List (Int × Addr)} {t : Nat} (h : t < p.length) : selP f (p.take (t + 1)) = selP f (p.take t) ++ if f (p[t]'h).1 = true then [(p[t]'h).2] else [] := by
  rw [List.take_add_one, List.getElem?_eq_getElem h, Option.toList_some]
  unfold selP
  rw [List.filter_append, List.map_append]
  congr 1
  by_cases hf : f (p[t]'h).1 = true
  · simp [hf]
  · simp [hf]
theorem selC_step (f : Int → Bool) {c : List (List (Int × Addr))} {t : Nat} (h : t < c.length) : selC f (c.take (t + 1)) = selC f (c.take t) ++ selP f (c[t]'h) := by
  rw [List.take_add_one, List.getElem?_eq_getElem h, Option.toList_some]
  unfold selC
  rw [List.flatMap_append]
  simp
theorem selL_step (f : Int → Bool) {l : List (List (List (Int × Addr)))} {t : Nat} (h : t < l.length) : selL f (l.take (t + 1)) = selL f (l.take t) ++ selC f (l[t]'h) := by
  rw [List.take_add_one, List.getElem?_eq_getElem h, Option.toList_some]
  unfold selL
  rw [List.flatMap_append]
  simp
theorem selP_le (f : Int → Bool) (p : List (Int × Addr)) (t : Nat) : (selP f (p.take t)).length ≤ (selP f p).length := (((List.take_sublist t p).filter _).map _).length_le
theorem selC_le (f : Int → Bool) (c : List (List (Int × Addr))) (t : Nat) : (selC f (c.take t)).length ≤ (selC f c).length := by
  have e : selC f c = selC f (c.take t) ++ selC f (c.drop t) := by
    conv => lhs; rw [← List.take_append_drop t c]
    unfold selC
    rw [List.flatMap_append]
  rw [e, List.length_append]
  omega
theorem selL_le (f : Int → Bool) (l : List (List (List (Int × Addr)))) (t : Nat) : (selL f (l.take t)).length ≤ (selL f l).length := by
  have e : selL f l = selL f (l.take t) ++ selL f (l.drop t) := by
    conv => lhs; rw [← List.take_append_drop t l]
    unfold selL
    rw [List.flatMap_append]
  rw [e, List.length_append]
  omega
/-- A row of pointers of its own. -/
def PsAt (B : Nat) (W : World) (v : Value) (l : List Addr) : Prop := W.ownsRow B 82 1 v l.length (l.map fun a => Value.pointer (some a))
theorem info122 : ∃ i z, Tryz.prog.info? 82 = some i ∧ i.zero = some z ∧ i.size = 1 ∧ i.bytes = 8 ∧ z.cells.size = 1 := ⟨_, _, by rfl, by rfl, by rfl, by rfl, by rfl⟩

set_option maxHeartbeats 2000000 in
theorem within_77 {f : Int → Bool} (hf : ∀ w k, Calls Tryz.prog 38 #[.int .i64 k] w fun e w' => e = .returned (.bool (f k)) ∧ w' = w) {W : World} {v : Value} {l : List (List (List (Int × Addr)))} (hv : SeeAt W v l) (hbig : (selL f l).length ≤ 1000000) :
    Calls Tryz.prog 37 #[v, .func (.func 38) #[] #[]] W fun e w' => ∃ v', e = .returned v' ∧ PsAt W.heap.size w' v' (selL f l) ∧ Below W.heap.size W w' := by
  obtain ⟨i0, z0, hi0, hz0, hz1, hz2, hz3⟩ := info122
  obtain ⟨b, off, ⟨a, cap, rfl, hc1, hc2, hsa⟩, hat⟩ := hv
  have HAT := hid_mk hat
  have HSA := hid_mk hsa
  have HF := hid_mk hf
  have hll : l.length ≤ 9223372036854775807 := by omega
  have HP0 : Hid (PsAt W.heap.size W (.slice none 0 0) []) := ⟨rfl, .inl ⟨rfl, rfl⟩⟩
  have HBG := hid_mk hbig
  obtain ⟨N, hN⟩ : ∃ N, N = l.length := ⟨_, rfl⟩
  rw [← hN] at hll hc1 ⊢
  have HN := hid_mk hN
  clear hat hsa hf hbig hN
  go_enter Tryz.func37, Tryz.ntmps37
  go_wp2
  go_loopw [5, 13] (fun a5 a13 wq => ∃ (i : Nat) (va : Option Addr) (vn vc : Nat), i ≤ N ∧ a13 = .int .i64 (i : Int) ∧ a5 = .slice va vn vc ∧ Hid (PsAt W.heap.size wq (.slice va vn vc) (selL f (l.take i))) ∧ Hid (Below W.heap.size W wq)) (fun _ a13 _ => N + 1 - (intOf a13).toNat)
  case atStart => exact ⟨0, _, _, _, Nat.zero_le _, rfl, rfl, HP0, Below.refl _ _⟩
  case round =>
    obtain ⟨i, va, vn, vc, hi, rfl, rfl, HP, HB⟩ := hrel
    clear HP0
    by_cases hil : i < N
    · have hil' : i < l.length := by have := HN.out; omega
      obtain ⟨rfl, hbw⟩ := HSA.out (by omega)
      obtain ⟨pv, cv, bp, op, q1, q2, ⟨ca, cn, cc, rfl⟩, ⟨pa, pc, rfl, hp1, hp2, hpa⟩, hat⟩ := HAT.out i hil'
      have q1' := (HB.out.cell (p := ⟨b, off + i * 2, none⟩) hbw).trans q1
      have q2' := (HB.out.cell (p := ⟨b, off + i * 2 + 1, none⟩) hbw).trans q2
      have HAI := hid_mk hat
      have HPA := hid_mk hpa
      have HST := hid_mk (selL_step f hil')
      have HLE := hid_mk (selL_le f l (i + 1))
      generalize l[i]'hil' = c at *
      obtain ⟨M, hM⟩ : ∃ M, M = c.length := ⟨_, rfl⟩
      rw [← hM] at hp1 q1 q1'
      have HM := hid_mk hM
      have hpl : M ≤ 9223372036854775807 := by omega
      obtain ⟨w1, hw1⟩ : ∃ w1, w1 = wr.alloc (.cells #[.slice pa M pc, .slice ca cn cc] 25) := ⟨_, rfl⟩
      have hB1 : Below wr.heap.size wr w1 := by rw [hw1]; exact (Below.refl _ _).alloc (Nat.le_refl _) _
      have x1 : w1.heap[wr.heap.size]? = some (.cells #[.slice pa M pc, .slice ca cn cc] 25 (0, 0)) := by rw [hw1]; exact heap_alloc_last wr _
      obtain ⟨k0, k1, _, _⟩ := cells2 x1
      have HB1 := hid_mk (HB.out.trans (hB1.mono HB.out.size))
      have HP1 : Hid (PsAt W.heap.size w1 (.slice va vn vc) (selL f (l.take i) ++ selC f (c.take 0))) := by
        rw [Hid, show selC f (c.take 0) = [] from rfl, List.append_nil]
        exact own_stayT HP.out fun g c hc _ => hB1.block g (Array.getElem?_eq_some_iff.1 hc).1
      have HW1 := hid_mk hw1
      clear hat hpa q1 q2 hM hw1 hB1 x1 HP HB
      go_upto_region 5 with (fail)
      rw [← HW1.out]
      clear HW1 q1' q2'
      go_wp2
      clear k0 k1
      go_loopw [5, 20] (fun a5 a20 wq => ∃ (j : Nat) (va : Option Addr) (vn vc : Nat), j ≤ M ∧ a20 = .int .i64 (j : Int) ∧ a5 = .slice va vn vc ∧ Hid (PsAt W.heap.size wq (.slice va vn vc) (selL f (l.take i) ++ selC f (c.take j))) ∧ Hid (Below W.heap.size W wq)) (fun _ a20 _ => M + 1 - (intOf a20).toNat)
      case atStart => exact ⟨0, _, _, _, Nat.zero_le _, rfl, rfl, HP1, HB1⟩
      case round =>
        obtain ⟨j, va, vn, vc, hj, rfl, rfl, HP, HB⟩ := hrel
        clear HP1 HB1
        by_cases hjl : j < M
        · have hjl' : j < c.length := by have := HM.out; omega
          obtain ⟨rfl, hbw2⟩ := HPA.out (by have := HM.out; omega)
          obtain ⟨qv, bq, oq, q3, ⟨qa, qc, rfl, hq1, hq2, hqa⟩, hat⟩ := HAI.out j hjl'
          have q3' := (HB.out.cell (p := ⟨bp, op + j, none⟩) hbw2).trans q3
          have HAJ := hid_mk hat
          have HQA := hid_mk hqa
          have HSJ := hid_mk (selC_step f hjl')
          have HLJ := hid_mk (selC_le f c (j + 1))
          generalize c[j]'hjl' = p at *
          obtain ⟨L, hL⟩ : ∃ L, L = p.length := ⟨_, rfl⟩
          rw [← hL] at hq1 q3 q3'
          have HL := hid_mk hL
          have hql : L ≤ 9223372036854775807 := by omega
          have HP1 : Hid (PsAt W.heap.size wr (.slice va vn vc) (selL f (l.take i) ++ selC f (c.take j) ++ selP f (p.take 0))) := by
            rw [Hid, show selP f (p.take 0) = [] from rfl, List.append_nil]
            exact HP.out
          have HB1 := HB
          clear hat hqa q3 hL HP HB
          go_wp2
          clear q3'
          go_loopw [5, 26] (fun a5 a26 wq => ∃ (t : Nat) (va : Option Addr) (vn vc : Nat), t ≤ L ∧ a26 = .int .i64 (t : Int) ∧ a5 = .slice va vn vc ∧ Hid (PsAt W.heap.size wq (.slice va vn vc) (selL f (l.take i) ++ selC f (c.take j) ++ selP f (p.take t))) ∧ Hid (Below W.heap.size W wq)) (fun _ a26 _ => L + 1 - (intOf a26).toNat)
          case atStart => exact ⟨0, _, _, _, Nat.zero_le _, rfl, rfl, HP1, HB1⟩
          case round =>
            obtain ⟨t, va, vn, vc, ht, rfl, rfl, HP, HB⟩ := hrel
            clear HP1 HB1
            by_cases htl : t < L
            · have htl' : t < p.length := by have := HL.out; omega
              obtain ⟨rfl, hbw3⟩ := HQA.out (by have := HL.out; omega)
              obtain ⟨hadr, hkind⟩ := HAJ.out t htl'
              have q4 := (HB.out.cell (p := ⟨bq, oq + t * 7, none⟩) hbw3).trans hkind
              have HSP := hid_mk (selP_step f htl')
              have HLP := hid_mk (selP_le f p (t + 1))
              have hcall := HF.out wr (p[t]'htl').1
              rw [hadr] at HSP
              generalize (p[t]'htl').1 = k at *
              have hd1 : ((t : Int) < (L : Int)) := by omega
              clear hadr hkind
              cases hfk : f k with
              | false =>
                have HPN : Hid (PsAt W.heap.size wr (.slice va vn vc) (selL f (l.take i) ++ selC f (c.take j) ++ selP f (p.take (t + 1)))) := by
                  rw [Hid, HSP.out, if_neg (by rw [hfk]; decide), List.append_nil]
                  exact HP.out
                rw [hfk] at hcall
                clear HP HSP hfk
                go_wp2_with (go_at_call 38; fail)
                refine hcall.mono ?_
                rintro e w2 ⟨rfl, rfl⟩
                clear hcall
                go_wp2
                exact ⟨⟨t + 1, _, _, _, by omega, by go_num, rfl, HPN, HB⟩, by simp only [intOf]; omega⟩
              | true =>
                have HE : Hid (selP f (p.take (t + 1)) = selP f (p.take t) ++ [⟨bq, oq + t * 7, none⟩]) := by rw [Hid, HSP.out, if_pos hfk]
                have hbd : (selL f (l.take i) ++ selC f (c.take j) ++ selP f (p.take t)).length + 1 ≤ 1000000 := by
                  have h1 := HBG.out
                  have h2 := HLE.out
                  have h3 := HLJ.out
                  have h4 := HLP.out
                  have e1 := congrArg List.length HST.out
                  have e2 := congrArg List.length HSJ.out
                  have e3 := congrArg List.length HE.out
                  simp only [List.length_append, List.length_singleton] at e1 e2 e3 ⊢
                  omega
                rw [hfk] at hcall
                generalize selL f (l.take i) ++ selC f (c.take j) = pre at *
                generalize hpre : pre ++ selP f (p.take t) = acc at *
                have hown : (wr.alloc (.cells #[.pointer (some ⟨bq, oq + t * 7, none⟩)] 82)).ownsRow W.heap.size 82 1 (.slice va vn vc) acc.length (acc.map fun a => Value.pointer (some a)) := own_stayT HP.out fun g c hc _ => Below.heap_alloc _ _ _ (Array.getElem?_eq_some_iff.1 hc).1
                have HNX : Hid (∀ w3 v3, (wr.alloc (.cells #[.pointer (some ⟨bq, oq + t * 7, none⟩)] 82)).grownBy w3 (Value.slice va vn vc).ownBlock → w3.ownsRow W.heap.size 82 1 v3 (acc.length + 1) ((acc.map fun a => Value.pointer (some a)) ++ [.pointer (some ⟨bq, oq + t * 7, none⟩)]) → PsAt W.heap.size w3 v3 (pre ++ selP f (p.take (t + 1))) ∧ Below W.heap.size W w3) := fun w3 v3 hgr ho => by
                  refine ⟨?_, ?_⟩
                  · rw [HE.out, ← List.append_assoc, hpre]
                    unfold PsAt
                    rw [List.length_append, List.map_append]
                    exact ho
                  · have hB2 : Below W.heap.size W (wr.alloc (.cells #[.pointer (some ⟨bq, oq + t * 7, none⟩)] 82)) := HB.out.alloc HB.out.size _
                    exact hB2.grown hgr hB2.size fun k hk => (hown.lt k hk).1
                have HOS : Hid (∀ u ∈ [Value.pointer (some ⟨bq, oq + t * 7, none⟩)], u.oneCell' = true) := by
                  intro u hu
                  rw [List.mem_singleton.1 hu]
                  rfl
                have HON : Hid (∀ j u, [Value.pointer (some ⟨bq, oq + t * 7, none⟩)][j]? = some u → (wr.alloc (.cells #[.pointer (some ⟨bq, oq + t * 7, none⟩)] 82)).cell? (Addr.add ⟨wr.heap.size, 0, none⟩ j) = some u) := one_news
                have hszA : W.heap.size ≤ (wr.alloc (.cells #[.pointer (some ⟨bq, oq + t * 7, none⟩)] 82)).heap.size := by have := HB.out.size; simp; omega
                clear HP HSP hfk HE hpre
                go_wp2_with (go_at_call 38; fail)
                refine hcall.mono ?_
                rintro e w2 ⟨rfl, rfl⟩
                clear hcall
                go_wp2_with (at_builtin; with_reducible refine wpList_append_own _ rfl _ _ 79 rfl W.heap.size 82 i0 z0 1 8 Tryz.underlying79 hi0 hz0 hz1 hz2 hz3 (by decide) (.slice va vn vc) acc.length (acc.map fun a => Value.pointer (some a)) rfl hown ⟨w2.heap.size, 0, none⟩ 1 1 [.pointer (some ⟨bq, oq + t * 7, none⟩)] rfl rfl HON.out HOS.out ?c1 ?c2 ?c3 ?_)
                case c1 => unfold maxLen; omega
                case c2 => omega
                case c3 => exact hszA
                intro v3 w3 ho3 hgr3 _
                obtain ⟨hP3, hB3⟩ := HNX.out w3 v3 hgr3 ho3
                obtain ⟨ea, en, ec, rfl⟩ := own_sl ho3
                have HP3 := hid_mk hP3
                have HB3 := hid_mk hB3
                clear HNX hown ho3 hgr3 hP3 hB3 q4
                go_wp2
                exact ⟨⟨t + 1, _, _, _, by omega, by go_num, rfl, HP3, HB3⟩, by simp only [intOf]; omega⟩
            · have hte : t = L := by omega
              subst hte
              have HPN : Hid (PsAt W.heap.size wr (.slice va vn vc) (selL f (l.take i) ++ selC f (c.take (j + 1)))) := by
                rw [Hid, HSJ.out, ← List.append_assoc]
                have h1 := HP.out
                rw [HL.out, List.take_length] at h1
                exact h1
              clear HP htl
              go_wp2
              exact ⟨⟨j + 1, _, _, _, by omega, by go_num, rfl, HPN, HB⟩, by simp only [intOf]; omega⟩
        · have hje : j = M := by omega
          subst hje
          have HPN : Hid (PsAt W.heap.size wr (.slice va vn vc) (selL f (l.take (i + 1)))) := by
            rw [Hid, HST.out]
            have h1 := HP.out
            rw [HM.out, List.take_length] at h1
            exact h1
          clear HP hjl
          go_wp2
          exact ⟨⟨i + 1, _, _, _, by omega, by go_num, rfl, HPN, HB⟩, by simp only [intOf]; omega⟩
    · have hie : i = N := by omega
      subst hie
      have HPN : Hid (PsAt W.heap.size wr (.slice va vn vc) (selL f l)) := by
        have h1 := HP.out
        rw [HN.out, List.take_length] at h1
        exact h1
      clear HP hil
      go_wp2
      go_ret
      exact ⟨_, rfl, HPN.out, HB.out⟩

end Go.Proofs.YtdgkhpkgjkpmnaaGreatDoor.L
namespace Go.Proofs.YtdgkhpkgjkpmnaaGreatDoor.L
open Go.RowKit
set_option maxRecDepth 100000

/-- Tasks in a row of its own: the values' slice, and where their list belongs. -/
def tsC (ts : List (Value × Addr)) : List Value := ts.flatMap fun x => [x.1, .pointer (some x.2)]
def TsR (B : Nat) (W : World) (v : Value) (ts : List (Value × Addr)) : Prop := W.ownsRow B 55 2 v ts.length (tsC ts)
theorem info71 : ∃ i z, Tryz.prog.info? 55 = some i ∧ i.zero = some z ∧ i.size = 2 ∧ i.bytes = 32 ∧ z.cells.size = 2 := ⟨_, _, by rfl, by rfl, by rfl, by rfl, by rfl⟩
theorem tsC_append (a b : List (Value × Addr)) : tsC (a ++ b) = tsC a ++ tsC b := by simp [tsC]
theorem own_cell {W : World} {B : Nat} {T : TypeId} {n i : Nat} {v : Value} {xs : List Value} (h : W.ownsRow B T 1 v n xs) (hi : i < n) : ∃ g c x, v = .slice (some ⟨g, 0, none⟩) n c ∧ g < W.heap.size ∧ B ≤ g ∧ n ≤ c ∧ c ≤ 9223372036854775807 ∧ xs[i]? = some x ∧ W.cell? ⟨g, i, none⟩ = some x := by
  rcases h.2 with ⟨_, e⟩ | ⟨g, cap, cur, rfl, h1, h2, h3, h4, h5, h6⟩
  · omega
  · have hl : i < xs.length := by have := h.1; omega
    refine ⟨g, cap, xs[i], rfl, (Array.getElem?_eq_some_iff.1 h2).1, h1, h3, h4, List.getElem?_eq_getElem hl, ?_⟩
    have := own_news h i _ (List.getElem?_eq_getElem hl)
    rw [Addr.add_mid, Nat.zero_add] at this
    exact this

set_option maxHeartbeats 1000000 in
theorem tasks_any {W0 W : World} {lo b : Nat} {ks : List (List V)} {us : List V} {va : Option Addr} {vn vc : Nat} {A : List Addr} (hk : Rk lo W0 b ks us W)
    (hw : Calls Tryz.prog 37 #[.slice va vn vc, .func (.func 38) #[] #[]] W fun e w' => ∃ v', e = .returned v' ∧ PsAt W.heap.size w' v' A ∧ Below W.heap.size W w') (hlen : A.length = ks.length) (hn : ks.length ≤ 1000000) :
    Calls Tryz.prog 18 #[.pointer (some ⟨b, 0, none⟩), .slice va vn vc] W fun e w' => ∃ v' ts, e = .returned v' ∧ (ks = [] → v' = .slice none 0 0) ∧ TsR W.heap.size w' v' ts ∧ ts.length = ks.length ∧ (∀ i (h : i < ts.length) (h' : i < A.length) (h'' : i < ks.length), (ts[i]'h).2 = (A[i]'h').add 6 ∧ VsAt (· < min lo b) W (ts[i]'h).1 (ks[i]'h'')) ∧ Below W.heap.size W w' := by
  obtain ⟨i0, z0, hi0, hz0, hz1, hz2, hz3⟩ := info71
  obtain ⟨kids, cs, hrd, hown, hks⟩ := hk.rd
  obtain ⟨a, n, cap, _, _, _, h1, _, _⟩ := hrd.see
  have hbl := hrd.lt
  have hcl : cs.length = ks.length := by have := hown.1; omega
  obtain ⟨ts, hts⟩ : ∃ ts : List (Value × Addr), ts = cs.zip (A.map fun x => x.add 6) := ⟨_, rfl⟩
  have htl : ts.length = ks.length := by rw [hts, List.length_zip, List.length_map, hcl, hlen, Nat.min_self]
  have hti : ∀ i (h : i < ts.length) (h' : i < A.length) (h'' : i < cs.length), ts[i]'h = (cs[i]'h'', (A[i]'h').add 6) := fun i h h' h'' => by
    simp [hts, List.getElem_zip]
  have HFIN : Hid (∀ i (h : i < ts.length) (h' : i < A.length) (h'' : i < ks.length), (ts[i]'h).2 = (A[i]'h').add 6 ∧ VsAt (· < min lo b) W (ts[i]'h).1 (ks[i]'h'')) := fun i h h' h'' => by
    have hic : i < cs.length := by omega
    obtain ⟨v, e, hv⟩ := hks i h''
    rw [List.getElem?_eq_getElem hic] at e
    cases e
    rw [hti i h h' hic]
    exact ⟨rfl, hv⟩
  have HCELL : Hid (∀ w', Below W.heap.size W w' → w'.cell? ⟨b, 1, none⟩ = some kids ∧ ∀ i (h : i < ks.length), ∃ g c x, kids = .slice (some ⟨g, 0, none⟩) ks.length c ∧ ks.length ≤ c ∧ c ≤ 9223372036854775807 ∧ cs[i]? = some x ∧ w'.cell? ⟨g, i, none⟩ = some x ∧ ∃ sa sn sc, x = .slice sa sn sc) := fun w' hB => by
    refine ⟨(hB.cell (p := ⟨b, 1, none⟩) hbl).trans (cellAt h1 1), fun i hi => ?_⟩
    obtain ⟨g, c, x, e1, e2, _, e3, e4, e5, e6⟩ := own_cell hown hi
    obtain ⟨v, e7, hv⟩ := hks i hi
    rw [e5] at e7
    cases e7
    obtain ⟨sa, sc, rfl, _, _⟩ := hv.slice
    exact ⟨g, c, _, e1, e3, e4, e5, (hB.cell (p := ⟨g, i, none⟩) e2).trans e6, _, _, _, rfl⟩
  obtain ⟨N, hN⟩ : ∃ N, N = ks.length := ⟨_, rfl⟩
  have HN := hid_mk hN
  have HTL : Hid (ts.length = N) := by rw [Hid, hN]; exact htl
  have HTI := hid_mk hti
  have HCL : Hid (cs.length = N) := by rw [Hid, hN]; exact hcl
  have HAL : Hid (A.length = N) := by rw [Hid, hN]; exact hlen
  rw [← hN] at hn HCELL
  clear hk hrd hown hks h1 hcl hts htl hti hlen hN
  go_enter Tryz.func18, Tryz.ntmps18
  go_wp2_with (go_at_call 37; fail)
  refine hw.mono ?_
  rintro e w1 ⟨v1, rfl, hps, hB1⟩
  have hps' : w1.ownsRow W.heap.size 82 1 v1 N (A.map fun a => Value.pointer (some a)) := by
    have := hps
    unfold PsAt at this
    rw [HAL.out] at this
    exact this
  have hsl : ∃ pa pc, v1 = .slice pa N pc := by
    rcases hps'.2 with ⟨rfl, e⟩ | ⟨g, cap, cur, rfl, _⟩
    · exact ⟨none, 0, by rw [e]⟩
    · exact ⟨_, _, rfl⟩
  obtain ⟨pa, pc, rfl⟩ := hsl
  have HPC : Hid (∀ i, i < N → ∃ g x, pa = some ⟨g, 0, none⟩ ∧ A[i]? = some x ∧ g < w1.heap.size ∧ w1.cell? ⟨g, i, none⟩ = some (.pointer (some x))) := fun i hi => by
    obtain ⟨g, c, x, e1, e2, _, _, _, e5, e6⟩ := own_cell hps' hi
    cases e1
    rw [List.getElem?_map] at e5
    cases hx : A[i]? with
    | none => rw [hx] at e5; cases e5
    | some y =>
      rw [hx] at e5
      cases e5
      exact ⟨g, y, rfl, rfl, e2, e6⟩
  have HB1 := hid_mk hB1
  have HT0 : Hid (TsR w1.heap.size w1 (.slice none 0 0) (ts.take 0)) := ⟨rfl, .inl ⟨rfl, rfl⟩⟩
  have hN9 : N ≤ 9223372036854775807 := by omega
  clear hw hps hps' hB1
  go_wp2
  go_loopw [5, 11] (fun a5 a11 wq => ∃ (i : Nat) (va : Option Addr) (vn vc : Nat), i ≤ N ∧ a11 = .int .i64 (i : Int) ∧ a5 = .slice va vn vc ∧ Hid (i = 0 → Value.slice va vn vc = .slice none 0 0) ∧ Hid (TsR w1.heap.size wq (.slice va vn vc) (ts.take i)) ∧ Hid (Below w1.heap.size w1 wq)) (fun _ a11 _ => N + 1 - (intOf a11).toNat)
  case atStart => exact ⟨0, _, _, _, Nat.zero_le _, rfl, rfl, fun _ => rfl, HT0, Below.refl _ _⟩
  case round =>
    obtain ⟨i, ta, tn, tc, hi, rfl, rfl, HNL, HT, HB⟩ := hrel
    clear HT0
    by_cases hil : i < N
    · obtain ⟨pg, x, rfl, hx, hpg, hpc⟩ := HPC.out i hil
      have p1 := (HB.out.cell (p := ⟨pg, i, none⟩) hpg).trans hpc
      have hBW : Below W.heap.size W wr := HB1.out.trans (HB.out.mono HB1.out.size)
      obtain ⟨c1, hcc⟩ := HCELL.out wr hBW
      obtain ⟨kg, kc, y, e1, hkc1, hkc2, hy, c2, sa, sn, sc, rfl⟩ := hcc i hil
      rw [e1] at c1
      have HTS : Hid (ts.take (i + 1) = ts.take i ++ [(.slice sa sn sc, x.add 6)]) := by
        have h1 : i < ts.length := by rw [HTL.out]; exact hil
        have h2 : i < A.length := by rw [HAL.out]; exact hil
        have h3 : i < cs.length := by rw [HCL.out]; exact hil
        rw [List.getElem?_eq_getElem h2] at hx
        rw [List.getElem?_eq_getElem h3] at hy
        rw [Hid, List.take_add_one, List.getElem?_eq_getElem h1, Option.toList_some, HTI.out i h1 h2 h3, Option.some.inj hx, Option.some.inj hy]
      have htl : (ts.take i).length = i := by rw [List.length_take, HTL.out]; omega
      have hown : wr.ownsRow w1.heap.size 55 2 (.slice ta tn tc) i (tsC (ts.take i)) := by
        have := HT.out
        unfold TsR at this
        rw [htl] at this
        exact this
      have HNX : Hid (∀ w3 v3 z, z = Value.slice sa sn sc → (wr.alloc (.cells #[z, .pointer (some (x.add 6))] 55)).drew.grownBy w3 (Value.slice ta tn tc).ownBlock → w3.ownsRow w1.heap.size 55 2 v3 (i + 1) (tsC (ts.take i) ++ [z, .pointer (some (x.add 6))]) → TsR w1.heap.size w3 v3 (ts.take (i + 1)) ∧ Below w1.heap.size w1 w3) := fun w3 v3 z hz hgr ho => by
        subst hz
        refine ⟨?_, ?_⟩
        · have hl2 : (ts.take (i + 1)).length = i + 1 := by rw [List.length_take, HTL.out]; omega
          unfold TsR
          rw [hl2, HTS.out, tsC_append]
          exact ho
        · have hB2 : Below w1.heap.size w1 (wr.alloc (.cells #[.slice sa sn sc, .pointer (some (x.add 6))] 55)).drew := (HB.out.alloc HB.out.size _).drew
          exact hB2.grown hgr hB2.size fun k hk => (hown.lt k hk).1
      have hd1 : (i : Int) < (N : Int) := by omega
      have hsz := HB.out.size
      obtain ⟨xb, xo, xs⟩ := x
      clear HT hcc e1 hx hy hpc htl
      go_upto_region 5 with (fail)
      go_region_law
        ((refine step_append_lies _ (by rfl) _ _ _ (by rfl) w1.heap.size 55 i0 z0 2 32 Tryz.underlying56 hi0 hz0 hz1 hz2 hz3 (by omega) (.slice ta tn tc) i (tsC (ts.take i)) (by rfl) ((hown.alloc _).drew)
            ⟨wr.heap.size, 0, none⟩ 1 1 [.slice sa sn sc, .pointer (some (Addr.add ⟨xb, xo, xs⟩ 6))] (by rfl) (by rfl) (World.news_of_block (cs := #[.slice sa sn sc, .pointer (some (Addr.add ⟨xb, xo, xs⟩ 6))]) (t := 55) (fr := (0, 0)) (heap_alloc_last wr _)) (by simp [Value.oneCell'])
            (by omega) (by unfold maxLen; omega) (by omega) (by simp; omega) (wr.heap.size + 1) (by simp) ?_
          intro gg cap5 w5 hown5 hgrow hgat hglt
          obtain ⟨hT5, hB5⟩ := HNX.out w5 _ _ rfl hgrow hown5
          have HT5 := hid_mk hT5
          have HB5 := hid_mk hB5
          clear hown5 hgrow hgat hglt hT5 hB5))
      all_goals go_wp2
      all_goals exact ⟨⟨i + 1, _, _, _, by omega, by go_num, rfl, (fun h => absurd h (by omega)), HT5, HB5⟩, by simp only [intOf]; omega⟩
    · have hie : i = N := by omega
      subst hie
      have HZ : Hid (TsR W.heap.size wr (.slice ta tn tc) ts ∧ Below W.heap.size W wr) := by
        have h1 := HT.out
        rw [List.take_of_length_le (by rw [HTL.out]; exact Nat.le_refl _)] at h1
        exact ⟨own_from h1 HB1.out.size, HB1.out.trans (HB.out.mono HB1.out.size)⟩
      clear HT hil
      go_wp2
      go_ret
      exact ⟨_, ts, rfl, (fun h => HNL.out (by rw [HN.out, h]; rfl)), HZ.out.1, by rw [HTL.out]; exact HN.out, HFIN.out, HZ.out.2⟩
end Go.Proofs.YtdgkhpkgjkpmnaaGreatDoor.L
