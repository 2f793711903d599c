/- The simple selectors of a list of which something is asked. The Lists within a list that are weighed: how many there are in all, and where they lie. -/
import Derived.Test.YtbeolmofnmnknaaGreatDoorLLi
import Derived.Test.YtbeolmofnmnknaaGreatDoorLGr
namespace Go.Proofs.YtbeolmofnmnknaaGreatDoor.L
open Go.RowKit
set_option maxRecDepth 100000

/-- Kinds and addresses of the simple selectors of a list, part by part. -/
def SeeAt (W : World) (v : Value) (l : List (List (List (Int × Addr)))) : Prop := ∃ b off, Sl W v l.length b off ∧ ∀ i (hi : i < l.length), ∃ pv cv bp op, W.cell? ⟨b, off + i * 2, none⟩ = some pv ∧ W.cell? ⟨b, off + i * 2 + 1, none⟩ = some cv ∧ (∃ ca cn cc, cv = .slice ca cn cc) ∧ Sl W pv (l[i]'hi).length bp op ∧
  ∀ j (hj : j < (l[i]'hi).length), ∃ qv bq oq, W.cell? ⟨bp, op + j, none⟩ = some qv ∧ Sl W qv ((l[i]'hi)[j]'hj).length bq oq ∧ ∀ t (ht : t < ((l[i]'hi)[j]'hj).length), (((l[i]'hi)[j]'hj)[t]'ht).2 = ⟨bq, oq + t * 7, none⟩ ∧ W.cell? ⟨bq, oq + t * 7, none⟩ = some (.int .i64 (((l[i]'hi)[j]'hj)[t]'ht).1)
def selP (f : Int → Bool) (p : List (Int × Addr)) : List Addr := (p.filter fun x => f x.1).map Prod.snd
def selC (f : Int → Bool) (c : List (List (Int × Addr))) : List Addr := c.flatMap (selP f)
def selL (f : Int → Bool) (l : List (List (List (Int × Addr)))) : List Addr := l.flatMap (selC f)
theorem selP_step (f : Int → Bool) {p : List (Int × Addr)} {t : Nat} (h : t < p.length) : selP f (p.take (t + 1)) = selP f (p.take t) ++ if f (p[t]'h).1 = true then [(p[t]'h).2] else [] := by
  rw [List.take_add_one, List.getElem?_eq_getElem h, Option.toList_some]
  unfold selP
  rw [List.filter_append, List.map_append]
  congr 1
  by_cases hf : f (p[t]'h).1 = true
  · simp [hf]
  · simp [hf]
theorem selC_step (f : Int → Bool) {c : List (List (Int × Addr))} {t : Nat} (h : t < c.length) : selC f (c.take (t + 1)) = selC f (c.take t) ++ selP f (c[t]'h) := by
  rw [List.take_add_one, List.getElem?_eq_getElem h, Option.toList_some]
  unfold selC
  rw [List.flatMap_append]
  simp
theorem selL_step (f : Int → Bool) {l : List (List (List (Int × Addr)))} {t : Nat} (h : t < l.length) : selL f (l.take (t + 1)) = selL f (l.take t) ++ selC f (l[t]'h) := by
  rw [List.take_add_one, List.getElem?_eq_getElem h, Option.toList_some]
  unfold selL
  rw [List.flatMap_append]
  simp
theorem selP_le (f : Int → Bool) (p : List (Int × Addr)) (t : Nat) : (selP f (p.take t)).length ≤ (selP f p).length := (((List.take_sublist t p).filter _).map _).length_le
theorem selC_le (f : Int → Bool) (c : List (List (Int × Addr))) (t : Nat) : (selC f (c.take t)).length ≤ (selC f c).length := by
  have e : selC f c = selC f (c.take t) ++ selC f (c.drop t) := by
    conv => lhs; rw [← List.take_append_drop t c]
    unfold selC
    rw [List.flatMap_append]
  rw [e, List.length_append]
  omega
theorem selL_le (f : Int → Bool) (l : List (List (List (Int × Addr)))) (t : Nat) : (selL f (l.take t)).length ≤ (selL f l).length := by
  have e : selL f l = selL f (l.take t) ++ selL f (l.drop t) := by
    conv => lhs; rw [← List.take_append_drop t l]
    unfold selL
    rw [List.flatMap_append]
  rw [e, List.length_append]
  omega
/-- A row of pointers of its own. -/
def PsAt (B : Nat) (W : World) (v : Value) (l : List Addr) : Prop := W.ownsRow B 60 1 v l.length (l.map fun a => Value.pointer (some a))
theorem info122 : ∃ i z, Tryz.prog.info? 60 = some i ∧ i.zero = some z ∧ i.size = 1 ∧ i.bytes = 8 ∧ z.cells.size = 1 := ⟨_, _, by rfl, by rfl, by rfl, by rfl, by rfl⟩

set_option maxHeartbeats 2000000 in
theorem within_77 {f : Int → Bool} (hf : ∀ w k, Calls Tryz.prog 42 #[.int .i64 k] w fun e w' => e = .returned (.bool (f k)) ∧ w' = w) {W : World} {v : Value} {l : List (List (List (Int × Addr)))} (hv : SeeAt W v l) (hbig : (selL f l).length ≤ 1000000) :
    Calls Tryz.prog 18 #[v, .func (.func 42) #[] #[]] W fun e w' => ∃ v', e = .returned v' ∧ PsAt W.heap.size w' v' (selL f l) ∧ Below W.heap.size W w' := by
  obtain ⟨i0, z0, hi0, hz0, hz1, hz2, hz3⟩ := info122
  obtain ⟨b, off, ⟨a, cap, rfl, hc1, hc2, hsa⟩, hat⟩ := hv
  have HAT := hid_mk hat
  have HSA := hid_mk hsa
  have HF := hid_mk hf
  have hll : l.length ≤ 9223372036854775807 := by omega
  have HP0 : Hid (PsAt W.heap.size W (.slice none 0 0) []) := ⟨rfl, .inl ⟨rfl, rfl⟩⟩
  have HBG := hid_mk hbig
  obtain ⟨N, hN⟩ : ∃ N, N = l.length := ⟨_, rfl⟩
  rw [← hN] at hll hc1 ⊢
  have HN := hid_mk hN
  clear hat hsa hf hbig hN
  go_enter Tryz.func18, Tryz.ntmps18
  go_wp2
  go_loopw [5, 13] (fun a5 a13 wq => ∃ (i : Nat) (va : Option Addr) (vn vc : Nat), i ≤ N ∧ a13 = .int .i64 (i : Int) ∧ a5 = .slice va vn vc ∧ Hid (PsAt W.heap.size wq (.slice va vn vc) (selL f (l.take i))) ∧ Hid (Below W.heap.size W wq)) (fun _ a13 _ => N + 1 - (intOf a13).toNat)
  case atStart => exact ⟨0, _, _, _, Nat.zero_le _, rfl, rfl, HP0, Below.refl _ _⟩
  case round =>
    obtain ⟨i, va, vn, vc, hi, rfl, rfl, HP, HB⟩ := hrel
    clear HP0
    by_cases hil : i < N
    · have hil' : i < l.length := by have := HN.out; omega
      obtain ⟨rfl, hbw⟩ := HSA.out (by omega)
      obtain ⟨pv, cv, bp, op, q1, q2, ⟨ca, cn, cc, rfl⟩, ⟨pa, pc, rfl, hp1, hp2, hpa⟩, hat⟩ := HAT.out i hil'
      have q1' := (HB.out.cell (p := ⟨b, off + i * 2, none⟩) hbw).trans q1
      have q2' := (HB.out.cell (p := ⟨b, off + i * 2 + 1, none⟩) hbw).trans q2
      have HAI := hid_mk hat
      have HPA := hid_mk hpa
      have HST := hid_mk (selL_step f hil')
      have HLE := hid_mk (selL_le f l (i + 1))
      generalize l[i]'hil' = c at *
      obtain ⟨M, hM⟩ : ∃ M, M = c.length := ⟨_, rfl⟩
      rw [← hM] at hp1 q1 q1'
      have HM := hid_mk hM
      have hpl : M ≤ 9223372036854775807 := by omega
      obtain ⟨w1, hw1⟩ : ∃ w1, w1 = wr.alloc (.cells #[.slice pa M pc, .slice ca cn cc] 26) := ⟨_, rfl⟩
      have hB1 : Below wr.heap.size wr w1 := by rw [hw1]; exact (Below.refl _ _).alloc (Nat.le_refl _) _
      have x1 : w1.heap[wr.heap.size]? = some (.cells #[.slice pa M pc, .slice ca cn cc] 26 (0, 0)) := by rw [hw1]; exact heap_alloc_last wr _
      obtain ⟨k0, k1, _, _⟩ := cells2 x1
      have HB1 := hid_mk (HB.out.trans (hB1.mono HB.out.size))
      have HP1 : Hid (PsAt W.heap.size w1 (.slice va vn vc) (selL f (l.take i) ++ selC f (c.take 0))) := by
        rw [Hid, show selC f (c.take 0) = [] from rfl, List.append_nil]
        exact own_stayT HP.out fun g c hc _ => hB1.block g (Array.getElem?_eq_some_iff.1 hc).1
      have HW1 := hid_mk hw1
      clear hat hpa q1 q2 hM hw1 hB1 x1 HP HB
      go_upto_region 5 with (fail)
      rw [← HW1.out]
      clear HW1 q1' q2'
      go_wp2
      clear k0 k1
      go_loopw [5, 20] (fun a5 a20 wq => ∃ (j : Nat) (va : Option Addr) (vn vc : Nat), j ≤ M ∧ a20 = .int .i64 (j : Int) ∧ a5 = .slice va vn vc ∧ Hid (PsAt W.heap.size wq (.slice va vn vc) (selL f (l.take i) ++ selC f (c.take j))) ∧ Hid (Below W.heap.size W wq)) (fun _ a20 _ => M + 1 - (intOf a20).toNat)
      case atStart => exact ⟨0, _, _, _, Nat.zero_le _, rfl, rfl, HP1, HB1⟩
      case round =>
        obtain ⟨j, va, vn, vc, hj, rfl, rfl, HP, HB⟩ := hrel
        clear HP1 HB1
        by_cases hjl : j < M
        · have hjl' : j < c.length := by have := HM.out; omega
          obtain ⟨rfl, hbw2⟩ := HPA.out (by have := HM.out; omega)
          obtain ⟨qv, bq, oq, q3, ⟨qa, qc, rfl, hq1, hq2, hqa⟩, hat⟩ := HAI.out j hjl'
          have q3' := (HB.out.cell (p := ⟨bp, op + j, none⟩) hbw2).trans q3
          have HAJ := hid_mk hat
          have HQA := hid_mk hqa
          have HSJ := hid_mk (selC_step f hjl')
          have HLJ := hid_mk (selC_le f c (j + 1))
          generalize c[j]'hjl' = p at *
          obtain ⟨L, hL⟩ : ∃ L, L = p.length := ⟨_, rfl⟩
          rw [← hL] at hq1 q3 q3'
          have HL := hid_mk hL
          have hql : L ≤ 9223372036854775807 := by omega
          have HP1 : Hid (PsAt W.heap.size wr (.slice va vn vc) (selL f (l.take i) ++ selC f (c.take j) ++ selP f (p.take 0))) := by
            rw [Hid, show selP f (p.take 0) = [] from rfl, List.append_nil]
            exact HP.out
          have HB1 := HB
          clear hat hqa q3 hL HP HB
          go_wp2
          clear q3'
          go_loopw [5, 26] (fun a5 a26 wq => ∃ (t : Nat) (va : Option Addr) (vn vc : Nat), t ≤ L ∧ a26 = .int .i64 (t : Int) ∧ a5 = .slice va vn vc ∧ Hid (PsAt W.heap.size wq (.slice va vn vc) (selL f (l.take i) ++ selC f (c.take j) ++ selP f (p.take t))) ∧ Hid (Below W.heap.size W wq)) (fun _ a26 _ => L + 1 - (intOf a26).toNat)
          case atStart => exact ⟨0, _, _, _, Nat.zero_le _, rfl, rfl, HP1, HB1⟩
          case round =>
            obtain ⟨t, va, vn, vc, ht, rfl, rfl, HP, HB⟩ := hrel
            clear HP1 HB1
            by_cases htl : t < L
            · have htl' : t < p.length := by have := HL.out; omega
              obtain ⟨rfl, hbw3⟩ := HQA.out (by have := HL.out; omega)
              obtain ⟨hadr, hkind⟩ := HAJ.out t htl'
              have q4 := (HB.out.cell (p := ⟨bq, oq + t * 7, none⟩) hbw3).trans hkind
              have HSP := hid_mk (selP_step f htl')
              have HLP := hid_mk (selP_le f p (t + 1))
              have hcall := HF.out wr (p[t]'htl').1
              rw [hadr] at HSP
              generalize (p[t]'htl').1 = k at *
              have hd1 : ((t : Int) < (L : Int)) := by omega
              clear hadr hkind
              cases hfk : f k with
              | false =>
                have HPN : Hid (PsAt W.heap.size wr (.slice va vn vc) (selL f (l.take i) ++ selC f (c.take j) ++ selP f (p.take (t + 1)))) := by
                  rw [Hid, HSP.out, if_neg (by rw [hfk]; decide), List.append_nil]
                  exact HP.out
                rw [hfk] at hcall
                clear HP HSP hfk
                go_wp2_with (go_at_call 42; fail)
                refine hcall.mono ?_
                rintro e w2 ⟨rfl, rfl⟩
                clear hcall
                go_wp2
                exact ⟨⟨t + 1, _, _, _, by omega, by go_num, rfl, HPN, HB⟩, by simp only [intOf]; omega⟩
              | true =>
                have HE : Hid (selP f (p.take (t + 1)) = selP f (p.take t) ++ [⟨bq, oq + t * 7, none⟩]) := by rw [Hid, HSP.out, if_pos hfk]
                have hbd : (selL f (l.take i) ++ selC f (c.take j) ++ selP f (p.take t)).length + 1 ≤ 1000000 := by
                  have h1 := HBG.out
                  have h2 := HLE.out
                  have h3 := HLJ.out
                  have h4 := HLP.out
                  have e1 := congrArg List.length HST.out
                  have e2 := congrArg List.length HSJ.out
                  have e3 := congrArg List.length HE.out
                  simp only [List.length_append, List.length_singleton] at e1 e2 e3 ⊢
                  omega
                rw [hfk] at hcall
                generalize selL f (l.take i) ++ selC f (c.take j) = pre at *
                generalize hpre : pre ++ selP f (p.take t) = acc at *
                have hown : (wr.alloc (.cells #[.pointer (some ⟨bq, oq + t * 7, none⟩)] 60)).ownsRow W.heap.size 60 1 (.slice va vn vc) acc.length (acc.map fun a => Value.pointer (some a)) := own_stayT HP.out fun g c hc _ => Below.heap_alloc _ _ _ (Array.getElem?_eq_some_iff.1 hc).1
                have HNX : Hid (∀ w3 v3, (wr.alloc (.cells #[.pointer (some ⟨bq, oq + t * 7, none⟩)] 60)).grownBy w3 (Value.slice va vn vc).ownBlock → w3.ownsRow W.heap.size 60 1 v3 (acc.length + 1) ((acc.map fun a => Value.pointer (some a)) ++ [.pointer (some ⟨bq, oq + t * 7, none⟩)]) → PsAt W.heap.size w3 v3 (pre ++ selP f (p.take (t + 1))) ∧ Below W.heap.size W w3) := fun w3 v3 hgr ho => by
                  refine ⟨?_, ?_⟩
                  · rw [HE.out, ← List.append_assoc, hpre]
                    unfold PsAt
                    rw [List.length_append, List.map_append]
                    exact ho
                  · have hB2 : Below W.heap.size W (wr.alloc (.cells #[.pointer (some ⟨bq, oq + t * 7, none⟩)] 60)) := HB.out.alloc HB.out.size _
                    exact hB2.grown hgr hB2.size fun k hk => (hown.lt k hk).1
                have HOS : Hid (∀ u ∈ [Value.pointer (some ⟨bq, oq + t * 7, none⟩)], u.oneCell' = true) := by
                  intro u hu
                  rw [List.mem_singleton.1 hu]
                  rfl
                have HON : Hid (∀ j u, [Value.pointer (some ⟨bq, oq + t * 7, none⟩)][j]? = some u → (wr.alloc (.cells #[.pointer (some ⟨bq, oq + t * 7, none⟩)] 60)).cell? (Addr.add ⟨wr.heap.size, 0, none⟩ j) = some u) := one_news
                have hszA : W.heap.size ≤ (wr.alloc (.cells #[.pointer (some ⟨bq, oq + t * 7, none⟩)] 60)).heap.size := by have := HB.out.size; simp; omega
                clear HP HSP hfk HE hpre
                go_wp2_with (go_at_call 42; fail)
                refine hcall.mono ?_
                rintro e w2 ⟨rfl, rfl⟩
                clear hcall
                go_wp2_with (at_builtin; with_reducible refine wpList_append_own _ rfl _ _ 57 rfl W.heap.size 60 i0 z0 1 8 Tryz.underlying57 hi0 hz0 hz1 hz2 hz3 (by decide) (.slice va vn vc) acc.length (acc.map fun a => Value.pointer (some a)) rfl hown ⟨w2.heap.size, 0, none⟩ 1 1 [.pointer (some ⟨bq, oq + t * 7, none⟩)] rfl rfl HON.out HOS.out ?c1 ?c2 ?c3 ?_)
                case c1 => unfold maxLen; omega
                case c2 => omega
                case c3 => exact hszA
                intro v3 w3 ho3 hgr3 _
                obtain ⟨hP3, hB3⟩ := HNX.out w3 v3 hgr3 ho3
                obtain ⟨ea, en, ec, rfl⟩ := own_sl ho3
                have HP3 := hid_mk hP3
                have HB3 := hid_mk hB3
                clear HNX hown ho3 hgr3 hP3 hB3 q4
                go_wp2
                exact ⟨⟨t + 1, _, _, _, by omega, by go_num, rfl, HP3, HB3⟩, by simp only [intOf]; omega⟩
            · have hte : t = L := by omega
              subst hte
              have HPN : Hid (PsAt W.heap.size wr (.slice va vn vc) (selL f (l.take i) ++ selC f (c.take (j + 1)))) := by
                rw [Hid, HSJ.out, ← List.append_assoc]
                have h1 := HP.out
                rw [HL.out, List.take_length] at h1
                exact h1
              clear HP htl
              go_wp2
              exact ⟨⟨j + 1, _, _, _, by omega, by go_num, rfl, HPN, HB⟩, by simp only [intOf]; omega⟩
        · have hje : j = M := by omega
          subst hje
          have HPN : Hid (PsAt W.heap.size wr (.slice va vn vc) (selL f (l.take (i + 1)))) := by
            rw [Hid, HST.out]
            have h1 := HP.out
            rw [HM.out, List.take_length] at h1
            exact h1
          clear HP hjl
          go_wp2
          exact ⟨⟨i + 1, _, _, _, by omega, by go_num, rfl, HPN, HB⟩, by simp only [intOf]; omega⟩
    · have hie : i = N := by omega
      subst hie
      have HPN : Hid (PsAt W.heap.size wr (.slice va vn vc) (selL f l)) := by
        have h1 := HP.out
        rw [HN.out, List.take_length] at h1
        exact h1
      clear HP hil
      go_wp2
      go_ret
      exact ⟨_, rfl, HPN.out, HB.out⟩

set_option maxHeartbeats 2000000 in
theorem within_83 {f : Int → Bool} (hf : ∀ w k, Calls Tryz.prog 19 #[.int .i64 k] w fun e w' => e = .returned (.bool (f k)) ∧ w' = w) {W : World} {v : Value} {l : List (List (List (Int × Addr)))} (hv : SeeAt W v l) (hbig : (selL f l).length ≤ 1000000) :
    Calls Tryz.prog 18 #[v, .func (.func 19) #[] #[]] W fun e w' => ∃ v', e = .returned v' ∧ PsAt W.heap.size w' v' (selL f l) ∧ Below W.heap.size W w' := by
  obtain ⟨i0, z0, hi0, hz0, hz1, hz2, hz3⟩ := info122
  obtain ⟨b, off, ⟨a, cap, rfl, hc1, hc2, hsa⟩, hat⟩ := hv
  have HAT := hid_mk hat
  have HSA := hid_mk hsa
  have HF := hid_mk hf
  have hll : l.length ≤ 9223372036854775807 := by omega
  have HP0 : Hid (PsAt W.heap.size W (.slice none 0 0) []) := ⟨rfl, .inl ⟨rfl, rfl⟩⟩
  have HBG := hid_mk hbig
  obtain ⟨N, hN⟩ : ∃ N, N = l.length := ⟨_, rfl⟩
  rw [← hN] at hll hc1 ⊢
  have HN := hid_mk hN
  clear hat hsa hf hbig hN
  go_enter Tryz.func18, Tryz.ntmps18
  go_wp2
  go_loopw [5, 13] (fun a5 a13 wq => ∃ (i : Nat) (va : Option Addr) (vn vc : Nat), i ≤ N ∧ a13 = .int .i64 (i : Int) ∧ a5 = .slice va vn vc ∧ Hid (PsAt W.heap.size wq (.slice va vn vc) (selL f (l.take i))) ∧ Hid (Below W.heap.size W wq)) (fun _ a13 _ => N + 1 - (intOf a13).toNat)
  case atStart => exact ⟨0, _, _, _, Nat.zero_le _, rfl, rfl, HP0, Below.refl _ _⟩
  case round =>
    obtain ⟨i, va, vn, vc, hi, rfl, rfl, HP, HB⟩ := hrel
    clear HP0
    by_cases hil : i < N
    · have hil' : i < l.length := by have := HN.out; omega
      obtain ⟨rfl, hbw⟩ := HSA.out (by omega)
      obtain ⟨pv, cv, bp, op, q1, q2, ⟨ca, cn, cc, rfl⟩, ⟨pa, pc, rfl, hp1, hp2, hpa⟩, hat⟩ := HAT.out i hil'
      have q1' := (HB.out.cell (p := ⟨b, off + i * 2, none⟩) hbw).trans q1
      have q2' := (HB.out.cell (p := ⟨b, off + i * 2 + 1, none⟩) hbw).trans q2
      have HAI := hid_mk hat
      have HPA := hid_mk hpa
      have HST := hid_mk (selL_step f hil')
      have HLE := hid_mk (selL_le f l (i + 1))
      generalize l[i]'hil' = c at *
      obtain ⟨M, hM⟩ : ∃ M, M = c.length := ⟨_, rfl⟩
      rw [← hM] at hp1 q1 q1'
      have HM := hid_mk hM
      have hpl : M ≤ 9223372036854775807 := by omega
      obtain ⟨w1, hw1⟩ : ∃ w1, w1 = wr.alloc (.cells #[.slice pa M pc, .slice ca cn cc] 26) := ⟨_, rfl⟩
      have hB1 : Below wr.heap.size wr w1 := by rw [hw1]; exact (Below.refl _ _).alloc (Nat.le_refl _) _
      have x1 : w1.heap[wr.heap.size]? = some (.cells #[.slice pa M pc, .slice ca cn cc] 26 (0, 0)) := by rw [hw1]; exact heap_alloc_last wr _
      obtain ⟨k0, k1, _, _⟩ := cells2 x1
      have HB1 := hid_mk (HB.out.trans (hB1.mono HB.out.size))
      have HP1 : Hid (PsAt W.heap.size w1 (.slice va vn vc) (selL f (l.take i) ++ selC f (c.take 0))) := by
        rw [Hid, show selC f (c.take 0) = [] from rfl, List.append_nil]
        exact own_stayT HP.out fun g c hc _ => hB1.block g (Array.getElem?_eq_some_iff.1 hc).1
      have HW1 := hid_mk hw1
      clear hat hpa q1 q2 hM hw1 hB1 x1 HP HB
      go_upto_region 5 with (fail)
      rw [← HW1.out]
      clear HW1 q1' q2'
      go_wp2
      clear k0 k1
      go_loopw [5, 20] (fun a5 a20 wq => ∃ (j : Nat) (va : Option Addr) (vn vc : Nat), j ≤ M ∧ a20 = .int .i64 (j : Int) ∧ a5 = .slice va vn vc ∧ Hid (PsAt W.heap.size wq (.slice va vn vc) (selL f (l.take i) ++ selC f (c.take j))) ∧ Hid (Below W.heap.size W wq)) (fun _ a20 _ => M + 1 - (intOf a20).toNat)
      case atStart => exact ⟨0, _, _, _, Nat.zero_le _, rfl, rfl, HP1, HB1⟩
      case round =>
        obtain ⟨j, va, vn, vc, hj, rfl, rfl, HP, HB⟩ := hrel
        clear HP1 HB1
        by_cases hjl : j < M
        · have hjl' : j < c.length := by have := HM.out; omega
          obtain ⟨rfl, hbw2⟩ := HPA.out (by have := HM.out; omega)
          obtain ⟨qv, bq, oq, q3, ⟨qa, qc, rfl, hq1, hq2, hqa⟩, hat⟩ := HAI.out j hjl'
          have q3' := (HB.out.cell (p := ⟨bp, op + j, none⟩) hbw2).trans q3
          have HAJ := hid_mk hat
          have HQA := hid_mk hqa
          have HSJ := hid_mk (selC_step f hjl')
          have HLJ := hid_mk (selC_le f c (j + 1))
          generalize c[j]'hjl' = p at *
          obtain ⟨L, hL⟩ : ∃ L, L = p.length := ⟨_, rfl⟩
          rw [← hL] at hq1 q3 q3'
          have HL := hid_mk hL
          have hql : L ≤ 9223372036854775807 := by omega
          have HP1 : Hid (PsAt W.heap.size wr (.slice va vn vc) (selL f (l.take i) ++ selC f (c.take j) ++ selP f (p.take 0))) := by
            rw [Hid, show selP f (p.take 0) = [] from rfl, List.append_nil]
            exact HP.out
          have HB1 := HB
          clear hat hqa q3 hL HP HB
          go_wp2
          clear q3'
          go_loopw [5, 26] (fun a5 a26 wq => ∃ (t : Nat) (va : Option Addr) (vn vc : Nat), t ≤ L ∧ a26 = .int .i64 (t : Int) ∧ a5 = .slice va vn vc ∧ Hid (PsAt W.heap.size wq (.slice va vn vc) (selL f (l.take i) ++ selC f (c.take j) ++ selP f (p.take t))) ∧ Hid (Below W.heap.size W wq)) (fun _ a26 _ => L + 1 - (intOf a26).toNat)
          case atStart => exact ⟨0, _, _, _, Nat.zero_le _, rfl, rfl, HP1, HB1⟩
          case round =>
            obtain ⟨t, va, vn, vc, ht, rfl, rfl, HP, HB⟩ := hrel
            clear HP1 HB1
            by_cases htl : t < L
            · have htl' : t < p.length := by have := HL.out; omega
              obtain ⟨rfl, hbw3⟩ := HQA.out (by have := HL.out; omega)
              obtain ⟨hadr, hkind⟩ := HAJ.out t htl'
              have q4 := (HB.out.cell (p := ⟨bq, oq + t * 7, none⟩) hbw3).trans hkind
              have HSP := hid_mk (selP_step f htl')
              have HLP := hid_mk (selP_le f p (t + 1))
              have hcall := HF.out wr (p[t]'htl').1
              rw [hadr] at HSP
              generalize (p[t]'htl').1 = k at *
              have hd1 : ((t : Int) < (L : Int)) := by omega
              clear hadr hkind
              cases hfk : f k with
              | false =>
                have HPN : Hid (PsAt W.heap.size wr (.slice va vn vc) (selL f (l.take i) ++ selC f (c.take j) ++ selP f (p.take (t + 1)))) := by
                  rw [Hid, HSP.out, if_neg (by rw [hfk]; decide), List.append_nil]
                  exact HP.out
                rw [hfk] at hcall
                clear HP HSP hfk
                go_wp2_with (go_at_call 19; fail)
                refine hcall.mono ?_
                rintro e w2 ⟨rfl, rfl⟩
                clear hcall
                go_wp2
                exact ⟨⟨t + 1, _, _, _, by omega, by go_num, rfl, HPN, HB⟩, by simp only [intOf]; omega⟩
              | true =>
                have HE : Hid (selP f (p.take (t + 1)) = selP f (p.take t) ++ [⟨bq, oq + t * 7, none⟩]) := by rw [Hid, HSP.out, if_pos hfk]
                have hbd : (selL f (l.take i) ++ selC f (c.take j) ++ selP f (p.take t)).length + 1 ≤ 1000000 := by
                  have h1 := HBG.out
                  have h2 := HLE.out
                  have h3 := HLJ.out
                  have h4 := HLP.out
                  have e1 := congrArg List.length HST.out
                  have e2 := congrArg List.length HSJ.out
                  have e3 := congrArg List.length HE.out
                  simp only [List.length_append, List.length_singleton] at e1 e2 e3 ⊢
                  omega
                rw [hfk] at hcall
                generalize selL f (l.take i) ++ selC f (c.take j) = pre at *
                generalize hpre : pre ++ selP f (p.take t) = acc at *
                have hown : (wr.alloc (.cells #[.pointer (some ⟨bq, oq + t * 7, none⟩)] 60)).ownsRow W.heap.size 60 1 (.slice va vn vc) acc.length (acc.map fun a => Value.pointer (some a)) := own_stayT HP.out fun g c hc _ => Below.heap_alloc _ _ _ (Array.getElem?_eq_some_iff.1 hc).1
                have HNX : Hid (∀ w3 v3, (wr.alloc (.cells #[.pointer (some ⟨bq, oq + t * 7, none⟩)] 60)).grownBy w3 (Value.slice va vn vc).ownBlock → w3.ownsRow W.heap.size 60 1 v3 (acc.length + 1) ((acc.map fun a => Value.pointer (some a)) ++ [.pointer (some ⟨bq, oq + t * 7, none⟩)]) → PsAt W.heap.size w3 v3 (pre ++ selP f (p.take (t + 1))) ∧ Below W.heap.size W w3) := fun w3 v3 hgr ho => by
                  refine ⟨?_, ?_⟩
                  · rw [HE.out, ← List.append_assoc, hpre]
                    unfold PsAt
                    rw [List.length_append, List.map_append]
                    exact ho
                  · have hB2 : Below W.heap.size W (wr.alloc (.cells #[.pointer (some ⟨bq, oq + t * 7, none⟩)] 60)) := HB.out.alloc HB.out.size _
                    exact hB2.grown hgr hB2.size fun k hk => (hown.lt k hk).1
                have HOS : Hid (∀ u ∈ [Value.pointer (some ⟨bq, oq + t * 7, none⟩)], u.oneCell' = true) := by
                  intro u hu
                  rw [List.mem_singleton.1 hu]
                  rfl
                have HON : Hid (∀ j u, [Value.pointer (some ⟨bq, oq + t * 7, none⟩)][j]? = some u → (wr.alloc (.cells #[.pointer (some ⟨bq, oq + t * 7, none⟩)] 60)).cell? (Addr.add ⟨wr.heap.size, 0, none⟩ j) = some u) := one_news
                have hszA : W.heap.size ≤ (wr.alloc (.cells #[.pointer (some ⟨bq, oq + t * 7, none⟩)] 60)).heap.size := by have := HB.out.size; simp; omega
                clear HP HSP hfk HE hpre
                go_wp2_with (go_at_call 19; fail)
                refine hcall.mono ?_
                rintro e w2 ⟨rfl, rfl⟩
                clear hcall
                go_wp2_with (at_builtin; with_reducible refine wpList_append_own _ rfl _ _ 57 rfl W.heap.size 60 i0 z0 1 8 Tryz.underlying57 hi0 hz0 hz1 hz2 hz3 (by decide) (.slice va vn vc) acc.length (acc.map fun a => Value.pointer (some a)) rfl hown ⟨w2.heap.size, 0, none⟩ 1 1 [.pointer (some ⟨bq, oq + t * 7, none⟩)] rfl rfl HON.out HOS.out ?c1 ?c2 ?c3 ?_)
                case c1 => unfold maxLen; omega
                case c2 => omega
                case c3 => exact hszA
                intro v3 w3 ho3 hgr3 _
                obtain ⟨hP3, hB3⟩ := HNX.out w3 v3 hgr3 ho3
                obtain ⟨ea, en, ec, rfl⟩ := own_sl ho3
                have HP3 := hid_mk hP3
                have HB3 := hid_mk hB3
                clear HNX hown ho3 hgr3 hP3 hB3 q4
                go_wp2
                exact ⟨⟨t + 1, _, _, _, by omega, by go_num, rfl, HP3, HB3⟩, by simp only [intOf]; omega⟩
            · have hte : t = L := by omega
              subst hte
              have HPN : Hid (PsAt W.heap.size wr (.slice va vn vc) (selL f (l.take i) ++ selC f (c.take (j + 1)))) := by
                rw [Hid, HSJ.out, ← List.append_assoc]
                have h1 := HP.out
                rw [HL.out, List.take_length] at h1
                exact h1
              clear HP htl
              go_wp2
              exact ⟨⟨j + 1, _, _, _, by omega, by go_num, rfl, HPN, HB⟩, by simp only [intOf]; omega⟩
        · have hje : j = M := by omega
          subst hje
          have HPN : Hid (PsAt W.heap.size wr (.slice va vn vc) (selL f (l.take (i + 1)))) := by
            rw [Hid, HST.out]
            have h1 := HP.out
            rw [HM.out, List.take_length] at h1
            exact h1
          clear HP hjl
          go_wp2
          exact ⟨⟨i + 1, _, _, _, by omega, by go_num, rfl, HPN, HB⟩, by simp only [intOf]; omega⟩
    · have hie : i = N := by omega
      subst hie
      have HPN : Hid (PsAt W.heap.size wr (.slice va vn vc) (selL f l)) := by
        have h1 := HP.out
        rw [HN.out, List.take_length] at h1
        exact h1
      clear HP hil
      go_wp2
      go_ret
      exact ⟨_, rfl, HPN.out, HB.out⟩
end Go.Proofs.YtbeolmofnmnknaaGreatDoor.L
namespace Go.Proofs.YtbeolmofnmnknaaGreatDoor.L
open Go.RowKit
set_option maxRecDepth 100000

theorem mem_wgL {l L : List Cx} (h : L ∈ wgL l) : dpL L < dpL l := by
  obtain ⟨c, hc, h⟩ := List.mem_flatMap.1 h
  obtain ⟨p, hp, h⟩ := List.mem_flatMap.1 h
  obtain ⟨x, hx, rfl⟩ := List.mem_map.1 h
  exact dp_in hc hp (List.mem_filter.1 hx).1
def szD : Nat → List Cx → Nat
  | 0, _ => 1
  | d + 1, l => 1 + ((wgL l).map (szD d)).sum
theorem map_congr' {α β : Type} {f g : α → β} {l : List α} (h : ∀ x ∈ l, f x = g x) : l.map f = l.map g := List.map_congr_left h
theorem szD_same : ∀ (d e : Nat) (l : List Cx), dpL l < d → dpL l < e → szD d l = szD e l
  | 0, _, _, h, _ => by omega
  | _ + 1, 0, _, _, h => by omega
  | d + 1, e + 1, l, hd, he => by
    unfold szD
    rw [map_congr' (g := szD e) fun L hL => by
      have := mem_wgL hL
      exact szD_same d e L (by omega) (by omega)]
/-- How many Lists there are within, of all depths, and the list itself. -/
def szZ (l : List Cx) : Nat := szD (dpL l + 1) l
theorem szZ_step (l : List Cx) : szZ l = 1 + ((wgL l).map szZ).sum := by
  conv => lhs; unfold szZ szD
  rw [map_congr' (g := szZ) fun L hL => by
    have := mem_wgL hL
    unfold szZ
    exact szD_same _ _ L (by omega) (by omega)]
theorem szZ_pos (l : List Cx) : 1 ≤ szZ l := by rw [szZ_step]; omega
theorem sum_len : ∀ l : List (List Cx), l.length ≤ (l.map szZ).sum
  | [] => Nat.le_refl _
  | a :: r => by
    have := sum_len r
    have := szZ_pos a
    simp only [List.length_cons, List.map_cons, List.sum_cons]
    omega
/-- The queue of spread: one is taken, those within it are put behind. -/
theorem queue_step {al : List (List Cx)} {i : Nat} (h : i < al.length) : i + ((al.drop i).map szZ).sum = (i + 1) + (((al ++ wgL (al[i]'h)).drop (i + 1)).map szZ).sum := by
  rw [List.drop_append_of_le_length (by omega), List.drop_eq_getElem_cons h, List.map_cons, List.sum_cons, List.map_append, List.sum_append, szZ_step]
  omega
/-- Two lists, item by item. -/
inductive F2 {α β : Type} (r : α → β → Prop) : List α → List β → Prop
  | nil : F2 r [] []
  | cons {a : α} {b : β} {l : List α} {m : List β} (h : r a b) (t : F2 r l m) : F2 r (a :: l) (b :: m)
theorem F2.len {α β : Type} {r : α → β → Prop} {l : List α} {m : List β} (h : F2 r l m) : l.length = m.length := by
  induction h with
  | nil => rfl
  | cons _ _ ih => simp [ih]
theorem F2.get {α β : Type} {r : α → β → Prop} {l : List α} {m : List β} (h : F2 r l m) : ∀ i (h1 : i < l.length) (h2 : i < m.length), r (l[i]'h1) (m[i]'h2) := by
  induction h with
  | nil => intro i h1; exact absurd h1 (by simp)
  | cons h _ ih =>
    intro i h1 h2
    cases i with
    | zero => exact h
    | succ i => exact ih i (by simpa using h1) (by simpa using h2)
theorem F2.of {α β : Type} {r : α → β → Prop} : ∀ {l : List α} {m : List β}, l.length = m.length → (∀ i (h1 : i < l.length) (h2 : i < m.length), r (l[i]'h1) (m[i]'h2)) → F2 r l m
  | [], [], _, _ => .nil
  | a :: l, b :: m, h, hr => .cons (hr 0 (by simp) (by simp)) (F2.of (by simpa using h) fun i h1 h2 => hr (i + 1) (Nat.succ_lt_succ h1) (Nat.succ_lt_succ h2))
theorem F2.mono {α β : Type} {r s : α → β → Prop} {l : List α} {m : List β} (h : F2 r l m) (hr : ∀ a b, r a b → s a b) : F2 s l m := by
  induction h with
  | nil => exact .nil
  | cons h _ ih => exact .cons (hr _ _ h) ih
theorem F2.append {α β : Type} {r : α → β → Prop} {l l' : List α} {m m' : List β} (h : F2 r l m) (h' : F2 r l' m') : F2 r (l ++ l') (m ++ m') := by
  induction h with
  | nil => exact h'
  | cons h _ ih => exact .cons h ih
theorem F2.flat {α β γ δ : Type} {r : α → β → Prop} {s : γ → δ → Prop} {f : α → List γ} {g : β → List δ} {l : List α} {m : List β} (h : F2 r l m) (hf : ∀ a b, r a b → F2 s (f a) (g b)) : F2 s (l.flatMap f) (m.flatMap g) := by
  induction h with
  | nil => exact .nil
  | cons h _ ih => rw [List.flatMap_cons, List.flatMap_cons]; exact (hf _ _ h).append ih
/-- A simple selector lies there, and its List. -/
def LsAt (W : World) (a : Addr) (L : List Cx) : Prop := ∃ g o u, a = ⟨g, o, none⟩ ∧ g < W.heap.size ∧ W.cell? ⟨g, o + 6, none⟩ = some u ∧ ClAt W u L
theorem sel_one {W : World} {p : List (Int × Addr)} {q : List (S6 × List Cx)} (h : F2 (fun x y => x.1 = y.1.k ∧ LsAt W x.2 y.2) p q) : F2 (LsAt W) (selP wgB p) (wgP q) := by
  unfold selP wgP
  induction h with
  | nil => exact .nil
  | cons h _ ih =>
    rw [List.filter_cons, List.filter_cons, h.1]
    split
    · exact .cons h.2 ih
    · exact ih
theorem ClAt.see {W : World} {v : Value} {l : List Cx} (h : ClAt W v l) : ∃ l', SeeAt W v l' ∧ F2 (LsAt W) (selL wgB l') (wgL l) := by
  cases h with
  | mk v l b off pv cv bc oc bp op qv bq oq lv hs hc h1 h2 h3 h4 h5 h6 hr =>
    refine ⟨l.mapIdx fun i c => c.parts.mapIdx fun j p => p.mapIdx fun t x => (x.1.k, ⟨bq i j, oq i j + t * 7, none⟩), ⟨b, off, by simpa using hs, fun i hi => ?_⟩, ?_⟩
    · have hi' : i < l.length := by simpa using hi
      obtain ⟨ca, cc, e, _⟩ := h1 i hi'
      refine ⟨pv i, cv i, bp i, op i, (hc i hi').1, (hc i hi').2, ⟨ca, _, cc, e⟩, by simpa using h3 i hi', fun j hj => ?_⟩
      have hj' : j < (l[i]'hi').parts.length := by simpa using hj
      refine ⟨qv i j, bq i j, oq i j, h4 i hi' j hj', by simpa using h5 i hi' j hj', fun t ht => ?_⟩
      have ht' : t < ((l[i]'hi').parts[j]'hj').length := by simpa using ht
      refine ⟨by simp, ?_⟩
      have := h6 i hi' j hj' t ht' 0 _ rfl
      rw [Nat.add_zero] at this
      simpa using this
    · unfold selL wgL
      refine F2.flat (r := fun x c => F2 (F2 fun x y => x.1 = y.1.k ∧ LsAt W x.2 y.2) x c.parts) (F2.of (by simp) fun i hi hi' => ?_) fun x c hx => ?_
      · rw [List.getElem_mapIdx]
        refine F2.of (by simp) fun j hj hj' => ?_
        rw [List.getElem_mapIdx]
        refine F2.of (by simp) fun t ht ht' => ?_
        rw [List.getElem_mapIdx]
        refine ⟨rfl, bq i j, oq i j + t * 7, lv i j t, rfl, ?_, h6 i hi' j hj' t ht' 6 _ rfl, hr i hi' j hj' t ht'⟩
        obtain ⟨_, _, _, _, _, e⟩ := h5 i hi' j hj'
        exact (e (by omega)).2
      · exact F2.flat hx fun p q hp => sel_one hp
/-- selector.within, asked for those that are weighed. -/
theorem within_cl {W : World} {v : Value} {l : List Cx} (h : ClAt W v l) (hbig : (wgL l).length ≤ 1000000) :
    Calls Tryz.prog 18 #[v, .func (.func 19) #[] #[]] W fun e w' => ∃ v' A, e = .returned v' ∧ PsAt W.heap.size w' v' A ∧ F2 (LsAt W) A (wgL l) ∧ Below W.heap.size W w' := by
  obtain ⟨l', hs, hf⟩ := h.see
  refine (within_83 (f := wgB) (fun w k => weighed_any w k) hs (by rw [hf.len]; exact hbig)).mono ?_
  rintro e w' ⟨v', rfl, hp, hb⟩
  exact ⟨v', _, rfl, hp, hf, hb⟩
end Go.Proofs.YtbeolmofnmnknaaGreatDoor.L
