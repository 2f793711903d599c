/- Carried from layer 3. -/
import Derived.Test.YtemlnblifkdenaaGreatDoorYReadA
import Derived.Deep.CutBlock
import Derived.Deep.DeepCutAuto
set_option maxRecDepth 100000
set_option maxHeartbeats 8000000
namespace Go.Proofs.YtemlnblifkdenaaGreatDoor.Y
open Go.RowKit
open Go.Proofs.YtemlnblifkdenaaGreatDoor.L (T5 V VsAt t5Cells vCells cell_of_heap)
theorem opened2 {P0 B:Nat} {W wr WA w1:World} {u8:Value} {ps:List (T5×Value×List V)} {x0 x1 x2 x3 x4 x5:Value} {kv:Value} {kids:List V} (hrow:Row (fun b=>P0≤b) P0 wr u8 ps) (hB:Below P0 W wr) (hAW:Below wr.heap.size wr WA) (hb1:Below WA.heap.size WA w1)
  (hx:WA.heap[B]? = some (.cells #[x0,x1,x2,x3,x4,x5] 98 (0,0))) (hBs:wr.heap.size≤B) (hk:VsAt (fun b=>WA.heap.size≤b) w1 kv kids) (hP:P0≤wr.heap.size) :
  Row (fun b=>P0≤b) P0 (w1.setCell ⟨B,5,none⟩ kv) u8 ps∧Below P0 W (w1.setCell ⟨B,5,none⟩ kv)∧(w1.setCell ⟨B,5,none⟩ kv).heap[B]? = some (.cells #[x0,x1,x2,x3,x4,kv] 98 (0,0))∧VsAt (fun b=>P0≤b∧u8.ownBlock≠some b) (w1.setCell ⟨B,5,none⟩ kv) kv kids:=by
 have hlt:B<WA.heap.size:=(Array.getElem?_eq_some_iff.1 hx).1
 have h1:Below wr.heap.size wr (w1.setCell ⟨B,5,none⟩ kv):=(hAW.trans (hb1.mono hAW.size)).setCell (p:=⟨B,5,none⟩) hBs kv
 have hx1:=(hb1.block _ hlt).trans hx
 refine ⟨hrow.keep h1,hB.trans (h1.mono hP),?_,?_⟩
 ·have:=heap_setCell_same w1 B 5 #[x0,x1,x2,x3,x4,x5] 98 kv hx1
  rw [this]
  rfl
 ·have h2:=hk.stay (W':=w1.setCell ⟨B,5,none⟩ kv) (by simp) (fun b hb _=>Below.heap_setCell w1 ⟨B,5,none⟩ kv b (by show b≠B;omega))
  refine h2.wider (fun b hb _=>⟨by have:=hAW.size;omega,fun e=>?_⟩)
  have:=(hrow.1.lt b e).2
  have:=hAW.size
  omega
def EndF (W:World) (fv:Value) (c:Int):Prop:=(fv=.func (.func 23) #[] #[]∧c=0)∨∃ B,fv=.func (.func 100) #[] #[.pointer (some ⟨B,0,none⟩)]∧c≠0∧W.heap[B]? = some (.cells #[.int .i64 c] 3 (0,0))
theorem tok5c {W:World} {B:Nat} {x0 x1 x2 x3 x4:Value} (h:W.heap[B]? = some (.cells #[x0,x1,x2,x3,x4] 65 (0,0))) :
  W.cell? ⟨B,0,none⟩=some x0∧W.cell? ⟨B,1,none⟩=some x1∧W.cell? ⟨B,2,none⟩=some x2∧W.cell? ⟨B,3,none⟩=some x3∧W.cell? ⟨B,4,none⟩=some x4:=by
 refine ⟨?_,?_,?_,?_,?_⟩ <;> simp [World.cell?,h]
theorem read_any (f:Nat):∀ (ts:List T5),ts.length≤f→∀ (W0:World) (v:Value),TsAt W0 v ts→∀ W,Below W0.heap.size W0 W→∀ (c n:Int) (fv:Value),EndF W fv c→0≤n→n≤64→ts.length≤100000 →
  Calls Tryz.prog 22 #[v,.int .i64 n,fv] W fun e w'=>∃ out rest,e=.returned (.tuple #[out,rest])∧VsAt (fun b=>W.heap.size≤b) w' out (someZ f ts c n).1∧TsAt W0 rest (someZ f ts c n).2∧Below W.heap.size W w':=by
 induction f using Nat.strongRecOn with
 | _ f ih =>
   intro ts hf W0 v hv W hW0 c n fv hfv hn0 hn1 hn2
   obtain ⟨i0,hi0,hz0,hz1,hz2⟩:=info_parts Tryz.info98
   have HV:=hid_mk hv
   have HI:=hid_mk ih
   obtain ⟨a,cap,rfl,hl,hcap,_⟩:=hv
   clear ih
   rcases hfv with ⟨rfl,hc0⟩ | ⟨BF,rfl,hcz,hBF⟩
   ·have HEN:Hid (∀ (tk:Int) (tx un:ByteArray) (wh fl:Bool) (w:World),Below W.heap.size W w→Calls Tryz.prog 23 #[.agg #[.int .i64 tk,.string tx,.string un,.bool wh,.bool fl]] w fun e w'=>e=.returned (.bool (decide (c≠0∧tk=c)))∧Below w.heap.size w w'):=by
     intro tk tx un wh fl w _
     have:decide (c≠0∧tk=c)=false:=by simp [hc0]
     rw [this]
     exact ends0_any _ w
    clear hc0
    go_enter Tryz.func22,Tryz.ntmps22
    go_wp2
    go_loopw [0,8] (fun a0 a8 wr=>∃ (g:Nat) (r:List T5) (ps:List (T5×Value×List V)),r.length≤g∧g≤f∧TsAt W0 a0 r∧Row (fun b=>W.heap.size≤b) W.heap.size wr a8 ps∧Below W.heap.size W wr∧someZ f ts c n=(ps.map mkV++(someZ g r c n).1,(someZ g r c n).2)∧ps.length+r.length≤ts.length) (fun a0 _ _=>sliceLen a0)
    case atStart=>exact ⟨f,ts,[],hf,Nat.le_refl _,HV.out,⟨World.ownsRow_nil _ _ _ _,fun g hg=>by simp [Value.ownBlock] at hg,fun p hp=>by cases hp⟩,Below.refl _ _,rfl,by simp⟩
    case round =>
     obtain ⟨g,r,ps,hg,hgf,hts,hrow,hB,hE,hpl⟩:=hrel
     have HE:=hid_mk hE
     clear hE HV
     have hW1:Below W0.heap.size W0 wr:=hW0.trans (hB.mono hW0.size)
     cases r with
     | nil =>
       obtain ⟨a0,c0,rfl,_⟩:=hts
       have HD:=hid_mk (someZ_nil g c n)
       have hvs:=hrow.vals
       have HR:Hid (VsAt (fun b=>W.heap.size≤b) wr u8 (someZ f ts c n).1∧(someZ f ts c n).2=[]):=by
        show _∧_
        rw [HE.out,HD.out,List.append_nil]
        exact ⟨hvs,rfl⟩
       clear hrow hvs HI HE HD HEN
       go_wp2
       go_ret2
       exact ⟨_,_,rfl,HR.out.1,by rw [HR.out.2];exact TsAt.nil _,hB⟩
     | cons t r =>
       obtain ⟨g,rfl⟩:∃ g',g=g'+1:=⟨g - 1,by rw [List.length_cons] at hg;omega⟩
       have HTS:=hid_mk hts
       obtain ⟨a0,c0,rfl,hc1,hc2,hcell⟩:=hts
       obtain ⟨b,off,rfl,hbw,hcc⟩:=hcell (by simp)
       have hq:=fun j y hy=>(hW1.cell (p:=⟨b,off+0 * 5+j,none⟩) hbw).trans (hcc 0 (by simp) j y hy)
       simp only [Nat.zero_mul,Nat.add_zero,List.getElem_cons_zero] at hq
       rw [List.length_cons] at hg hpl hc1
       obtain ⟨tk,tx,un,wh,fl⟩:=t
       have q0:=hq 0 _ rfl
       have q1:=hq 1 _ rfl
       have q2:=hq 2 _ rfl
       have q3:=hq 3 _ rfl
       have q4:=hq 4 _ rfl
       simp only [Nat.add_zero] at q0
       clear hq hcc hcell
       have hen:=fun w hw=>HEN.out tk tx un wh fl w hw
       obtain ⟨en,he⟩:∃ en,en=decide (c≠0∧tk=c):=⟨_,rfl⟩
       rw [← he] at hen
       have HQ:=hid_mk he
       clear he HEN
       have HTL:Hid (∀ a',(0<r.length→a'=⟨b,off+5,none⟩)→TsAt W0 (.slice (some a') r.length (c0 - 1)) r):=fun a' h=>TsAt.tail HTS.out a' h
       have hAl:Below wr.heap.size wr (wr.alloc (.cells #[.int .i64 tk,.string tx,.string un,.bool wh,.bool fl] 65)):=(Below.refl _ wr).alloc (Nat.le_refl _) _
       have hBA:Below W.heap.size W (wr.alloc (.cells #[.int .i64 tk,.string tx,.string un,.bool wh,.bool fl] 65)):=hB.trans (hAl.mono hB.size)
       have hbl0:=heap_alloc_new wr (.cells #[.int .i64 tk,.string tx,.string un,.bool wh,.bool fl] 65)
       have hsA:(wr.alloc (.cells #[.int .i64 tk,.string tx,.string un,.bool wh,.bool fl] 65)).heap.size=wr.heap.size+1:=by simp
       have HROW:=hid_mk hrow
       clear hrow HTS
       go_wp2_with (go_at_call 23;fail)
       all_goals
        refine (hen _ hBA).mono ?_
        rintro e' w1 ⟨rfl,b1⟩
        have hw1:Below wr.heap.size wr w1:=hAl.trans (b1.mono hAl.size)
        have hBw:Below W.heap.size W w1:=hB.trans (hw1.mono hB.size)
        have hWw:Below W0.heap.size W0 w1:=hW1.trans (hw1.mono hW1.size)
        have HRW:=hid_mk (HROW.out.keep hw1)
        have hx:w1.heap[wr.heap.size]? = some (.cells #[.int .i64 tk,.string tx,.string un,.bool wh,.bool fl] 65 (0,0)):=(b1.block _ (by omega)).trans hbl0
        have hsz:wr.heap.size<w1.heap.size:=(Array.getElem?_eq_some_iff.1 hx).1
        clear q0 q1 q2 q3 q4
        obtain ⟨q0,q1,q2,q3,q4⟩:=tok5c hx
        have HT:Hid (∃ sl,TsAt W0 sl r):=⟨_,HTL.out ⟨b,off+5,none⟩ (fun h=>rfl)⟩
        first
         | (have hc01:c0=1:=by omega
            subst hc01
            have htl:TsAt W0 (.slice (some ⟨b,off,none⟩) r.length 0) r:=HTL.out ⟨b,off,none⟩ (fun h=>by exfalso;omega)
            have HTT:=hid_mk htl
            clear htl)
         | (have htl:=HTL.out ⟨b,off+5,none⟩ (fun h=>rfl)
            have HTT:=hid_mk htl
            clear htl)
        clear b1 hen hBA hbl0 hAl hw1 HROW HTL HT hx hW1 hB
        have hbs:=hBw.size
        by_cases hen1:en=true
        ·subst hen1
         have HZ:Hid (someZ (g+1) (⟨tk,tx,un,wh,fl⟩::r) c n=([],r)):=by show _=_;rw [someZ,if_pos (of_decide_eq_true HQ.out.symm)]
         have HR:Hid (VsAt (fun b=>W.heap.size≤b) w1 u8 (someZ f ts c n).1∧(someZ f ts c n).2=r):=by
          show _∧_
          rw [HE.out,HZ.out,List.append_nil]
          exact ⟨HRW.out.vals,rfl⟩
         clear HRW HI HE HZ HQ
         go_wp2
         go_ret2
         exact ⟨_,_,rfl,HR.out.1,by rw [HR.out.2];exact HTT.out,hBw⟩
        ·have hen2:en=false:=by simpa using hen1
         subst hen2
         have HA:Hid (¬ (c≠0∧tk=c)):=of_decide_eq_false HQ.out.symm
         clear hen1 HQ
         have hco:=fun w=>closeOf_any tk w
         obtain ⟨e,he⟩:∃ e,e=closeZ tk:=⟨_,rfl⟩
         rw [← he] at hco
         have HEQ:=hid_mk he
         clear he
         go_wp2_with (go_at_call 52;fail)
         refine (hco _).mono ?_
         rintro e' w' ⟨rfl,rfl⟩
         clear hco
         by_cases h0:e=0
         ·subst h0
          have HNX:Hid (someZ f ts c n=((ps++[((⟨tk,tx,un,wh,fl⟩:T5),(Value.slice none 0 0),([]:List V))]).map mkV++(someZ g r c n).1,(someZ g r c n).2)):=by
           show _=_
           rw [HE.out,someZ,if_neg HA.out,if_pos HEQ.out.symm,List.map_append,List.append_assoc]
           rfl
          have hown:=HRW.out.1
          clear HI HE HA HEQ
          go_wp2_with (at_builtin;go_must (refine wpList_append_own_at _ rfl _ _ 43 rfl W.heap.size 98 i0 _ 6 72 Tryz.underlying43 hi0 hz0 hz1 hz2 rfl (by decide) _ _ _ rfl (hown.alloc _) ⟨w1.heap.size,0,none⟩ 1 1 [.int .i64 tk,.string tx,.string un,.bool wh,.bool fl,.slice none 0 0] rfl rfl (news6 w1 _ _ _ _ _ _) (by intro u hu;simp at hu;rcases hu with rfl | rfl | rfl | rfl | rfl | rfl <;> rfl) (by unfold maxLen;omega) (by omega) (by simp;omega) ?_);intro v' w7 hown7 hgrow7 _ hat7)
          go_roundw
          case rel=>exact ⟨g,r,_,by omega,by omega,HTT.out,HRW.out.push (t:=⟨tk,tx,un,wh,fl⟩) (VsAt.nil _ _) hown7 hgrow7 hat7 (by simp;omega),(hBw.alloc hbs _).grown hgrow7 (by simp;omega) (fun k hk=>(hown.lt k hk).1),HNX.out,by simp;omega⟩
          case measure=>simp [sliceLen]
         ·have zE:(e == 0)=false:=by simpa using h0
          have hrl:=some_len g r e (n+1)
          have HSZ:Hid (someZ f ts c n=if 64<n+1 then (ps.map mkV++(someZ g (someZ g r e (n+1)).2 c n).1,(someZ g (someZ g r e (n+1)).2 c n).2) else (ps.map mkV++(V.mk ⟨tk,tx,un,wh,fl⟩ (someZ g r e (n+1)).1::(someZ g (someZ g r e (n+1)).2 c n).1),(someZ g (someZ g r e (n+1)).2 c n).2)):=by
           show _=_
           rw [HE.out,someZ,if_neg HA.out,if_neg (by rw [← HEQ.out];exact h0),← HEQ.out]
           by_cases h6:64<n+1
           ·rw [if_pos h6,if_pos h6]
           ·rw [if_neg h6,if_neg h6]
          have HRS:Hid (runS [closeZ tk] r=(someZ g r e (n+1)).2):=by
           show _=_
           rw [runS_some g r (by omega) (closeZ tk) (n+1) [] (by rw [← HEQ.out];exact h0),runS,← HEQ.out]
          have HREC:Hid (∀ sl,TsAt W0 sl r→∀ w',Below W0.heap.size W0 w'→∀ fv,EndF w' fv e→n+1≤64→Calls Tryz.prog 22 #[sl,.int .i64 (n+1),fv] w' fun e' w''=>∃ out rest,e'=.returned (.tuple #[out,rest])∧VsAt (fun b=>w'.heap.size≤b) w'' out (someZ g r e (n+1)).1∧TsAt W0 rest (someZ g r e (n+1)).2∧Below w'.heap.size w' w'') :=
           fun sl hsl w' hw' fv hfv hn=>HI.out g (by omega) r (by omega) W0 sl hsl w' hw' e (n+1) fv hfv (by omega) hn (by omega)
          have HBH:Hid (Calls Tryz.prog 53 #[_,.agg #[.int .i64 tk,.string tx,.string un,.bool wh,.bool fl]] w1 fun e w'=>∃ rest,e=.returned rest∧TsAt W0 rest (runS [closeZ tk] r)∧Below w1.heap.size w1 w'):=behind_any r W0 w1 _ HTT.out hWw tk tx un wh fl (by omega)
          have HBH2:=HBH.out
          rw [HRS.out] at HBH2
          have HBK:=hid_mk HBH2
          clear HBH HBH2
          generalize someZ g r e (n+1)=Z at *
          obtain ⟨zk,zr⟩:=Z
          have HEQ2:=hid_mk HEQ.out
          clear HI HE HA HEQ HRS
          by_cases h6:n=64
          ·have HNX:Hid (someZ f ts c n=(ps.map mkV++(someZ g zr c n).1,(someZ g zr c n).2)):=by
            show _=_
            have:=HSZ.out
            rwa [if_pos (by omega)] at this
           clear HSZ HREC
           subst h6
           go_wp2_with (go_at_call 53;fail)
           refine HBK.out.mono ?_
           rintro e' w2 ⟨rest,rfl,htr,hb2⟩
           have HTR:=hid_mk htr
           obtain ⟨ra,rc,rfl,_⟩:=htr
           clear HBK
           go_wp2
           go_roundw
           case rel=>exact ⟨g,zr,ps,by omega,by omega,HTR.out,HRW.out.keep hb2,hBw.trans (hb2.mono hbs),HNX.out,by omega⟩
           case measure=>simp [sliceLen];omega
          ·have z6:(n == 64)=false:=by simpa using h6
           have HNX:Hid (∀ kv,someZ f ts c n=((ps++[((⟨tk,tx,un,wh,fl⟩:T5),(kv:Value),zk)]).map mkV++(someZ g zr c n).1,(someZ g zr c n).2)):=by
            intro kv
            have:=HSZ.out
            rw [if_neg (by omega)] at this
            rw [this,List.map_append,List.append_assoc]
            rfl
           clear HSZ HBK
           have hAv:Below w1.heap.size w1 (w1.alloc (.cells #[.int .i64 tk,.string tx,.string un,.bool wh,.bool fl,.slice none 0 0] 98)):=(Below.refl _ w1).alloc (Nat.le_refl _) _
           have hbv:=heap_alloc_new w1 (.cells #[.int .i64 tk,.string tx,.string un,.bool wh,.bool fl,.slice none 0 0] 98)
           go_wp2_with (go_at_call 54;fail)
           refine (closes_any tk tx un wh fl _).mono ?_
           rintro e' wc ⟨BC,rfl,hBC,hcx,hbc⟩
           have hsv:(w1.alloc (.cells #[.int .i64 tk,.string tx,.string un,.bool wh,.bool fl,.slice none 0 0] 98)).heap.size=w1.heap.size+1:=by simp
           have hxv:wc.heap[w1.heap.size]? = some (.cells #[.int .i64 tk,.string tx,.string un,.bool wh,.bool fl,.slice none 0 0] 98 (0,0)):=(hbc.block _ (by omega)).trans hbv
           have hAW:Below w1.heap.size w1 wc:=hAv.trans (hbc.mono hAv.size)
           rw [← HEQ2.out] at hcx
           have hrec:=HREC.out _ HTT.out wc (hWw.trans (hAW.mono hWw.size)) _ (.inr ⟨BC,rfl,h0,hcx⟩) (by omega)
           have HXV:=hid_mk hxv
           have hvlt:w1.heap.size<wc.heap.size:=(Array.getElem?_eq_some_iff.1 hxv).1
           clear hxv hbv hcx hbc hAv HREC hsv hBC q0 q1 q2 q3 q4 hsz hsA
           go_wp2_with (go_at_call 22;fail)
           refine hrec.mono ?_
           rintro e' wk ⟨kids,rest,rfl,hvk,htr,hbk⟩
           have x1:wk.heap[w1.heap.size]? = some (.cells #[.int .i64 tk,.string tx,.string un,.bool wh,.bool fl,.slice none 0 0] 98 (0,0)):=(hbk.block _ hvlt).trans HXV.out
           obtain ⟨y0,y1,y2,y3,y4,y5⟩:=tok6 x1
           have yf:=tok6f x1
           obtain ⟨ka,kc,rfl,_,_⟩:=hvk.slice
           obtain ⟨D1,D2,D3,D4⟩:=opened2 (P0:=W.heap.size) HRW.out hBw hAW hbk HXV.out (Nat.le_refl _) hvk hbs
           have HD1:=hid_mk D1
           have HD2:=hid_mk D2
           have HD3:=hid_mk D3
           have HD4:=hid_mk D4
           have HTR:=hid_mk htr
           obtain ⟨ra,rc,rfl,_⟩:=htr
           clear hrec x1 hvk hbk hAW HXV D1 D2 D3 D4 HRW hBw hWw
           go_upto_region 7 with fail
           generalize wk.setCell ⟨w1.heap.size,5,none⟩ (.slice ka zk.length kc)=w2 at *
           clear y0 y1 y2 y3 y4 y5 yf
           obtain ⟨y0,y1,y2,y3,y4,y5⟩:=tok6 HD3.out
           have hown:=HD1.out.1
           have hbs2:=HD2.out.size
           go_wp2_with (at_builtin;go_must (refine wpList_append_own_at _ rfl _ _ 43 rfl W.heap.size 98 i0 _ 6 72 Tryz.underlying43 hi0 hz0 hz1 hz2 rfl (by decide) _ _ _ rfl (hown.alloc _) ⟨w2.heap.size,0,none⟩ 1 1 [.int .i64 tk,.string tx,.string un,.bool wh,.bool fl,.slice ka zk.length kc] rfl rfl (news6 w2 _ _ _ _ _ _) (by intro u hu;simp at hu;rcases hu with rfl | rfl | rfl | rfl | rfl | rfl <;> rfl) (by unfold maxLen;omega) (by omega) (by simp;omega) ?_);intro v' w7 hown7 hgrow7 _ hat7)
           go_roundw
           case rel=>exact ⟨g,zr,_,by omega,by omega,HTR.out,HD1.out.push (t:=⟨tk,tx,un,wh,fl⟩) HD4.out hown7 hgrow7 hat7 (by simp;omega),(HD2.out.alloc hbs2 _).grown hgrow7 (by simp;omega) (fun k hk=>(hown.lt k hk).1),HNX.out _,by simp;omega⟩
           case measure=>simp [sliceLen];omega
   ·have HEN:Hid (∀ (tk:Int) (tx un:ByteArray) (wh fl:Bool) (w:World),Below W.heap.size W w→Calls Tryz.prog 100 #[.agg #[.int .i64 tk,.string tx,.string un,.bool wh,.bool fl],.pointer (some ⟨BF,0,none⟩)] w fun e w'=>e=.returned (.bool (decide (c≠0∧tk=c)))∧Below w.heap.size w w'):=by
     intro tk tx un wh fl w hw
     have:decide (c≠0∧tk=c)=(tk == c):=by
      rw [Bool.eq_iff_iff]
      simp [hcz]
     rw [this]
     exact ends1_any tk c tx un wh fl w BF ((hw.block BF (Array.getElem?_eq_some_iff.1 hBF).1).trans hBF)
    clear hcz hBF
    go_enter Tryz.func22,Tryz.ntmps22
    go_wp2
    go_loopw [0,8] (fun a0 a8 wr=>∃ (g:Nat) (r:List T5) (ps:List (T5×Value×List V)),r.length≤g∧g≤f∧TsAt W0 a0 r∧Row (fun b=>W.heap.size≤b) W.heap.size wr a8 ps∧Below W.heap.size W wr∧someZ f ts c n=(ps.map mkV++(someZ g r c n).1,(someZ g r c n).2)∧ps.length+r.length≤ts.length) (fun a0 _ _=>sliceLen a0)
    case atStart=>exact ⟨f,ts,[],hf,Nat.le_refl _,HV.out,⟨World.ownsRow_nil _ _ _ _,fun g hg=>by simp [Value.ownBlock] at hg,fun p hp=>by cases hp⟩,Below.refl _ _,rfl,by simp⟩
    case round =>
     obtain ⟨g,r,ps,hg,hgf,hts,hrow,hB,hE,hpl⟩:=hrel
     have HE:=hid_mk hE
     clear hE HV
     have hW1:Below W0.heap.size W0 wr:=hW0.trans (hB.mono hW0.size)
     cases r with
     | nil =>
       obtain ⟨a0,c0,rfl,_⟩:=hts
       have HD:=hid_mk (someZ_nil g c n)
       have hvs:=hrow.vals
       have HR:Hid (VsAt (fun b=>W.heap.size≤b) wr u8 (someZ f ts c n).1∧(someZ f ts c n).2=[]):=by
        show _∧_
        rw [HE.out,HD.out,List.append_nil]
        exact ⟨hvs,rfl⟩
       clear hrow hvs HI HE HD HEN
       go_wp2
       go_ret2
       exact ⟨_,_,rfl,HR.out.1,by rw [HR.out.2];exact TsAt.nil _,hB⟩
     | cons t r =>
       obtain ⟨g,rfl⟩:∃ g',g=g'+1:=⟨g - 1,by rw [List.length_cons] at hg;omega⟩
       have HTS:=hid_mk hts
       obtain ⟨a0,c0,rfl,hc1,hc2,hcell⟩:=hts
       obtain ⟨b,off,rfl,hbw,hcc⟩:=hcell (by simp)
       have hq:=fun j y hy=>(hW1.cell (p:=⟨b,off+0 * 5+j,none⟩) hbw).trans (hcc 0 (by simp) j y hy)
       simp only [Nat.zero_mul,Nat.add_zero,List.getElem_cons_zero] at hq
       rw [List.length_cons] at hg hpl hc1
       obtain ⟨tk,tx,un,wh,fl⟩:=t
       have q0:=hq 0 _ rfl
       have q1:=hq 1 _ rfl
       have q2:=hq 2 _ rfl
       have q3:=hq 3 _ rfl
       have q4:=hq 4 _ rfl
       simp only [Nat.add_zero] at q0
       clear hq hcc hcell
       have hen:=fun w hw=>HEN.out tk tx un wh fl w hw
       obtain ⟨en,he⟩:∃ en,en=decide (c≠0∧tk=c):=⟨_,rfl⟩
       rw [← he] at hen
       have HQ:=hid_mk he
       clear he HEN
       have HTL:Hid (∀ a',(0<r.length→a'=⟨b,off+5,none⟩)→TsAt W0 (.slice (some a') r.length (c0 - 1)) r):=fun a' h=>TsAt.tail HTS.out a' h
       have hAl:Below wr.heap.size wr (wr.alloc (.cells #[.int .i64 tk,.string tx,.string un,.bool wh,.bool fl] 65)):=(Below.refl _ wr).alloc (Nat.le_refl _) _
       have hBA:Below W.heap.size W (wr.alloc (.cells #[.int .i64 tk,.string tx,.string un,.bool wh,.bool fl] 65)):=hB.trans (hAl.mono hB.size)
       have hbl0:=heap_alloc_new wr (.cells #[.int .i64 tk,.string tx,.string un,.bool wh,.bool fl] 65)
       have hsA:(wr.alloc (.cells #[.int .i64 tk,.string tx,.string un,.bool wh,.bool fl] 65)).heap.size=wr.heap.size+1:=by simp
       have HROW:=hid_mk hrow
       clear hrow HTS
       go_wp2_with (go_at_call 100;fail)
       all_goals
        refine (hen _ hBA).mono ?_
        rintro e' w1 ⟨rfl,b1⟩
        have hw1:Below wr.heap.size wr w1:=hAl.trans (b1.mono hAl.size)
        have hBw:Below W.heap.size W w1:=hB.trans (hw1.mono hB.size)
        have hWw:Below W0.heap.size W0 w1:=hW1.trans (hw1.mono hW1.size)
        have HRW:=hid_mk (HROW.out.keep hw1)
        have hx:w1.heap[wr.heap.size]? = some (.cells #[.int .i64 tk,.string tx,.string un,.bool wh,.bool fl] 65 (0,0)):=(b1.block _ (by omega)).trans hbl0
        have hsz:wr.heap.size<w1.heap.size:=(Array.getElem?_eq_some_iff.1 hx).1
        clear q0 q1 q2 q3 q4
        obtain ⟨q0,q1,q2,q3,q4⟩:=tok5c hx
        have HT:Hid (∃ sl,TsAt W0 sl r):=⟨_,HTL.out ⟨b,off+5,none⟩ (fun h=>rfl)⟩
        first
         | (have hc01:c0=1:=by omega
            subst hc01
            have htl:TsAt W0 (.slice (some ⟨b,off,none⟩) r.length 0) r:=HTL.out ⟨b,off,none⟩ (fun h=>by exfalso;omega)
            have HTT:=hid_mk htl
            clear htl)
         | (have htl:=HTL.out ⟨b,off+5,none⟩ (fun h=>rfl)
            have HTT:=hid_mk htl
            clear htl)
        clear b1 hen hBA hbl0 hAl hw1 HROW HTL HT hx hW1 hB
        have hbs:=hBw.size
        by_cases hen1:en=true
        ·subst hen1
         have HZ:Hid (someZ (g+1) (⟨tk,tx,un,wh,fl⟩::r) c n=([],r)):=by show _=_;rw [someZ,if_pos (of_decide_eq_true HQ.out.symm)]
         have HR:Hid (VsAt (fun b=>W.heap.size≤b) w1 u8 (someZ f ts c n).1∧(someZ f ts c n).2=r):=by
          show _∧_
          rw [HE.out,HZ.out,List.append_nil]
          exact ⟨HRW.out.vals,rfl⟩
         clear HRW HI HE HZ HQ
         go_wp2
         go_ret2
         exact ⟨_,_,rfl,HR.out.1,by rw [HR.out.2];exact HTT.out,hBw⟩
        ·have hen2:en=false:=by simpa using hen1
         subst hen2
         have HA:Hid (¬ (c≠0∧tk=c)):=of_decide_eq_false HQ.out.symm
         clear hen1 HQ
         have hco:=fun w=>closeOf_any tk w
         obtain ⟨e,he⟩:∃ e,e=closeZ tk:=⟨_,rfl⟩
         rw [← he] at hco
         have HEQ:=hid_mk he
         clear he
         go_wp2_with (go_at_call 52;fail)
         refine (hco _).mono ?_
         rintro e' w' ⟨rfl,rfl⟩
         clear hco
         by_cases h0:e=0
         ·subst h0
          have HNX:Hid (someZ f ts c n=((ps++[((⟨tk,tx,un,wh,fl⟩:T5),(Value.slice none 0 0),([]:List V))]).map mkV++(someZ g r c n).1,(someZ g r c n).2)):=by
           show _=_
           rw [HE.out,someZ,if_neg HA.out,if_pos HEQ.out.symm,List.map_append,List.append_assoc]
           rfl
          have hown:=HRW.out.1
          clear HI HE HA HEQ
          go_wp2_with (at_builtin;go_must (refine wpList_append_own_at _ rfl _ _ 43 rfl W.heap.size 98 i0 _ 6 72 Tryz.underlying43 hi0 hz0 hz1 hz2 rfl (by decide) _ _ _ rfl (hown.alloc _) ⟨w1.heap.size,0,none⟩ 1 1 [.int .i64 tk,.string tx,.string un,.bool wh,.bool fl,.slice none 0 0] rfl rfl (news6 w1 _ _ _ _ _ _) (by intro u hu;simp at hu;rcases hu with rfl | rfl | rfl | rfl | rfl | rfl <;> rfl) (by unfold maxLen;omega) (by omega) (by simp;omega) ?_);intro v' w7 hown7 hgrow7 _ hat7)
          go_roundw
          case rel=>exact ⟨g,r,_,by omega,by omega,HTT.out,HRW.out.push (t:=⟨tk,tx,un,wh,fl⟩) (VsAt.nil _ _) hown7 hgrow7 hat7 (by simp;omega),(hBw.alloc hbs _).grown hgrow7 (by simp;omega) (fun k hk=>(hown.lt k hk).1),HNX.out,by simp;omega⟩
          case measure=>simp [sliceLen]
         ·have zE:(e == 0)=false:=by simpa using h0
          have hrl:=some_len g r e (n+1)
          have HSZ:Hid (someZ f ts c n=if 64<n+1 then (ps.map mkV++(someZ g (someZ g r e (n+1)).2 c n).1,(someZ g (someZ g r e (n+1)).2 c n).2) else (ps.map mkV++(V.mk ⟨tk,tx,un,wh,fl⟩ (someZ g r e (n+1)).1::(someZ g (someZ g r e (n+1)).2 c n).1),(someZ g (someZ g r e (n+1)).2 c n).2)):=by
           show _=_
           rw [HE.out,someZ,if_neg HA.out,if_neg (by rw [← HEQ.out];exact h0),← HEQ.out]
           by_cases h6:64<n+1
           ·rw [if_pos h6,if_pos h6]
           ·rw [if_neg h6,if_neg h6]
          have HRS:Hid (runS [closeZ tk] r=(someZ g r e (n+1)).2):=by
           show _=_
           rw [runS_some g r (by omega) (closeZ tk) (n+1) [] (by rw [← HEQ.out];exact h0),runS,← HEQ.out]
          have HREC:Hid (∀ sl,TsAt W0 sl r→∀ w',Below W0.heap.size W0 w'→∀ fv,EndF w' fv e→n+1≤64→Calls Tryz.prog 22 #[sl,.int .i64 (n+1),fv] w' fun e' w''=>∃ out rest,e'=.returned (.tuple #[out,rest])∧VsAt (fun b=>w'.heap.size≤b) w'' out (someZ g r e (n+1)).1∧TsAt W0 rest (someZ g r e (n+1)).2∧Below w'.heap.size w' w'') :=
           fun sl hsl w' hw' fv hfv hn=>HI.out g (by omega) r (by omega) W0 sl hsl w' hw' e (n+1) fv hfv (by omega) hn (by omega)
          have HBH:Hid (Calls Tryz.prog 53 #[_,.agg #[.int .i64 tk,.string tx,.string un,.bool wh,.bool fl]] w1 fun e w'=>∃ rest,e=.returned rest∧TsAt W0 rest (runS [closeZ tk] r)∧Below w1.heap.size w1 w'):=behind_any r W0 w1 _ HTT.out hWw tk tx un wh fl (by omega)
          have HBH2:=HBH.out
          rw [HRS.out] at HBH2
          have HBK:=hid_mk HBH2
          clear HBH HBH2
          generalize someZ g r e (n+1)=Z at *
          obtain ⟨zk,zr⟩:=Z
          have HEQ2:=hid_mk HEQ.out
          clear HI HE HA HEQ HRS
          by_cases h6:n=64
          ·have HNX:Hid (someZ f ts c n=(ps.map mkV++(someZ g zr c n).1,(someZ g zr c n).2)):=by
            show _=_
            have:=HSZ.out
            rwa [if_pos (by omega)] at this
           clear HSZ HREC
           subst h6
           go_wp2_with (go_at_call 53;fail)
           refine HBK.out.mono ?_
           rintro e' w2 ⟨rest,rfl,htr,hb2⟩
           have HTR:=hid_mk htr
           obtain ⟨ra,rc,rfl,_⟩:=htr
           clear HBK
           go_wp2
           go_roundw
           case rel=>exact ⟨g,zr,ps,by omega,by omega,HTR.out,HRW.out.keep hb2,hBw.trans (hb2.mono hbs),HNX.out,by omega⟩
           case measure=>simp [sliceLen];omega
          ·have z6:(n == 64)=false:=by simpa using h6
           have HNX:Hid (∀ kv,someZ f ts c n=((ps++[((⟨tk,tx,un,wh,fl⟩:T5),(kv:Value),zk)]).map mkV++(someZ g zr c n).1,(someZ g zr c n).2)):=by
            intro kv
            have:=HSZ.out
            rw [if_neg (by omega)] at this
            rw [this,List.map_append,List.append_assoc]
            rfl
           clear HSZ HBK
           have hAv:Below w1.heap.size w1 (w1.alloc (.cells #[.int .i64 tk,.string tx,.string un,.bool wh,.bool fl,.slice none 0 0] 98)):=(Below.refl _ w1).alloc (Nat.le_refl _) _
           have hbv:=heap_alloc_new w1 (.cells #[.int .i64 tk,.string tx,.string un,.bool wh,.bool fl,.slice none 0 0] 98)
           go_wp2_with (go_at_call 54;fail)
           refine (closes_any tk tx un wh fl _).mono ?_
           rintro e' wc ⟨BC,rfl,hBC,hcx,hbc⟩
           have hsv:(w1.alloc (.cells #[.int .i64 tk,.string tx,.string un,.bool wh,.bool fl,.slice none 0 0] 98)).heap.size=w1.heap.size+1:=by simp
           have hxv:wc.heap[w1.heap.size]? = some (.cells #[.int .i64 tk,.string tx,.string un,.bool wh,.bool fl,.slice none 0 0] 98 (0,0)):=(hbc.block _ (by omega)).trans hbv
           have hAW:Below w1.heap.size w1 wc:=hAv.trans (hbc.mono hAv.size)
           rw [← HEQ2.out] at hcx
           have hrec:=HREC.out _ HTT.out wc (hWw.trans (hAW.mono hWw.size)) _ (.inr ⟨BC,rfl,h0,hcx⟩) (by omega)
           have HXV:=hid_mk hxv
           have hvlt:w1.heap.size<wc.heap.size:=(Array.getElem?_eq_some_iff.1 hxv).1
           clear hxv hbv hcx hbc hAv HREC hsv hBC q0 q1 q2 q3 q4 hsz hsA
           go_wp2_with (go_at_call 22;fail)
           refine hrec.mono ?_
           rintro e' wk ⟨kids,rest,rfl,hvk,htr,hbk⟩
           have x1:wk.heap[w1.heap.size]? = some (.cells #[.int .i64 tk,.string tx,.string un,.bool wh,.bool fl,.slice none 0 0] 98 (0,0)):=(hbk.block _ hvlt).trans HXV.out
           obtain ⟨y0,y1,y2,y3,y4,y5⟩:=tok6 x1
           have yf:=tok6f x1
           obtain ⟨ka,kc,rfl,_,_⟩:=hvk.slice
           obtain ⟨D1,D2,D3,D4⟩:=opened2 (P0:=W.heap.size) HRW.out hBw hAW hbk HXV.out (Nat.le_refl _) hvk hbs
           have HD1:=hid_mk D1
           have HD2:=hid_mk D2
           have HD3:=hid_mk D3
           have HD4:=hid_mk D4
           have HTR:=hid_mk htr
           obtain ⟨ra,rc,rfl,_⟩:=htr
           clear hrec x1 hvk hbk hAW HXV D1 D2 D3 D4 HRW hBw hWw
           go_upto_region 7 with fail
           generalize wk.setCell ⟨w1.heap.size,5,none⟩ (.slice ka zk.length kc)=w2 at *
           clear y0 y1 y2 y3 y4 y5 yf
           obtain ⟨y0,y1,y2,y3,y4,y5⟩:=tok6 HD3.out
           have hown:=HD1.out.1
           have hbs2:=HD2.out.size
           go_wp2_with (at_builtin;go_must (refine wpList_append_own_at _ rfl _ _ 43 rfl W.heap.size 98 i0 _ 6 72 Tryz.underlying43 hi0 hz0 hz1 hz2 rfl (by decide) _ _ _ rfl (hown.alloc _) ⟨w2.heap.size,0,none⟩ 1 1 [.int .i64 tk,.string tx,.string un,.bool wh,.bool fl,.slice ka zk.length kc] rfl rfl (news6 w2 _ _ _ _ _ _) (by intro u hu;simp at hu;rcases hu with rfl | rfl | rfl | rfl | rfl | rfl <;> rfl) (by unfold maxLen;omega) (by omega) (by simp;omega) ?_);intro v' w7 hown7 hgrow7 _ hat7)
           go_roundw
           case rel=>exact ⟨g,zr,_,by omega,by omega,HTR.out,HD1.out.push (t:=⟨tk,tx,un,wh,fl⟩) HD4.out hown7 hgrow7 hat7 (by simp;omega),(HD2.out.alloc hbs2 _).grown hgrow7 (by simp;omega) (fun k hk=>(hown.lt k hk).1),HNX.out _,by simp;omega⟩
           case measure=>simp [sliceLen];omega
end Go.Proofs.YtemlnblifkdenaaGreatDoor.Y
namespace Go.Proofs.YtemlnblifkdenaaGreatDoor.Y
open Go.RowKit
open Go.Proofs.YtemlnblifkdenaaGreatDoor.L (T5 V VsAt t5Cells vCells cell_of_heap)
def hasZ (ks:List Int) (x:Int):Bool:=ks.contains x
end Go.Proofs.YtemlnblifkdenaaGreatDoor.Y
namespace Go.Proofs.YtemlnblifkdenaaGreatDoor.Y
open Go.RowKit
open Go.Proofs.YtemlnblifkdenaaGreatDoor.L (T5 V VsAt t5Cells vCells cell_of_heap)
theorem VsAt.dropO {P:Nat→Prop} {W:World} {b off n cap:Nat} {vs:List V} (h:VsAt P W (.slice (some ⟨b,off,none⟩) n cap) vs) (k:Nat) (hk:k≤vs.length) {a':Option Addr} {n' c':Nat} (hn:n'=n - k) (hc:c'=cap - k) (ha:k<vs.length→a'=some ⟨b,off+k * 6,none⟩):VsAt P W (.slice a' n' c') (vs.drop k):=by
 subst hn hc
 exact h.drop k hk a' (fun h=>⟨b,off,rfl,ha h⟩)
def spaceV (x:V):Bool:=hasZ [13] x.tok.k
def aheadZ (vs:List V):List V:=(vs.reverse.dropWhile spaceV).reverse
theorem aheadZ_nil:aheadZ []=[]:=rfl
theorem aheadZ_snoc (r:List V) (x:V):aheadZ (r++[x])=if spaceV x then aheadZ r else r++[x]:=by
 unfold aheadZ
 rw [List.reverse_append,List.reverse_singleton,List.singleton_append,List.dropWhile_cons]
 split
 ·rfl
 ·simp
theorem aheadZ_le (vs:List V):(aheadZ vs).length≤vs.length:=by
 unfold aheadZ
 have:=(List.dropWhile_sublist spaceV (l:=vs.reverse)).length_le
 simpa using this
end Go.Proofs.YtemlnblifkdenaaGreatDoor.Y
namespace Go.Proofs.YtemlnblifkdenaaGreatDoor.Y
open Go.RowKit
open Go.Proofs.YtemlnblifkdenaaGreatDoor.L (T5 V VsAt t5Cells vCells cell_of_heap)
theorem wpList_append_same {P:Program} (w:World) {ops:Array Oper} {rest:List Oper} {o:Oper} {a:Act} {Q:Exit→Act→World→Prop} (hgd:o.guard=none) (s x:Operand) (t:TypeId)
  (ho:o.op=.call { callee:=.builtin .append,args:=#[s,x],argTypes:=#[t,t] }) (v u:Value) (hs:a.eval s=v) (hx:a.eval x=u) (hr:(Builtin.append_ #[t,t] o.type #[v,u]).run P w=.ok v w) (h:wpList P ops Q rest (a.put o.dst v) w):wpList P ops Q (o::rest) a w:=by
 refine wpList_plain hgd fun K hK=>?_
 unfold Oper.wp execOp
 simp only [ho,resolve,invoke,builtin,Sem.run_bind,Sem.run_pure,Result.andThen_ok,List.map_toArray,List.map_cons,List.map_nil,hs,hx,hr]
 exact hK _ _ h
theorem run_append_empty {w:World} {base size n:Nat} {t t' e:TypeId} {i:TypeInfo} {v:Value} {xs:List Value} (ht:Tryz.prog.underlying t=some (.slice e)) (hi:Tryz.prog.info? e=some i) (hown:w.ownsRow base e size v n xs) (x:Option Addr) (c:Nat) :
  (Builtin.append_ #[t,t] t' #[v,.slice x 0 c]).run Tryz.prog w=.ok v w:=by
 obtain ⟨hl,h⟩:=hown
 rcases h with ⟨rfl,hn⟩ | ⟨g,cap,cur,rfl,_,hg,hnc,hcm,hsz,hx⟩
 ·cases x <;> simp [Builtin.append_,run_underlying ht,sizeOf,typeInfo,hi,Builtin.lenOf,Builtin.firstCells,loadCells,loadCellsFrom]
 ·cases x <;> simp [Builtin.append_,run_underlying ht,sizeOf,typeInfo,hi,Builtin.lenOf,Builtin.firstCells,loadCells,loadCellsFrom,storeCells,hnc]
theorem Row.cat {P:Nat→Prop} {B:Nat} {w w':World} {out v':Value} {ps qs:List (T5×Value×List V)} (h:Row P B w out ps) (hk:∀ q∈qs,VsAt (fun b=>P b∧out.ownBlock≠some b) w q.2.1 q.2.2)
  (hown:w'.ownsRow B 98 6 v' (ps.length+qs.length) ((ps.flatMap fun p=>vCells p.1 p.2.1)++(qs.flatMap fun p=>vCells p.1 p.2.1))) (hg:w.grownBy w' out.ownBlock) (hat:v'.ownBlock=out.ownBlock∨v'.ownBlock=some w.heap.size) (hP:P w.heap.size):Row P B w' v' (ps++qs):=by
 have keep:∀ {x:Value} {xs:List V},VsAt (fun b=>P b∧out.ownBlock≠some b) w x xs→VsAt (fun b=>P b∧v'.ownBlock≠some b) w' x xs:=by
  intro x xs hx
  have h1:VsAt (fun b=>(P b∧out.ownBlock≠some b)∧v'.ownBlock≠some b) w x xs:=hx.wider (fun b hb hlt=>⟨hb,by
   rcases hat with e | e
   ·rw [e];exact hb.2
   ·rw [e]
    intro e2
    have:=Option.some.inj e2
    omega⟩)
  have h2:=h1.stay (W':=w') hg.size (fun b hb hlt=>hg.block b hlt (fun e=>hb.1.2 e.symm))
  exact h2.wider (fun b hb _=>⟨hb.1.1,hb.2⟩)
 refine ⟨?_,?_,?_⟩
 ·rw [List.length_append,List.flatMap_append]
  exact hown
 ·intro g hgo
  rcases hat with e | e
  ·exact h.2.1 g (e.symm.trans hgo)
  ·rw [e] at hgo
   cases hgo
   exact hP
 ·intro p hp
  rcases List.mem_append.1 hp with hp | hp
  ·exact keep (h.2.2 p hp)
  ·exact keep (hk p hp)
theorem flat6_len (ps:List (T5×Value×List V)):(ps.flatMap fun p=>vCells p.1 p.2.1).length=ps.length * 6:=by
 induction ps with
 | nil=>rfl
 | cons t r ih =>
   rw [List.flatMap_cons,List.length_append,ih,List.length_cons]
   simp [vCells]
   omega
theorem VsAt.parts {P:Nat→Prop} {W:World} {a:Option Addr} {n cap:Nat} {vs:List V} (h:VsAt P W (.slice a n cap) vs):∃ qs:List (T5×Value×List V),qs.map mkV=vs∧(∀ q∈qs,VsAt P W q.2.1 q.2.2)∧(∀ u∈qs.flatMap fun p=>vCells p.1 p.2.1,u.oneCell'=true) ∧
  (0<n→∃ b off,a=some ⟨b,off,none⟩∧b<W.heap.size∧P b∧∀ j u,(qs.flatMap fun p=>vCells p.1 p.2.1)[j]? = some u→W.cell? ((⟨b,off,none⟩:Addr).add j)=some u):=by
 generalize hv:Value.slice a n cap=v at h
 cases h with
 | mk a' cap' vs b off kv h1 h2 ha hc hr =>
   cases hv
   have hlen:((List.range vs.length).attach.map fun i=>(((vs[i.1]'(List.mem_range.1 i.2)).tok,kv i.1,(vs[i.1]'(List.mem_range.1 i.2)).kids):T5×Value×List V)).length=vs.length:=by simp
   have hget:∀ i (hi:i<vs.length),((List.range vs.length).attach.map fun i=>(((vs[i.1]'(List.mem_range.1 i.2)).tok,kv i.1,(vs[i.1]'(List.mem_range.1 i.2)).kids):T5×Value×List V))[i]'(by rw [hlen];exact hi)=((vs[i]'hi).tok,kv i,(vs[i]'hi).kids):=fun i hi=>by simp
   generalize (List.range vs.length).attach.map (fun i=>(((vs[i.1]'(List.mem_range.1 i.2)).tok,kv i.1,(vs[i.1]'(List.mem_range.1 i.2)).kids):T5×Value×List V))=qs at *
   refine ⟨qs,?_,?_,?_,?_⟩
   ·refine List.ext_getElem (by simp [hlen]) (fun i h1 h2=>?_)
    rw [List.getElem_map,hget i h2]
    cases vs[i]'h2
    rfl
   ·intro q hq
    obtain ⟨i,hi,rfl⟩:=List.getElem_of_mem hq
    rw [hget i (by omega)]
    exact hr i (by omega)
   ·intro u hu
    obtain ⟨q,hq,hu⟩:=List.mem_flatMap.1 hu
    obtain ⟨i,hi,rfl⟩:=List.getElem_of_mem hq
    rw [hget i (by omega)] at hu
    obtain ⟨x,c,e,_,_⟩:=(hr i (by omega)).slice
    simp [vCells] at hu
    rcases hu with rfl | rfl | rfl | rfl | rfl | rfl
    all_goals first | rfl | (rw [e];rfl)
   ·intro h0
    obtain ⟨ea,hb,hp⟩:=ha h0
    refine ⟨b,off,ea,hb,hp,fun j u hu=>?_⟩
    have hlt:=(List.getElem?_eq_some_iff.1 hu).1
    rw [flat6_len,hlen] at hlt
    have e:j=j / 6 * 6+j % 6:=by omega
    have hk:j / 6<vs.length:=by omega
    rw [e,flat_at qs (j / 6) (j % 6) (by omega) (by omega),hget (j / 6) hk] at hu
    have:=hc (j / 6) hk (j % 6) u hu
    rw [Addr.add_mid,show off+j=off+j / 6 * 6+j % 6 by omega]
    exact this
theorem wpList_append_row {ops:Array Oper} {rest:List Oper} {o:Oper} {a:Act} {Q:Exit→Act→World→Prop} {w:World} (hgd:o.guard=none) (s x:Operand) (ho:o.op=.call { callee:=.builtin .append,args:=#[s,x],argTypes:=#[43,43] })
  {P:Nat→Prop} {B:Nat} {v u:Value} {ps:List (T5×Value×List V)} {vs:List V} (hs:a.eval s=v) (hx:a.eval x=u) (hrow:Row P B w v ps) (hu:VsAt (fun b=>P b∧v.ownBlock≠some b) w u vs) (hn:ps.length+vs.length≤1000000) (hB:B≤w.heap.size) (hP:P w.heap.size)
  (h:∀ v' w' qs,Row P B w' v' (ps++qs)→qs.map mkV=vs→w.grownBy w' v.ownBlock→wpList Tryz.prog ops Q rest (a.put o.dst v') w'):wpList Tryz.prog ops Q (o::rest) a w:=by
 obtain ⟨i0,hi0,hz0,hz1,hz2⟩:=info_parts Tryz.info98
 obtain ⟨ua,uc,rfl,_,_⟩:=hu.slice
 obtain ⟨qs,hq1,hq2,hq3,hq4⟩:=VsAt.parts hu
 have hql:qs.length=vs.length:=by rw [← hq1,List.length_map]
 by_cases h0:0<vs.length
 ·obtain ⟨b,off,rfl,_,_,hcell⟩:=hq4 h0
  refine wpList_append_own_at w hgd s x 43 ho B 98 i0 _ 6 72 Tryz.underlying43 hi0 hz0 hz1 hz2 rfl (by decide) v ps.length _ hs hrow.1 ⟨b,off,none⟩ vs.length uc _ hx (by rw [flat6_len,hql]) hcell hq3 (by unfold maxLen;omega) (by omega) hB ?_
  intro v' w' hown hg _ hat
  exact h v' w' qs (hrow.cat hq2 (by rw [hql];exact hown) hg hat hP) hq1 hg
 ·have hv0:vs=[]:=List.length_eq_zero_iff.1 (by omega)
  subst hv0
  have hq0:qs=[]:=by simpa using hq1
  subst hq0
  refine wpList_append_same w hgd s x 43 ho v _ hs hx (run_append_empty Tryz.underlying43 hi0 hrow.1 ua uc) ?_
  exact h v w [] (by simpa using hrow) rfl ⟨rfl,rfl,rfl,Nat.le_refl _,fun _ _ _=>rfl⟩
theorem bgrown {w0 w w':World} {row:Option Nat} (h:Below w0.heap.size w0 w) (hg:w.grownBy w' row) (hr:∀ k,row=some k→w0.heap.size≤k):Below w0.heap.size w0 w':=h.grown hg h.size hr
end Go.Proofs.YtemlnblifkdenaaGreatDoor.Y
namespace Go.Proofs.YtemlnblifkdenaaGreatDoor.Y
open Go.RowKit
open Go.Proofs.YtemlnblifkdenaaGreatDoor.L (T5 V VsAt t5Cells vCells cell_of_heap)
def trimZ (vs:List V):List V:=aheadZ (vs.dropWhile spaceV)
theorem ris_any (w:World) (tk:Int) (tx un:ByteArray) (wh fl:Bool) (kid:Value) (k:Int) :
  Calls Tryz.prog 79 #[.agg #[.int .i64 tk,.string tx,.string un,.bool wh,.bool fl,kid],.int .i64 k] w fun e w'=>e=.returned (.bool (tk == k))∧Below w.heap.size w w':=by
 go_enter Tryz.func79,Tryz.ntmps79
 go_wp2
 go_ret
 exact ⟨rfl,(Below.refl _ w).alloc (Nat.le_refl _) _⟩
theorem space_eq (x:V):spaceV x=(x.tok.k == 13):=by
 unfold spaceV hasZ
 simp
 rfl
theorem rtrim_any {P:Nat→Prop} {w:World} {v:Value} {vs:List V} (hv:VsAt P w v vs) (hn:vs.length≤100000) :
  Calls Tryz.prog 38 #[v] w fun e w'=>∃ out,e=.returned out∧VsAt (fun b=>P b∨w.heap.size≤b) w' out (trimZ vs)∧Below w.heap.size w w':=by
 have HV:=hid_mk hv
 obtain ⟨a,cap,rfl,hl,hcap⟩:=hv.slice
 clear hv
 go_enter Tryz.func38,Tryz.ntmps38
 go_upto_block 0 with fail
 go_cut [0] (fun a0 wx=>VsAt P w a0 (vs.dropWhile spaceV)∧Below w.heap.size w wx)
 case first =>
  go_wp2_with fail
  go_loopw [0] (fun a0 wr=>∃ (us:List V),VsAt P w a0 us∧us.length≤vs.length∧Hid (vs.dropWhile spaceV=us.dropWhile spaceV)∧Below w.heap.size w wr) (fun a0 _=>sliceLen a0)
  case atStart=>exact ⟨vs,HV.out,Nat.le_refl _,(rfl:_=_),Below.refl _ _⟩
  case round =>
   obtain ⟨us,hus,hul,hE,hB⟩:=hrel
   cases us with
   | nil =>
     obtain ⟨a0,c0,rfl,_,_⟩:=hus.slice
     have HUS:=hid_mk hus
     have HW:=hE.out
     rw [List.dropWhile_nil] at HW
     have HW2:=hid_mk HW
     clear hus HW hE HV
     go_wp2_with fail
     go_meet
     exact ⟨by rw [HW2.out];exact HUS.out,hB⟩
   | cons x r =>
     obtain ⟨a0,c0,rfl,hl0,hc0⟩:=hus.slice
     have HUS:=hid_mk hus
     obtain ⟨_,_,_,hcs⟩:=hus.cells
     obtain ⟨b,off,kv,rfl,hbl,hcc,hkid⟩:=hcs 0 (by simp)
     have hq:=fun j y hy=>(hB.cell (p:=⟨b,off+0 * 6+j,none⟩) hbl).trans (hcc j y hy)
     simp only [Nat.zero_mul,Nat.add_zero,List.getElem_cons_zero] at hq hkid
     obtain ⟨⟨tk,tx,un,wh,fl⟩,xk⟩:=x
     obtain ⟨ka,kc,rfl,_,_⟩:=hkid.slice
     generalize (V.mk ⟨tk,tx,un,wh,fl⟩ xk).kids.length=kn at *
     have q0:wr.cell? ⟨b,off,none⟩=some (.int .i64 tk):=hq 0 _ rfl
     have q1:wr.cell? ⟨b,off+1,none⟩=some (.string tx):=hq 1 _ rfl
     have q2:wr.cell? ⟨b,off+2,none⟩=some (.string un):=hq 2 _ rfl
     have q3:wr.cell? ⟨b,off+3,none⟩=some (.bool wh):=hq 3 _ rfl
     have q4:wr.cell? ⟨b,off+4,none⟩=some (.bool fl):=hq 4 _ rfl
     have q5:wr.cell? ⟨b,off+5,none⟩=some (.slice ka kn kc):=hq 5 _ rfl
     have hc2:=ris_any wr tk tx un wh fl (.slice ka kn kc) 13
     have HE:=hE.out
     rw [List.dropWhile_cons,show spaceV (V.mk ⟨tk,tx,un,wh,fl⟩ xk)=(tk == 13) from space_eq _] at HE
     have HE2:=hid_mk HE
     rw [List.length_cons] at hul hl0
     generalize (tk == 13)=y at *
     have HB:=hid_mk hB
     clear hE HE hcs hcc hq hkid hB hus HV
     simp only [List.length_cons]
     go_wp2_with (go_at_call 79;fail)
     refine hc2.mono ?_
     rintro e w' ⟨rfl,hB2⟩
     have HB2:Hid (Below w.heap.size w w'):=HB.out.trans (hB2.mono HB.out.size)
     clear hc2 q0 q1 q2 q3 q4 q5 hB2
     cases y with
     | true =>
       have HR:Hid (vs.dropWhile spaceV=r.dropWhile spaceV):=by
        show _=_
        rw [HE2.out,if_pos rfl]
       clear HE2
       go_wp2
       all_goals
        go_roundw
        case rel=>exact ⟨r,VsAt.dropO HUS.out 1 (by simp) (by simp) rfl (fun h=>by simp only [List.length_cons] at h;rw [if_neg (by omega)]),by omega,HR.out,HB2.out⟩
        case measure=>simp [sliceLen]
     | false =>
       have HR:Hid (vs.dropWhile spaceV=V.mk ⟨tk,tx,un,wh,fl⟩ xk::r):=by
        show _=_
        rw [HE2.out,if_neg (by decide)]
       clear HE2
       go_wp2_with fail
       go_meet
       exact ⟨by rw [HR.out];exact HUS.out,HB2.out⟩
 case rest =>
 obtain ⟨hu1,hB1⟩:=hcut
 have HU1:=hid_mk hu1
 have HB1:=hid_mk hB1
 have hl1:(vs.dropWhile spaceV).length≤vs.length:=(List.dropWhile_sublist spaceV (l:=vs)).length_le
 have HTZ:Hid (trimZ vs=aheadZ (vs.dropWhile spaceV)):=(rfl:_=_)
 obtain ⟨a1,c1,rfl,_,_⟩:=hu1.slice
 clear hu1 hB1 HV
 generalize vs.dropWhile spaceV=vs1 at *
 go_upto_block 2 with fail
 go_cut [0] (fun a0 wx=>VsAt P w a0 (aheadZ vs1)∧Below w.heap.size w wx)
 case first =>
  go_wp2_with fail
  go_loopw [0] (fun a0 wr=>∃ (us:List V),VsAt P w a0 us∧us.length≤vs1.length∧Hid (aheadZ vs1=aheadZ us)∧Below w.heap.size w wr) (fun a0 _=>sliceLen a0)
  case atStart=>exact ⟨vs1,HU1.out,Nat.le_refl _,(rfl:_=_),HB1.out⟩
  case round =>
   obtain ⟨us,hus,hul,hE,hB⟩:=hrel
   rcases List.eq_nil_or_concat us with rfl | ⟨r,x,rfl⟩
   ·obtain ⟨a0,c0,rfl,_,_⟩:=hus.slice
    have HUS:=hid_mk hus
    have HW:=hE.out
    rw [aheadZ_nil] at HW
    have HW2:=hid_mk HW
    clear hus HW hE HU1
    go_wp2_with fail
    go_meet
    exact ⟨by rw [HW2.out];exact HUS.out,hB⟩
   ·rw [List.concat_eq_append] at hus hul hE
    obtain ⟨a0,c0,rfl,hl0,hc0⟩:=hus.slice
    have HUS:=hid_mk hus
    obtain ⟨_,_,_,hcs⟩:=hus.cells
    have hll:(r++[x]).length=r.length+1:=by simp
    obtain ⟨b,off,kv,rfl,hbl,hcc,hkid⟩:=hcs r.length (by omega)
    have hq:=fun j y hy=>(hB.cell (p:=⟨b,off+r.length * 6+j,none⟩) hbl).trans (hcc j y hy)
    have hgx:(r++[x])[r.length]'(by omega)=x:=by simp
    rw [hgx] at hq hkid
    obtain ⟨⟨tk,tx,un,wh,fl⟩,xk⟩:=x
    obtain ⟨ka,kc,rfl,_,_⟩:=hkid.slice
    generalize (V.mk ⟨tk,tx,un,wh,fl⟩ xk).kids.length=kn at *
    have q0:wr.cell? ⟨b,off+r.length * 6,none⟩=some (.int .i64 tk):=hq 0 _ rfl
    have q1:wr.cell? ⟨b,off+r.length * 6+1,none⟩=some (.string tx):=hq 1 _ rfl
    have q2:wr.cell? ⟨b,off+r.length * 6+2,none⟩=some (.string un):=hq 2 _ rfl
    have q3:wr.cell? ⟨b,off+r.length * 6+3,none⟩=some (.bool wh):=hq 3 _ rfl
    have q4:wr.cell? ⟨b,off+r.length * 6+4,none⟩=some (.bool fl):=hq 4 _ rfl
    have q5:wr.cell? ⟨b,off+r.length * 6+5,none⟩=some (.slice ka kn kc):=hq 5 _ rfl
    have hc2:=ris_any wr tk tx un wh fl (.slice ka kn kc) 13
    have HE:=hE.out
    rw [aheadZ_snoc,show spaceV (V.mk ⟨tk,tx,un,wh,fl⟩ xk)=(tk == 13) from space_eq _] at HE
    have HE2:=hid_mk HE
    have HTK:Hid ((r++[V.mk ⟨tk,tx,un,wh,fl⟩ xk]).take r.length=r):=by show _=_;simp
    rw [hll] at hul hl0
    rw [hll]
    generalize (tk == 13)=y at *
    have HB:=hid_mk hB
    clear hE HE hcs hcc hq hkid hB hus HU1 hgx
    go_wp2_with (go_at_call 79;fail)
    refine hc2.mono ?_
    rintro e w' ⟨rfl,hB2⟩
    have HB2:Hid (Below w.heap.size w w'):=HB.out.trans (hB2.mono HB.out.size)
    clear hc2 q0 q1 q2 q3 q4 q5 hB2
    cases y with
    | true =>
      have HR:Hid (aheadZ vs1=aheadZ r):=by
       show _=_
       rw [HE2.out,if_pos rfl]
      have HT:=HUS.out.take r.length (by omega)
      rw [HTK.out] at HT
      have HT2:=hid_mk HT
      clear HE2 HT
      go_wp2
      go_roundw
      case rel=>exact ⟨r,HT2.out,by omega,HR.out,HB2.out⟩
      case measure=>simp [sliceLen]
    | false =>
      have HR:Hid (aheadZ vs1=r++[V.mk ⟨tk,tx,un,wh,fl⟩ xk]):=by
       show _=_
       rw [HE2.out,if_neg (by decide)]
      have HU:=HUS.out
      rw [hll] at HU
      have HU2:=hid_mk HU
      clear HE2 HU
      go_wp2_with fail
      go_meet
      exact ⟨by rw [HR.out];exact HU2.out,HB2.out⟩
 case rest =>
 obtain ⟨hu2,hB2⟩:=hcut
 have hl2:=aheadZ_le vs1
 obtain ⟨a2,c2,rfl,_,_⟩:=hu2.slice
 have gl:Below wc.heap.size wc (wc.alloc (.cells #[] 98)):=(Below.refl _ wc).alloc (Nat.le_refl _) _
 have hws:=hB2.size
 have HR0:Hid (Row (fun b=>P b∨w.heap.size≤b) wc.heap.size (wc.alloc (.cells #[] 98)) (.slice (some ⟨wc.heap.size,0,none⟩) 0 0) []) :=
  ⟨World.ownsRow_lit (base:=wc.heap.size) (e:=98) (size:=6) wc #[] 0 (Nat.le_refl _) (by decide) rfl,fun g hg=>by have:wc.heap.size=g:=Option.some.inj hg;exact .inr (by omega),fun p hp=>by cases hp⟩
 have HPN:Hid (P (wc.alloc (.cells #[] 98)).heap.size∨w.heap.size≤(wc.alloc (.cells #[] 98)).heap.size):=.inr (by have:=gl.size;omega)
 have HS0:Hid (VsAt (fun b=>(P b∨w.heap.size≤b)∧(Value.slice (some ⟨wc.heap.size,0,none⟩) 0 0).ownBlock≠some b) (wc.alloc (.cells #[] 98)) (.slice a2 (aheadZ vs1).length c2) (aheadZ vs1)) :=
  (((hu2.keep hB2).wider (Q:=fun b=>P b∧b<wc.heap.size) (fun b hp h=>⟨hp,h⟩)).keep gl).wider (fun b hb _=>⟨.inl hb.1,fun e=>by have:wc.heap.size=b:=Option.some.inj e;omega⟩)
 have hn0:([]:List (T5×Value×List V)).length+(aheadZ vs1).length≤1000000:=by simp;omega
 have HB2:=hid_mk hB2
 clear hu2 hB2 HU1 HB1
 generalize aheadZ vs1=vs2 at *
 go_wp2_with (at_builtin;go_must (refine wpList_append_row (P:=fun b=>P b∨w.heap.size≤b) (ps:=[]) (vs:=vs2) rfl _ _ rfl rfl rfl HR0.out HS0.out hn0 gl.size HPN.out ?_);intro v8 w8 qs8 hrow8 hq8 hg8;have hv8:=hrow8.vals;rw [List.map_append,List.map_nil,List.nil_append,hq8] at hv8;obtain ⟨a8,c8,rfl,_,_⟩:=hv8.slice)
 have g8:=bgrown gl hg8 (fun j e=>by have:wc.heap.size=j:=Option.some.inj e;omega)
 have HB8:Hid (Below w.heap.size w w8):=HB2.out.trans (g8.mono HB2.out.size)
 have HV8:=hid_mk hv8
 clear hrow8 hq8 hg8 g8 hv8 HR0 HS0 gl
 go_ret
 exact ⟨_,rfl,by rw [HTZ.out];exact HV8.out,HB8.out⟩
end Go.Proofs.YtemlnblifkdenaaGreatDoor.Y
