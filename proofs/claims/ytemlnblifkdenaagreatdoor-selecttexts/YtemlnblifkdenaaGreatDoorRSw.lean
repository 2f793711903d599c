/- gouacheref05.split: the walk. -/
import Derived.Test.YtemlnblifkdenaaGreatDoorRCw
import Derived.Laws.OwnMore
import Derived.Deep.DeepCutAuto
import Derived.Deep.CutBlock
import Derived.Test.YtemlnblifkdenaaGreatDoorYSame
import Derived.Deep.RegionLaw
import Derived.Deep.AppendLies
import Derived.Maps.AppendAt
set_option maxRecDepth 100000
set_option maxHeartbeats 8000000
namespace Go.Proofs.YtemlnblifkdenaaGreatDoor.L
open Go.RowKit
theorem in40:∃ i z,Tryz.prog.info? 40=some i∧i.zero=some z∧i.size=1∧i.bytes=24∧z.cells.size=1:=⟨_,_,by rfl,by rfl,by rfl,by rfl,by rfl⟩
theorem in3:∃ i z,Tryz.prog.info? 3=some i∧i.zero=some z∧i.size=1∧i.bytes=8∧z.cells.size=1:=⟨_,_,by rfl,by rfl,by rfl,by rfl,by rfl⟩
theorem own_is {W:World} {B:Nat} {T:TypeId} {s n:Nat} {v:Value} {xs:List Value} (h:W.ownsRow B T s v n xs):∃ a c,v=.slice a n c:=by
 rcases h.2 with ⟨rfl,rfl⟩ | ⟨g,cap,cur,rfl,_⟩
 ·exact ⟨_,_,rfl⟩
 ·exact ⟨_,_,rfl⟩
theorem news1 {w:World} {x:Value} {T:TypeId}:∀ j u,[x][j]? = some u→(w.alloc (.cells #[x] T)).cell? (Addr.add ⟨w.heap.size,0,none⟩ j)=some u:=fun j u hu=>by
 rw [Addr.add_mid,Nat.zero_add,cellAt (heap_alloc_last w _) j]
 simpa using hu
theorem cxK_some {F:Nat} {us:List V} {p:List SX} {v x:V} {r t:List V} (h:cmX us=some (p,v::r)) (ht:trm (v::r)=x::t):cxK (F+1) us=if cmbV x≠0 then preK p (cmbV x) (cxK F (trm t)) else if spB v=true then preK p 1 (cxK F (x::t)) else none:=by
 show cxKC (cxK F) (cmX us)=_
 rw [h]
 show cxKW (cxK F) p (spB v) (trm (v::r))=_
 rw [ht]
 rfl
theorem rcomplex_any (hatt:AttrC) {P0:Nat→Prop} {W:World} {val:Value} {l:List V} (hv:VsAt P0 W val l) (hf:Fit l) (hne:NE l) {N:Nat} (hN:l.length<N)
  (hp:∀ u∈l,∀ (Q:Nat→Prop) (w:World) (kv:Value),Below W.heap.size W w→VsAt Q w kv u.kids→Calls Tryz.prog 13 #[kv] w (PaP w (parseZ u.kids))):Calls Tryz.prog 37 #[val] W (CxO W (cxK N l)):=by
 obtain ⟨i0,z0,hi,hz0,hz1,hz2,hz3⟩:=in40
 obtain ⟨j0,y0,hj,hy0,hy1,hy2,hy3⟩:=in3
 have HI:=hid_mk hi
 have HI0:=hid_mk hz0
 have HI1:=hid_mk hz1
 have HI2:=hid_mk hz2
 have HI3:=hid_mk hz3
 have HJ:=hid_mk hj
 have HJ0:=hid_mk hy0
 have HJ1:=hid_mk hy1
 have HJ2:=hid_mk hy2
 have HJ3:=hid_mk hy3
 clear hi hz0 hz1 hz2 hz3 hj hy0 hy1 hy2 hy3
 have hll:=hf.len
 have HNN:=hid_mk hN
 clear hN
 obtain ⟨R,hR⟩:∃ R,R=cxK N l:=⟨_,rfl⟩
 obtain ⟨va,vcap,rfl,hvc,hvm⟩:=hv.slice
 obtain ⟨W1,hW1⟩:∃ W1,W1=(W.alloc (.cells #[.slice none 0 0,.slice none 0 0] 37)).alloc (.cells #[.slice none 0 0,.slice none 0 0] 37):=⟨_,rfl⟩
 have hB1:Below W.heap.size W W1:=by rw [hW1];exact ((Below.refl _ _).alloc (Nat.le_refl _) _).alloc (by simp) _
 have HGO:Hid (XB W (.slice va l.length vcap) (.slice none 0 0) (.slice none 0 0) [] [] l (fun b=>b<W.heap.size) W1):=by
  refine ⟨?_,?_,CxI.nil _ _,(hv.wider fun b _ h=>h).keep hB1,fun b hb=>⟨Nat.lt_of_lt_of_le hb hB1.size,by omega,by omega,by simp [Value.ownBlock],by simp [Value.ownBlock]⟩,hB1⟩
  ·have e:W.heap.size+1=(W.alloc (.cells #[.slice none 0 0,.slice none 0 0] 37)).heap.size:=by simp
   rw [hW1,e]
   exact heap_alloc_last _ _
  ·rw [hW1,Below.heap_alloc _ _ _ (by simp)]
   exact heap_alloc_last W _
 have HR0:Hid (R=preL (([]:List PX).map (·.2.1)) [] (cxK N l)):=by rw [Hid,hR];exact (preL_nil _).symm
 have HN0:=hid_mk hne
 have HF:=hid_mk hf
 have HP:=hid_mk hp
 have HLL:Hid (l.length=l.length):=rfl
 rw [← hR]
 clear hv hf hne hp hR hB1
 obtain ⟨LN,hLN⟩:∃ LN,LN=l.length:=⟨_,rfl⟩
 have HLN:=hid_mk hLN
 rw [← hLN] at hll hvc HGO HLL ⊢
 clear hLN
 go_enter Tryz.func37,Tryz.ntmps37
 go_upto_block 0 with fail
 rw [← hW1]
 have HW1:=hid_mk hW1
 clear hW1
 go_wp2
 go_loopw [0] (fun a0 wq=>∃ (F:Nat) (us:List V) (v:Value) (an ac:Nat) (aa:Option Addr) (pv cv:Value) (ps:List PX) (ks:List Int) (P:Nat→Prop),a0=.slice aa an ac∧v=.slice aa an ac∧Hid (an=us.length)∧Hid (XB W v pv cv ps ks us P wq)∧Hid (R=preL (ps.map (·.2.1)) ks (cxK F us))∧Hid (us.length<F∧(∀ u∈us,u∈l)∧NE us∧ps.length+us.length≤l.length∧ks.length=ps.length)) (fun a0 _=>Y.sliceLen a0)
 case atStart =>
  refine ⟨N,l,_,LN,vcap,va,_,_,[],[],_,rfl,rfl,HLN,HGO,HR0,?_⟩
  exact ⟨HNN.out,fun u hu=>hu,HN0.out,by simp,rfl⟩
 case round =>
  obtain ⟨F,us,v,an,ac,aa,pv,cv,ps,ks,P,rfl,rfl,HAN,HX,HR,HQ⟩:=hrel
  clear HGO HR0 HN0 HLL HW1
  obtain ⟨hF,hmem,hne,hla,hlk⟩:=HQ.out
  obtain ⟨F',rfl⟩:∃ F',F=F'+1:=⟨F - 1,by omega⟩
  have hfu:Fit us:=HF.out.sub (by omega) hmem
  have hco:=rcompound_any hatt HX.out.vs hfu (fun u hu w kv hb hk=>HP.out u (hmem u hu) _ w kv (HX.out.bel.trans (hb.mono HX.out.bel.size)) hk)
  have hanc:an≤ac∧ac≤9223372036854775807:=by
   obtain ⟨a',c',e',h1,h2⟩:=HX.out.vs.slice
   injection e' with _ e2 e3
   omega
  have hpl3:ps.length≤100000∧ks.length≤100000:=by have:=HLN.out;omega
  clear hF hmem hne hla hlk
  obtain ⟨pa,pc,rfl⟩:=own_is HX.out.cx.po
  obtain ⟨ca,cc,rfl⟩:=own_is HX.out.cx.ko
  go_wp2_with (go_at_call 76;fail)
  refine hco.mono ?_
  rintro e w1 ⟨hb1,hq⟩
  have hk1:=HX.out.keep hb1
  rcases hcm:cmX us with _ | ⟨p,r⟩
  ·rw [hcm] at hq
   obtain ⟨xa,xn,xc,ra,rn,rc,rfl⟩:=hq
   have HRN:Hid (R=none):=by
    rw [Hid,HR.out]
    show preL _ _ (cxKC (cxK F') (cmX us))=none
    rw [hcm]
    rfl
   obtain ⟨k0,k1,f0,f1⟩:=two_cells hk1.res
   have HK:=hid_mk hk1
   clear hco hb1 hk1 hcm HR HQ HX HAN hfu
   go_wp2
   rw [HRN.out]
   obtain ⟨g1,g2,g3⟩:=HK.out.no _ rfl
   exact bodyPost_ret (results37 _ _ W.heap.size false _ _ rfl rfl g2 g3) rfl ⟨g1,_,_,_,_,_,_,rfl⟩
  ·rw [hcm] at hq
   obtain ⟨xa,xn,xc,ra,rn,rc,rfl,⟨lv,hrob⟩,hvr⟩:=hq
   obtain ⟨hrl,hrm,hrn⟩:=cmX_ok hcm
   obtain ⟨k0,k1,f0,f1⟩:=two_cells hk1.out
   have HOW:Hid ((w1.alloc (.cells #[.slice xa xn xc] 40)).ownsRow (W.heap.size+2) 40 1 (.slice pa ps.length pc) ps.length (ps.map (·.1))):=hk1.cx.po.alloc _
   have HNE:Hid (∀ v2 w2,w2.ownsRow (W.heap.size+2) 40 1 v2 (ps.length+1) (ps.map (·.1)++[.slice xa xn xc])→(w1.alloc (.cells #[.slice xa xn xc] 40)).grownBy w2 (Value.slice pa ps.length pc).ownBlock→(v2.ownBlock=(Value.slice pa ps.length pc).ownBlock∨v2.ownBlock=some (w1.heap.size+1))→w2.heap[W.heap.size+1]? = some (.cells #[.slice pa ps.length pc,.slice ca ks.length cc] 37 (0,0))∧XB W (.slice ra rn rc) v2 (.slice ca ks.length cc) (ps++[(.slice xa xn xc,p,lv)]) ks r P (w2.setCell ⟨W.heap.size+1,0,none⟩ v2)):=fun v2 w2 h1 h2 h3=>HX.out.part hb1 ⟨_,_,_,rfl⟩ hrob hvr h1 h2 h3
   have HSZ:Hid (W.heap.size+2≤(w1.alloc (.cells #[.slice xa xn xc] 40)).heap.size):=by
    have:=hk1.szl
    rw [Hid,World.size_alloc]
    omega
   have HON:=hid_mk (news1 (w:=w1) (x:=.slice xa xn xc) (T:=40))
   have hrs:rn=r.length∧rn≤rc∧rc≤9223372036854775807:=by
    obtain ⟨a',c',e',h1,h2⟩:=hvr.slice
    injection e' with _ e2 e3
    omega
   have HRS:=hid_mk hrs
   have HRL:=hid_mk hrl
   have HRM:=hid_mk hrm
   have HRE:=hid_mk (hrn HQ.out.2.2.1)
   have HCM:=hid_mk hcm
   generalize hpn:ps.length=pn at *
   generalize hkn:ks.length=kn at *
   have HPN:=hid_mk hpn
   have HKN:=hid_mk hkn
   clear hco hb1 hk1 hrob hvr hrs hrl hrm hrn hcm hpn hkn HX hfu
   go_wp2_with (at_builtin;with_reducible refine wpList_append_own_at _ rfl _ _ 34 rfl (W.heap.size+2) 40 i0 z0 1 24 Tryz.underlying34 HI.out HI0.out HI1.out HI2.out HI3.out (by decide) (.slice pa pn pc) pn (ps.map (·.1)) rfl HOW.out ⟨w1.heap.size,0,none⟩ 1 1 [.slice xa xn xc] rfl rfl HON.out ?c0 ?c1 ?c2 ?c3 ?_)
   case c0=>simp [Value.oneCell']
   case c1=>unfold maxLen;omega
   case c2=>omega
   case c3=>exact HSZ.out
   intro v2 w2 ho2 hg2 _ hat2
   obtain ⟨o2,hX2⟩:=HNE.out v2 w2 ho2 hg2 hat2
   obtain ⟨qa,qc,rfl⟩:=own_is ho2
   obtain ⟨d0,d1,g0,g1⟩:=two_cells o2
   obtain ⟨w3,hw3⟩:∃ w3,w3=w2.setCell ⟨W.heap.size+1,0,none⟩ (.slice qa (pn+1) qc):=⟨_,rfl⟩
   rw [← hw3] at hX2
   have HX3:=hid_mk hX2
   have HW3:=hid_mk hw3
   clear HNE HON HSZ HOW ho2 hg2 hat2 o2 hX2 hw3 k0 k1 f0 f1
   obtain ⟨k0,k1,f0,f1⟩:=two_cells HX3.out.out
   obtain ⟨t0,t1,h0,h1⟩:=two_cells HX3.out.res
   go_upto_region 6 with fail
   rw [← HW3.out]
   clear HW3 d0 d1 g0 g1
   cases r with
   | nil =>
     obtain ⟨e1,hr2,hr3⟩:=HRS.out
     have e1':rn=0:=e1
     subst e1'
     have HRN:Hid (R=some ((ps++[((.slice xa xn xc:Value),p,lv)]).map (·.2.1),ks)):=by
      rw [Hid,HR.out]
      show preL _ _ (cxKC (cxK F') (cmX us))=_
      rw [HCM.out]
      show some (_,_)=_
      simp
     clear HR HQ HCM HRS HRL HRM HRE e1
     go_wp2
     rw [HRN.out]
     obtain ⟨s1,s2,s3,s4⟩:=HX3.out.end _ rfl
     exact bodyPost_ret (results37 _ _ W.heap.size true _ _ rfl rfl s3 s4) rfl ⟨s1,_,_,_,_,_,_,rfl,s2⟩
   | cons x0 r0 =>
     obtain ⟨hr1,hr2,hr3⟩:=HRS.out
     have hrn0:((rn:Int) == 0)=false:=by
      rw [beq_eq_false_iff_ne]
      simp only [List.length_cons] at hr1
      omega
     have hrnp:0<rn:=by rw [hr1];simp
     have hrlen:(x0::r0).length≤100000:=by
      have h1:=HRL.out
      have h2:=HQ.out.2.2.2.1
      have h3:=HLN.out
      omega
     have htr:=trim_any HX3.out.vs hrlen
     obtain ⟨y,t,hyt⟩:∃ y t,trm (x0::r0)=y::t:=by
      have h1:=HRE.out.some (by simp)
      rw [← trm_ne HRE.out] at h1
      cases h:trm (x0::r0) with
      | nil=>exact absurd h h1
      | cons y t=>exact ⟨y,t,rfl⟩
     have htl:t.length+1≤r0.length+1:=by
      have:=trm_len (x0::r0)
      rw [hyt] at this
      simpa using this
     have htm:∀ u∈y::t,u∈us:=fun u hu=>HRM.out u (trm_mem _ u (by rw [hyt];exact hu))
     have HTL:=hid_mk htl
     have HTM:=hid_mk htm
     have HKS:=hid_mk (cxK_some (F:=F') HCM.out hyt)
     have HNT:Hid (NE (y::t)):=by rw [Hid,← hyt];exact trm_NE _
     rw [hyt] at htr
     have HR3:Hid (R=preL (ps.map (·.2.1)) ks (if cmbV y≠0 then preK p (cmbV y) (cxK F' (trm t)) else if spB x0=true then preK p 1 (cxK F' (y::t)) else none)):=by rw [Hid,HR.out,HKS.out]
     obtain ⟨xb,xo,xc',ka,kn',kc,e1,hx1,hx2,hxc,_,_⟩:=HX3.out.vs.item
     injection e1 with ea en ec
     subst ea ec
     have HXC:=hid_mk hxc
     clear hr1 hyt htl htm hrlen hxc en HKS HR HCM HRE k0 k1 f0 f1 t0 t1 h0 h1
     go_wp2_with (go_at_call 38;fail)
     refine htr.mono ?_
     rintro e w4 ⟨ya,yn,yc,rfl,hv4,hyn,hyc,hym,hb4⟩
     have HX4:=hid_mk (HX3.out.trim hb4 hv4)
     have HB4:=hid_mk hb4
     obtain ⟨yb,yo,yc',la,ln,lc,e2,hy1,hy2,hyc2,_,_⟩:=HX4.out.vs.item
     injection e2 with ea2 en2 ec2
     subst ea2 ec2
     obtain ⟨m0,m1,m2,m3,m4,m5⟩:=hyc2 w4 (Below.refl _ _)
     have HYN:=hid_mk hyn
     have hyn0:0<yn:=by rw [hyn];simp
     have HCB:=hid_mk (cmb_eq y)
     have HCC:=hid_mk (cbT_cases (dlT y.tok))
     have hde:=rdelim_any w4 y.tok la ln lc
     unfold vAg at hde
     clear htr hv4 hb4 en2 hy1 hy2 hyc2 hyn
     generalize hD:dlT y.tok=D at *
     have HD:=hid_mk hD
     clear hD
     generalize y.tok=tk at *
     obtain ⟨tk0,tx,un,wh,fl⟩:=tk
     dsimp only at m0 m1 m2 m3 m4 m5 hde
     go_wp2_with (go_at_call 78;fail)
     refine hde.mono ?_
     rintro e w5 ⟨rfl,hb5⟩
     have hcb:=rcomb_any w5 D
     clear hde m0 m1 m2 m3 m4 m5
     go_wp2_with (go_at_call 77;fail)
     refine hcb.mono ?_
     rintro e w6 ⟨rfl,hb6⟩
     have HB46:=hid_mk (hb5.trans (hb6.mono hb5.size))
     have HX6:=hid_mk (HX4.out.keep HB46.out)
     obtain ⟨k0,k1,f0,f1⟩:=two_cells HX6.out.out
     generalize hK:cbT D=K at *
     have HK:=hid_mk hK
     clear hcb hb5 hb6 hK
     rcases HCC.out with hK0 | hKp
     ·subst hK0
      obtain ⟨m0,m1,m2,m3,m4,m5⟩:=HXC.out w6 (HB4.out.trans (HB46.out.mono HB4.out.size))
      have his:=ris_any w6 x0.tok ka kn' kc 13
      unfold vAg at his
      have HSP:Hid (spB x0=(x0.tok.k == 13)):=rfl
      generalize x0.tok=xt at *
      obtain ⟨xt0,xtx,xun,xwh,xfl⟩:=xt
      dsimp only at m0 m1 m2 m3 m4 m5 his HSP
      clear HK HD HCC HXC
      go_wp2_with (go_at_call 75;fail)
      refine his.mono ?_
      rintro e w7 ⟨rfl,hb7⟩
      have HX7:=hid_mk (HX6.out.keep hb7)
      clear his m0 m1 m2 m3 m4 m5 hb7 k0 k1 f0 f1
      obtain ⟨k0,k1,f0,f1⟩:=two_cells HX7.out.out
      cases hsp:(xt0 == 13) with
      | false =>
        have HRN:Hid (R=none):=by
         rw [Hid,HR3.out,HCB.out,HSP.out,hsp]
         rfl
        obtain ⟨t0,t1,h0,h1⟩:=two_cells HX7.out.res
        clear HR3 HQ HRS HRL HRM HTL HTM HNT HX3 HX4 HX6 HB4 HB46
        go_wp2
        rw [HRN.out]
        obtain ⟨s1,s2,s3⟩:=HX7.out.no _ rfl
        exact bodyPost_ret (results37 _ _ W.heap.size false _ _ rfl rfl s2 s3) rfl ⟨s1,_,_,_,_,_,_,rfl⟩
      | true =>
        have HRN:Hid (R=preL ((ps++[((.slice xa xn xc:Value),p,lv)]).map (·.2.1)) (ks++[1]) (cxK F' (y::t))):=by
         rw [Hid,HR3.out,HCB.out,HSP.out,hsp,List.map_append]
         exact preL_pre _ _ _ _ _
        have HOW:Hid ((w7.alloc (.cells #[.int .i64 1] 3)).ownsRow (W.heap.size+2) 3 1 (.slice ca kn cc) kn (ks.map (Value.int .i64))):=by
         have:=HX7.out.cx.ko.alloc (.cells #[.int .i64 1] 3)
         rwa [HKN.out] at this
        have HNC:Hid (∀ v2 w2,w2.ownsRow (W.heap.size+2) 3 1 v2 (kn+1) (ks.map (Value.int .i64)++[.int .i64 1])→(w7.alloc (.cells #[.int .i64 1] 3)).grownBy w2 (Value.slice ca kn cc).ownBlock→(v2.ownBlock=(Value.slice ca kn cc).ownBlock∨v2.ownBlock=some (w7.heap.size+1))→w2.heap[W.heap.size+1]? = some (.cells #[.slice qa (pn+1) qc,.slice ca kn cc] 37 (0,0))∧XB W (.slice (some ⟨yb,yo,none⟩) yn yc) (.slice qa (pn+1) qc) v2 (ps++[(.slice xa xn xc,p,lv)]) (ks++[1]) (y::t) (fun b=>(P b∨w3.heap.size≤b)∧b<w4.heap.size) (w2.setCell ⟨W.heap.size+1,1,none⟩ v2)):=fun v2 w2 g1 g2 g3=>HX7.out.comb (by rw [HKN.out];exact g1) g2 g3
        have HSZ:Hid (W.heap.size+2≤(w7.alloc (.cells #[.int .i64 1] 3)).heap.size):=by
         have:=HX7.out.szl
         rw [Hid,World.size_alloc]
         omega
        have HON:=hid_mk (news1 (w:=w7) (x:=.int .i64 1) (T:=3))
        go_wp2_with (at_builtin;with_reducible refine wpList_append_own_at _ rfl _ _ 35 rfl (W.heap.size+2) 3 j0 y0 1 8 Tryz.underlying35 HJ.out HJ0.out HJ1.out HJ2.out HJ3.out (by decide) (.slice ca kn cc) kn (ks.map (Value.int .i64)) rfl HOW.out ⟨w7.heap.size,0,none⟩ 1 1 [.int .i64 1] rfl rfl HON.out ?c0 ?c1 ?c2 ?c3 ?_)
        case c0=>simp [Value.oneCell']
        case c1=>unfold maxLen;omega
        case c2=>omega
        case c3=>exact HSZ.out
        intro v8 w8 ho8 hg8 _ hat8
        obtain ⟨o8,hX8⟩:=HNC.out v8 w8 ho8 hg8 hat8
        obtain ⟨sa,sc,rfl⟩:=own_is ho8
        obtain ⟨d0,d1,g0,g1⟩:=two_cells o8
        have HX9:=hid_mk hX8
        clear HNC HON HSZ HOW ho8 hg8 hat8 o8 hX8 k0 k1 f0 f1
        go_wp2
        refine ⟨⟨F',y::t,_,yn,yc,some ⟨yb,yo,none⟩,_,_,_,_,_,rfl,rfl,HYN,HX9,HRN,?_⟩,?_⟩
        ·obtain ⟨a1,a2,a3,a4,a5⟩:=HQ.out
         have b1:=HTL.out
         have b2:=HRL.out
         have b3:=HPN.out
         have b4:=HKN.out
         simp only [List.length_cons,List.length_append,List.length_nil] at b2 ⊢
         exact ⟨by omega,fun u hu=>a2 u (HTM.out u hu),HNT.out,by omega,by omega⟩
        ·have b1:=HTL.out
         have b2:=HRL.out
         have b3:=HYN.out
         have b4:=HAN.out
         simp only [Y.sliceLen,List.length_cons] at b2 b3 ⊢
         omega
     ·have hKd:decide (0<K)=true:=decide_eq_true hKp
      have HRN:Hid (R=preL ((ps++[((.slice xa xn xc:Value),p,lv)]).map (·.2.1)) (ks++[K]) (cxK F' (trm t))):=by
       have hne0:cmbV y≠0:=by rw [HCB.out];omega
       rw [Hid,HR3.out,if_pos hne0,HCB.out,List.map_append]
       exact preL_pre _ _ _ _ _
      clear HK HD HCC HXC
      have HOW:Hid ((w6.alloc (.cells #[.int .i64 K] 3)).ownsRow (W.heap.size+2) 3 1 (.slice ca kn cc) kn (ks.map (Value.int .i64))):=by
       have:=HX6.out.cx.ko.alloc (.cells #[.int .i64 K] 3)
       rwa [HKN.out] at this
      have HNC:Hid (∀ v2 w2,w2.ownsRow (W.heap.size+2) 3 1 v2 (kn+1) (ks.map (Value.int .i64)++[.int .i64 K])→(w6.alloc (.cells #[.int .i64 K] 3)).grownBy w2 (Value.slice ca kn cc).ownBlock→(v2.ownBlock=(Value.slice ca kn cc).ownBlock∨v2.ownBlock=some (w6.heap.size+1))→w2.heap[W.heap.size+1]? = some (.cells #[.slice qa (pn+1) qc,.slice ca kn cc] 37 (0,0))∧XB W (.slice (some ⟨yb,yo,none⟩) yn yc) (.slice qa (pn+1) qc) v2 (ps++[(.slice xa xn xc,p,lv)]) (ks++[K]) (y::t) (fun b=>(P b∨w3.heap.size≤b)∧b<w4.heap.size) (w2.setCell ⟨W.heap.size+1,1,none⟩ v2)):=fun v2 w2 g1 g2 g3=>HX6.out.comb (by rw [HKN.out];exact g1) g2 g3
      have HSZ:Hid (W.heap.size+2≤(w6.alloc (.cells #[.int .i64 K] 3)).heap.size):=by
       have:=HX6.out.szl
       rw [Hid,World.size_alloc]
       omega
      have HON:=hid_mk (news1 (w:=w6) (x:=.int .i64 K) (T:=3))
      go_wp2_with (at_builtin;with_reducible refine wpList_append_own_at _ rfl _ _ 35 rfl (W.heap.size+2) 3 j0 y0 1 8 Tryz.underlying35 HJ.out HJ0.out HJ1.out HJ2.out HJ3.out (by decide) (.slice ca kn cc) kn (ks.map (Value.int .i64)) rfl HOW.out ⟨w6.heap.size,0,none⟩ 1 1 [.int .i64 K] rfl rfl HON.out ?c0 ?c1 ?c2 ?c3 ?_)
      case c0=>simp [Value.oneCell']
      case c1=>unfold maxLen;omega
      case c2=>omega
      case c3=>exact HSZ.out
      intro v8 w8 ho8 hg8 _ hat8
      obtain ⟨o8,hX8⟩:=HNC.out v8 w8 ho8 hg8 hat8
      obtain ⟨sa,sc,rfl⟩:=own_is ho8
      obtain ⟨d0,d1,g0,g1⟩:=two_cells o8
      have HX9:=hid_mk hX8
      clear HNC HON HSZ HOW ho8 hg8 hat8 o8 hX8 k0 k1 f0 f1
      obtain ⟨w9,hw9⟩:∃ w9,w9=w8.setCell ⟨W.heap.size+1,1,none⟩ (.slice sa (kn+1) sc):=⟨_,rfl⟩
      rw [← hw9] at HX9
      obtain ⟨zb,zo,zc,ma,mn,mc,e3,hz1,hz2,_,_,hzt⟩:=HX9.out.vs.item
      injection e3 with ea3 en3 ec3
      injection ea3 with ea3
      injection ea3 with ea3 ea4
      subst ea3 ea4 ec3
      have HZT:=hid_mk hzt
      have htlen:t.length≤100000:=by
       have b1:=HTL.out
       have b2:=HRL.out
       have b3:=HQ.out.2.2.2.1
       have b4:=HLN.out
       simp only [List.length_cons] at b2
       omega
      have HTR:Hid (∀ a' n' c',VsAt (fun b=>(P b∨w3.heap.size≤b)∧b<w4.heap.size) w9 (.slice a' n' c') t→Calls Tryz.prog 38 #[.slice a' n' c'] w9 fun e w'=>∃ a n c,e=.returned (.slice a n c)∧XB W (.slice a n c) (.slice qa (pn+1) qc) (.slice sa (kn+1) sc) (ps++[(.slice xa xn xc,p,lv)]) (ks++[K]) (trm t) (fun b=>(((P b∨w3.heap.size≤b)∧b<w4.heap.size)∨w9.heap.size≤b)∧b<w'.heap.size) w'∧n=(trm t).length):=fun a' n' c' hv=>(trim_any hv htlen).mono fun e w' h=>by
       obtain ⟨a,n,c,q1,q2,q3,_,_,q6⟩:=h
       exact ⟨a,n,c,q1,(HX9.out.list hv HX9.out.pl).trim q6 q2,q3⟩
      have hyl:yn=t.length+1:=HYN.out
      have HW9:=hid_mk hw9
      have HTN:Hid (t.length+1=yn):=hyl.symm
      clear hzt en3 hz1 hz2 hw9 hyl HX9
      go_upto_region 12 with fail
      rw [← HW9.out]
      clear HW9 d0 d1 g0 g1
      go_wp2_with (go_at_call 38;fail)
      ·refine (HTR.out _ _ _ (HZT.out _ _ _ (by have:=HTN.out;omega) (by omega) (fun h=>by have:=HTN.out;omega))).mono ?_
       rintro e w10 ⟨a,n,c,rfl,hX10,hn10⟩
       have HX10:=hid_mk hX10
       have HN10:=hid_mk hn10
       clear hX10 hn10 HTR HZT
       go_wp2
       refine ⟨⟨F',trm t,_,n,c,a,_,_,_,_,_,rfl,rfl,HN10,HX10,HRN,?_⟩,?_⟩
       ·obtain ⟨a1,a2,a3,a4,a5⟩:=HQ.out
        have b1:=HTL.out
        have b2:=HRL.out
        have b3:=HPN.out
        have b4:=HKN.out
        have b5:=trm_len t
        simp only [List.length_cons,List.length_append,List.length_nil] at b2 ⊢
        exact ⟨by omega,fun u hu=>a2 u (HTM.out u (by simp [trm_mem t u hu])),trm_NE t,by omega,by omega⟩
       ·have b1:=HTL.out
        have b2:=HRL.out
        have b4:=HAN.out
        have b5:=trm_len t
        have b6:=HN10.out
        simp only [Y.sliceLen,List.length_cons] at b2 ⊢
        omega
      ·refine (HTR.out _ _ _ (HZT.out _ _ _ (by have:=HTN.out;omega) (by omega) (fun h=>rfl))).mono ?_
       rintro e w10 ⟨a,n,c,rfl,hX10,hn10⟩
       have HX10:=hid_mk hX10
       have HN10:=hid_mk hn10
       clear hX10 hn10 HTR HZT
       go_wp2
       refine ⟨⟨F',trm t,_,n,c,a,_,_,_,_,_,rfl,rfl,HN10,HX10,HRN,?_⟩,?_⟩
       ·obtain ⟨a1,a2,a3,a4,a5⟩:=HQ.out
        have b1:=HTL.out
        have b2:=HRL.out
        have b3:=HPN.out
        have b4:=HKN.out
        have b5:=trm_len t
        simp only [List.length_cons,List.length_append,List.length_nil] at b2 ⊢
        exact ⟨by omega,fun u hu=>a2 u (HTM.out u (by simp [trm_mem t u hu])),trm_NE t,by omega,by omega⟩
       ·have b1:=HTL.out
        have b2:=HRL.out
        have b4:=HAN.out
        have b5:=trm_len t
        have b6:=HN10.out
        simp only [Y.sliceLen,List.length_cons] at b2 ⊢
        omega
def spF:List V→List (List V)→List V→List (List V)
 | [],ys,c=>ys++[c]
 | v::r,ys,c=>if cmB v=true then spF r (ys++[c]) [] else spF r ys (c++[v])
def hdP (c:List V):List (List V)→List (List V)
 | []=>[c]
 | p::ps=>(c++p)::ps
theorem spF_eq:∀ (l:List V) (ys:List (List V)) (c:List V),spF l ys c=ys++hdP c (splt l)
 | [],ys,c=>by simp [spF,splt,hdP]
 | v::r,ys,c=>by
   unfold spF splt
   split
   ·rw [spF_eq r]
    cases h:splt r with
    | nil=>exact absurd h (splt_ne r)
    | cons p ps=>simp [hdP]
   ·rw [spF_eq r]
    cases h:splt r with
    | nil=>exact absurd h (splt_ne r)
    | cons p ps=>simp [hdP]
theorem spF_splt (l:List V):spF l [] []=splt l:=by
 rw [spF_eq]
 cases h:splt l with
 | nil=>exact absurd h (splt_ne l)
 | cons p ps=>simp [hdP]
abbrev PV:=Value×List (T5×Value×List V)
def flV (ps:List (T5×Value×List V)):List Value:=ps.flatMap fun p=>vCells p.1 p.2.1
def prV (x:PV):List V:=x.2.map Y.mkV
structure SpI (W w:World) (ov:Value) (xs:List PV):Prop where
 own:w.ownsRow W.heap.size 43 1 ov xs.length (xs.map (·.1))
 rows:∀ x∈xs,w.ownsRow W.heap.size 98 6 x.1 x.2.length (flV x.2)
 kids:∀ x∈xs,∀ p∈x.2,VsAt (·<W.heap.size) W p.2.1 p.2.2
 dis:xs.Pairwise fun a b=>∀ g,a.1.ownBlock=some g→b.1.ownBlock≠some g
 bel:Below W.heap.size W w
theorem SpI.keep {W w w':World} {ov:Value} {xs:List PV} (h:SpI W w ov xs) (hb:Below w.heap.size w w'):SpI W w' ov xs:=⟨own_keep h.own hb,fun x hx=>own_keep (h.rows x hx) hb,h.kids,h.dis,h.bel.trans (hb.mono h.bel.size)⟩
theorem typ_ne {w:World} {B n m s t g:Nat} {T U:TypeId} {u v:Value} {xs ys:List Value} (h:w.ownsRow B T s u n xs) (k:w.ownsRow B U t v m ys) (hT:T≠U) (e:u.ownBlock=some g):v.ownBlock≠some g:=fun e2=>by
 obtain ⟨c,h1⟩:=own_typ h e
 obtain ⟨d,h2⟩:=own_typ k e2
 rw [h1] at h2
 injection h2 with h2
 injection h2 with _ h2
 exact hT h2
theorem SpI.start (W:World):SpI W (W.alloc (.cells #[.slice none 0 0] 43)) (.slice (some ⟨W.heap.size,0,none⟩) 1 1) [(.slice none 0 0,[])]:=by
 refine ⟨?_,fun x hx=>?_,fun x hx p hp=>?_,by simp,(Below.refl _ _).alloc (Nat.le_refl _) _⟩
 ·have:=World.ownsRow_lit (base:=W.heap.size) (e:=43) (size:=1) W #[.slice none 0 0] 1 (Nat.le_refl _) (by decide) rfl
  simpa using this
 ·rw [List.mem_singleton.1 hx]
  exact World.ownsRow_nil _ _ _ _
 ·rw [List.mem_singleton.1 hx] at hp
  exact absurd hp (by simp)
theorem SpI.new {W w w2:World} {ov ov2:Value} {o:Obj} {xs:List PV} (h:SpI W w ov xs) (ho:w2.ownsRow W.heap.size 43 1 ov2 (xs.length+1) (xs.map (·.1)++[.slice none 0 0])) (hg:(w.alloc o).grownBy w2 ov.ownBlock):SpI W w2 ov2 (xs++[(.slice none 0 0,[])]):=by
 have hsz:(w.alloc o).heap.size=w.heap.size+1:=by simp
 have hst:∀ k,k<w.heap.size→ov.ownBlock≠some k→w2.heap[k]? = w.heap[k]?:=fun k h1 h2=>(hg.block k (by omega) (fun e=>h2 e.symm)).trans (Below.heap_alloc w o k h1)
 have h1:Below W.heap.size W (w.alloc o):=h.bel.alloc h.bel.size o
 refine ⟨by rw [List.length_append,List.map_append];exact ho,fun x hx=>?_,fun x hx=>?_,?_,h1.grown hg h1.size fun k e=>(own_blk h.own k e).1⟩
 ·rcases List.mem_append.1 hx with hx | hx
  ·exact own_stay (h.rows x hx) fun g hgl _ e=>hst g hgl (typ_ne (h.rows x hx) h.own (by decide) e)
  ·rw [List.mem_singleton.1 hx]
   exact World.ownsRow_nil _ _ _ _
 ·rcases List.mem_append.1 hx with hx | hx
  ·exact h.kids x hx
  ·rw [List.mem_singleton.1 hx]
   exact fun p hp=>absurd hp (by simp)
 ·refine List.pairwise_append.2 ⟨h.dis,by simp,fun a ha b hb g e=>?_⟩
  rw [List.mem_singleton.1 hb]
  simp [Value.ownBlock]
theorem SpI.grow {W w w4:World} {ov u u2:Value} {ys:List PV} {ps:List (T5×Value×List V)} {t:T5} {kv:Value} {kids:List V} (h:SpI W w ov (ys++[(u,ps)])) (hk:VsAt (·<W.heap.size) W kv kids)
  (hrow:w4.ownsRow W.heap.size 98 6 u2 (ps.length+1) (flV ps++vCells t kv)) (hout:w4.ownsRow W.heap.size 43 1 ov (ys.length+1) (ys.map (·.1)++[u2])) (hst:∀ k,k<w.heap.size→u.ownBlock≠some k→ov.ownBlock≠some k→w4.heap[k]? = w.heap[k]?)
  (hat:u2.ownBlock=u.ownBlock∨∃ g,u2.ownBlock=some g∧w.heap.size≤g) (hb:Below W.heap.size W w4):SpI W w4 ov (ys++[(u2,ps++[(t,kv,kids)])]):=by
 have hd:=List.pairwise_append.1 h.dis
 refine ⟨by rw [List.length_append,List.map_append];exact hout,fun x hx=>?_,fun x hx=>?_,?_,hb⟩
 ·rcases List.mem_append.1 hx with hx | hx
  ·have hr:=h.rows x (by simp [hx])
   exact own_stay hr fun g hgl _ e=>hst g hgl (hd.2.2 x hx _ (List.mem_singleton.2 rfl) g e) (typ_ne hr h.own (by decide) e)
  ·rw [List.mem_singleton.1 hx]
   show w4.ownsRow _ _ _ _ (ps++[(t,kv,kids)]).length (flV (ps++[(t,kv,kids)]))
   rw [List.length_append]
   have:flV (ps++[(t,kv,kids)])=flV ps++vCells t kv:=by simp [flV]
   rw [this]
   exact hrow
 ·rcases List.mem_append.1 hx with hx | hx
  ·exact h.kids x (by simp [hx])
  ·rw [List.mem_singleton.1 hx]
   intro p hp
   rcases List.mem_append.1 hp with hp | hp
   ·exact h.kids (u,ps) (by simp) p hp
   ·rw [List.mem_singleton.1 hp]
    exact hk
 ·refine List.pairwise_append.2 ⟨hd.1,by simp,fun a ha b hb' g e=>?_⟩
  rw [List.mem_singleton.1 hb']
  show u2.ownBlock≠some g
  intro e2
  rcases hat with q | ⟨g',q,hge⟩
  ·exact hd.2.2 a ha _ (List.mem_singleton.2 rfl) g e (q.symm.trans e2)
  ·rw [q] at e2
   cases e2
   have:=(own_blk (h.rows a (by simp [ha])) g e).2
   omega
theorem SpI.at {W w:World} {ov:Value} {xs:List PV} (h:SpI W w ov xs) (j:Nat) (x:PV) (hx:xs[j]? = some x):VsAt (fun _=>True) w x.1 (prV x):=by
 have hm:=List.mem_of_getElem? hx
 have hr:Y.Row (fun _=>True) W.heap.size w x.1 x.2:=by
  refine ⟨h.rows x hm,fun _ _=>trivial,fun p hp=>?_⟩
  refine ((h.kids x hm p hp).stay (W':=w) h.bel.size fun b hb _=>h.bel.block b hb).wider fun b hb _=>⟨trivial,fun e=>?_⟩
  have:=(own_blk (h.rows x hm) b e).1
  omega
 exact Y.Row.vals hr
structure Mid (W w3 w7:World) (g g2 oc c2:Nat) (u:Value) (ys:List PV) (ps:List (T5×Value×List V)) (news:List Value):Prop where
 cell:w7.cell? ⟨g,ys.length,none⟩=some u
 froz:w7.frozen? ⟨g,ys.length,none⟩=false
 ne:g≠g2
 out:(w7.setCell ⟨g,ys.length,none⟩ (.slice (some ⟨g2,0,none⟩) (ps.length+1) c2)).ownsRow W.heap.size 43 1 (.slice (some ⟨g,0,none⟩) (ys.length+1) oc) (ys.length+1) (ys.map (·.1)++[.slice (some ⟨g2,0,none⟩) (ps.length+1) c2])
 row:(w7.setCell ⟨g,ys.length,none⟩ (.slice (some ⟨g2,0,none⟩) (ps.length+1) c2)).ownsRow W.heap.size 98 6 (.slice (some ⟨g2,0,none⟩) (ps.length+1) c2) (ps.length+1) (flV ps++news)
 st:∀ k,k<w3.heap.size→u.ownBlock≠some k→k≠g→(w7.setCell ⟨g,ys.length,none⟩ (.slice (some ⟨g2,0,none⟩) (ps.length+1) c2)).heap[k]? = w3.heap[k]?
 at_:u.ownBlock=some g2∨w3.heap.size≤g2
 bel:Below W.heap.size W (w7.setCell ⟨g,ys.length,none⟩ (.slice (some ⟨g2,0,none⟩) (ps.length+1) c2))
theorem SpI.mid {W w3 w7:World} {g g2 oc c2:Nat} {u:Value} {ys:List PV} {ps:List (T5×Value×List V)} {news:List Value} {o:Obj} (h:SpI W w3 (.slice (some ⟨g,0,none⟩) (ys.length+1) oc) (ys++[(u,ps)]))
  (ho:w7.ownsRow W.heap.size 98 6 (.slice (some ⟨g2,0,none⟩) (ps.length+1) c2) (ps.length+1) (flV ps++news)) (hg:(w3.alloc o).drew.grownBy w7 u.ownBlock) (hat:u.ownBlock=some g2∨g2=w3.heap.size+1):Mid W w3 w7 g g2 oc c2 u ys ps news:=by
 have hsz:(w3.alloc o).drew.heap.size=w3.heap.size+1:=by show (w3.alloc o).heap.size=_;simp
 have hst:∀ k,k<w3.heap.size→u.ownBlock≠some k→w7.heap[k]? = w3.heap[k]?:=fun k h1 h2=>(hg.block k (by omega) (fun e=>h2 e.symm)).trans (Below.heap_alloc w3 o k h1)
 have hrow:=h.rows (u,ps) (by simp)
 have hown:=h.own
 rw [List.length_append,List.length_singleton] at hown
 have hgl:g<w3.heap.size:=(own_blk hown g rfl).2
 have hug:u.ownBlock≠some g:=fun e=>typ_ne hrow hown (by decide) e rfl
 have hown7:w7.ownsRow W.heap.size 43 1 (.slice (some ⟨g,0,none⟩) (ys.length+1) oc) (ys.length+1) ((ys++[(u,ps)]).map (·.1)):=own_stay hown fun k hk _ e=>by
  cases e
  exact hst g hk hug
 have hne:g≠g2:=by
  rcases hat with e | e
  ·rintro rfl
   exact hug e
  ·omega
 have hl:((ys++[(u,ps)]).map (·.1)).set ys.length (.slice (some ⟨g2,0,none⟩) (ps.length+1) c2)=ys.map (·.1)++[.slice (some ⟨g2,0,none⟩) (ps.length+1) c2]:=by
  rw [List.map_append,List.set_append_right _ _ (by simp)]
  simp
 have hc:=World.ownsRow.cellAt hown7 ys.length (by omega)
 refine ⟨?_,World.ownsRow.frozenAt hown7 _,hne,?_,own_stay ho fun k _ _ e=>by cases e;exact heap_ne (Ne.symm hne),fun k h1 h2 h3=>(heap_ne h3).trans (hst k h1 h2),?_,?_⟩
 ·rw [hc,List.map_append,List.getElem?_append_right (by simp)]
  simp
 ·have:=(World.ownsRow.stored hown7 ys.length (.slice (some ⟨g2,0,none⟩) (ps.length+1) c2)).1
  rw [hl] at this
  exact this
 ·rcases hat with e | e
  ·exact .inl e
  ·exact .inr (by omega)
 ·have h1:Below W.heap.size W (w3.alloc o).drew:=(h.bel.alloc h.bel.size o).drew
  have h2:=h1.grown hg h1.size fun k e=>(own_blk hrow k e).1
  exact h2.setCell (p:=⟨g,ys.length,none⟩) (by simpa using (own_blk hown g rfl).1) _
theorem Mid.yes {W w3 w7:World} {g g2 oc c2:Nat} {u:Value} {ys:List PV} {ps:List (T5×Value×List V)} {t:T5} {kv:Value} {kids:List V} (h:SpI W w3 (.slice (some ⟨g,0,none⟩) (ys.length+1) oc) (ys++[(u,ps)])) (hk:VsAt (·<W.heap.size) W kv kids)
  (m:Mid W w3 w7 g g2 oc c2 u ys ps (vCells t kv)):SpI W (w7.setCell ⟨g,ys.length,none⟩ (.slice (some ⟨g2,0,none⟩) (ps.length+1) c2)) (.slice (some ⟨g,0,none⟩) (ys.length+1) oc) (ys++[(.slice (some ⟨g2,0,none⟩) (ps.length+1) c2,ps++[(t,kv,kids)])]) :=
 h.grow hk m.row m.out (fun k h1 h2 h3=>m.st k h1 h2 (fun e=>h3 (by rw [e];rfl))) (m.at_.imp (fun e=>e.symm) fun e=>⟨g2,rfl,e⟩) m.bel
theorem flV_len (ps:List (T5×Value×List V)):(flV ps).length=ps.length * 6:=Y.flat6_len ps
theorem Mid.later {W w3 w7:World} {g g2 oc c2:Nat} {u:Value} {ys:List PV} {ps:List (T5×Value×List V)} {t:T5} {kv:Value} {kids:List V} {z0 z1 z2 z3 z4 z5:Value} (h:SpI W w3 (.slice (some ⟨g,0,none⟩) (ys.length+1) oc) (ys++[(u,ps)])) (hk:VsAt (·<W.heap.size) W kv kids)
  (m:Mid W w3 w7 g g2 oc c2 u ys ps [z0,z1,z2,z3,z4,z5]) (w8 w9:World) (hw8:w8=w7.setCell ⟨g,ys.length,none⟩ (.slice (some ⟨g2,0,none⟩) (ps.length+1) c2))
  (hw9:w9=(((((w8.setCell ⟨g2,ps.length * 6,none⟩ (.int .i64 t.k)).setCell ⟨g2,ps.length * 6+1,none⟩ (.string t.tx)).setCell ⟨g2,ps.length * 6+2,none⟩ (.string t.un)).setCell ⟨g2,ps.length * 6+3,none⟩ (.bool t.wh)).setCell ⟨g2,ps.length * 6+4,none⟩ (.bool t.fl)).setCell ⟨g2,ps.length * 6+5,none⟩ kv) :
  SpI W w9 (.slice (some ⟨g,0,none⟩) (ys.length+1) oc) (ys++[(.slice (some ⟨g2,0,none⟩) (ps.length+1) c2,ps++[(t,kv,kids)])]):=by
 have hb:=m.bel
 have hrow:=m.row
 have hout:=m.out
 have hst:=m.st
 rw [← hw8] at hb hrow hout hst
 have hge:W.heap.size≤g2:=(own_blk hrow g2 rfl).1
 have r0:=(World.ownsRow.stored hrow (ps.length * 6) (.int .i64 t.k)).1
 have r1:=(World.ownsRow.stored r0 (ps.length * 6+1) (.string t.tx)).1
 have r2:=(World.ownsRow.stored r1 (ps.length * 6+2) (.string t.un)).1
 have r3:=(World.ownsRow.stored r2 (ps.length * 6+3) (.bool t.wh)).1
 have r4:=(World.ownsRow.stored r3 (ps.length * 6+4) (.bool t.fl)).1
 have r5:=(World.ownsRow.stored r4 (ps.length * 6+5) kv).1
 have hset:∀ (i:Nat) (x:Value) (ns:List Value),i<ns.length→(flV ps++ns).set (ps.length * 6+i) x=flV ps++ns.set i x:=fun i x ns hi=>by
  rw [List.set_append_right _ _ (by rw [flV_len];omega),flV_len]
  congr 2
  omega
 have e0:=hset 0 (.int .i64 t.k) [z0,z1,z2,z3,z4,z5] (by simp)
 have e1:=hset 1 (.string t.tx) [.int .i64 t.k,z1,z2,z3,z4,z5] (by simp)
 have e2:=hset 2 (.string t.un) [.int .i64 t.k,.string t.tx,z2,z3,z4,z5] (by simp)
 have e3:=hset 3 (.bool t.wh) [.int .i64 t.k,.string t.tx,.string t.un,z3,z4,z5] (by simp)
 have e4:=hset 4 (.bool t.fl) [.int .i64 t.k,.string t.tx,.string t.un,.bool t.wh,z4,z5] (by simp)
 have e5:=hset 5 kv [.int .i64 t.k,.string t.tx,.string t.un,.bool t.wh,.bool t.fl,z5] (by simp)
 simp only [Nat.add_zero,List.set_cons_zero,List.set_cons_succ] at e0 e1 e2 e3 e4 e5
 rw [e0,e1,e2,e3,e4,e5,← hw9] at r5
 have hne:=m.ne
 have hsame:∀ k,k≠g2→w9.heap[k]? = w8.heap[k]?:=fun k hk=>by
  rw [hw9,heap_ne hk,heap_ne hk,heap_ne hk,heap_ne hk,heap_ne hk,heap_ne hk]
 refine h.grow hk r5 (own_stay hout fun k _ _ e=>by cases e;exact hsame g hne) (fun k h1 h2 h3=>?_) (m.at_.imp (fun e=>e.symm) fun e=>⟨g2,rfl,e⟩) ?_
 ·rw [hsame k (by
   rintro rfl
   rcases m.at_ with e | e
   ·exact h2 e
   ·omega)]
  exact hst k h1 h2 (fun e=>h3 (by rw [e];rfl))
 ·rw [hw9]
  exact (((((hb.setCell (p:=⟨g2,_,none⟩) (by simpa using hge) _).setCell (p:=⟨g2,_,none⟩) (by simpa using hge) _).setCell (p:=⟨g2,_,none⟩) (by simpa using hge) _).setCell (p:=⟨g2,_,none⟩) (by simpa using hge) _).setCell (p:=⟨g2,_,none⟩) (by simpa using hge) _).setCell (p:=⟨g2,_,none⟩) (by simpa using hge) _
theorem Mid.cells {W w3 w7:World} {g g2 oc c2:Nat} {u:Value} {ys:List PV} {ps:List (T5×Value×List V)} {z0 z1 z2 z3 z4 z5:Value} (m:Mid W w3 w7 g g2 oc c2 u ys ps [z0,z1,z2,z3,z4,z5]) (w8:World) (hw8:w8=w7.setCell ⟨g,ys.length,none⟩ (.slice (some ⟨g2,0,none⟩) (ps.length+1) c2)) :
  (∀ i,w8.frozen? ⟨g2,i,none⟩=false)∧w8.cell? ⟨g2,ps.length * 6,none⟩=some z0∧w8.cell? ⟨g2,ps.length * 6+1,none⟩=some z1∧w8.cell? ⟨g2,ps.length * 6+2,none⟩=some z2∧w8.cell? ⟨g2,ps.length * 6+3,none⟩=some z3∧w8.cell? ⟨g2,ps.length * 6+4,none⟩=some z4∧w8.cell? ⟨g2,ps.length * 6+5,none⟩=some z5:=by
 have hrow:=m.row
 rw [← hw8] at hrow
 have hc:∀ i,i<6→w8.cell? ⟨g2,ps.length * 6+i,none⟩=[z0,z1,z2,z3,z4,z5][i]?:=fun i hi=>by
  rw [World.ownsRow.cellAt hrow _ (by omega),List.getElem?_append_right (by rw [flV_len];omega),flV_len]
  congr 1
  omega
 exact ⟨World.ownsRow.frozenAt hrow,hc 0 (by omega),hc 1 (by omega),hc 2 (by omega),hc 3 (by omega),hc 4 (by omega),hc 5 (by omega)⟩
theorem in43:∃ i z,Tryz.prog.info? 43=some i∧i.zero=some z∧i.size=1∧i.bytes=24∧z.cells.size=1:=⟨_,_,by rfl,by rfl,by rfl,by rfl,by rfl⟩
theorem in98:∃ i z,Tryz.prog.info? 98=some i∧i.zero=some z∧i.size=6∧i.bytes=72∧z.cells.size=6:=⟨_,_,by rfl,by rfl,by rfl,by rfl,by rfl⟩
theorem own_sl2 {W:World} {B:Nat} {T:TypeId} {s n:Nat} {v:Value} {xs:List Value} (h:W.ownsRow B T s v n xs):∃ a c,v=.slice a n c:=by
 rcases h.2 with ⟨rfl,rfl⟩ | ⟨g,cap,cur,rfl,_⟩
 ·exact ⟨_,_,rfl⟩
 ·exact ⟨_,_,rfl⟩
theorem news_1 {w:World} {x:Value} {T:TypeId}:∀ j u,[x][j]? = some u→(w.alloc (.cells #[x] T)).cell? (Addr.add ⟨w.heap.size,0,none⟩ j)=some u:=fun j u hu=>by
 rw [Addr.add_mid,Nat.zero_add,cellAt (heap_alloc_last w _) j]
 simpa using hu
theorem own_pos {W:World} {B:Nat} {T:TypeId} {s n:Nat} {v:Value} {xs:List Value} (h:W.ownsRow B T s v n xs) (h0:0<n):∃ g c,v=.slice (some ⟨g,0,none⟩) n c∧B≤g∧g<W.heap.size∧n≤c∧c≤9223372036854775807:=by
 rcases h.2 with ⟨_,rfl⟩ | ⟨g,cap,cur,rfl,hB,hg,hc,hm,_⟩
 ·omega
 ·exact ⟨g,cap,rfl,hB,(Array.getElem?_eq_some_iff.1 hg).1,hc,Nat.le_trans hm (by decide)⟩
theorem rsplit_any {P0:Nat→Prop} {W:World} {val:Value} {l:List V} (hv:VsAt P0 W val l) (hn:l.length≤100000):Calls Tryz.prog 36 #[val] W fun e w'=>Below W.heap.size W w'∧∃ g oc xs,e=.returned (.slice (some ⟨g,0,none⟩) (splt l).length oc)∧SpI W w' (.slice (some ⟨g,0,none⟩) (splt l).length oc) xs∧xs.map prV=splt l∧(splt l).length≤oc∧oc≤9223372036854775807:=by
 obtain ⟨i0,z0,hi,hz0,hz1,hz2,hz3⟩:=in43
 obtain ⟨j0,y0,hj,hy0,hy1,hy2,hy3⟩:=in98
 have HI:=hid_mk hi
 have HI0:=hid_mk hz0
 have HI1:=hid_mk hz1
 have HI2:=hid_mk hz2
 have HI3:=hid_mk hz3
 have HJ:=hid_mk hj
 have HJ0:=hid_mk hy0
 have HJ1:=hid_mk hy1
 have HJ2:=hid_mk hy2
 have HJ3:=hid_mk hy3
 clear hi hz0 hz1 hz2 hz3 hj hy0 hy1 hy2 hy3
 obtain ⟨a,cap,rfl,hc1,hc2⟩:=hv.slice
 have hcs:=hv.cells.2.2.2
 have HCS:Hid (∀ i (h:i<l.length),∃ b off ka kn kc,a=some ⟨b,off,none⟩∧b<W.heap.size∧(∀ j y,(vCells (l[i]'h).tok (.slice ka kn kc))[j]? = some y→W.cell? ⟨b,off+i * 6+j,none⟩=some y)∧VsAt (·<W.heap.size) W (.slice ka kn kc) (l[i]'h).kids):=fun i h=>by
  obtain ⟨b,off,kv,e,hbl,hcc,hk⟩:=hcs i h
  obtain ⟨ka,kc,rfl,_,_⟩:=hk.slice
  exact ⟨b,off,ka,_,kc,e,hbl,hcc,hk.wider fun b _ h=>h⟩
 have HS0:Hid (SpI W (W.alloc (.cells #[.slice none 0 0] 43)) (.slice (some ⟨W.heap.size,0,none⟩) 1 1) ([]++[(.slice none 0 0,[])])):=SpI.start W
 have HE0:Hid (spF (l.drop 0) (([]:List PV).map prV) (([]:List (T5×Value×List V)).map Y.mkV)=splt l):=spF_splt l
 obtain ⟨n,hnn⟩:∃ n,n=l.length:=⟨_,rfl⟩
 have HN:=hid_mk hnn
 rw [← hnn] at hn hc1 ⊢
 clear hv hcs hnn
 go_enter Tryz.func36,Tryz.ntmps36
 go_wp2
 go_loopw [3,9] (fun a3 a9 wr=>∃ (k:Nat) (ys:List PV) (u:Value) (ps:List (T5×Value×List V)) (g on oc:Nat),a3=.slice (some ⟨g,0,none⟩) on oc∧a9=.int .i64 (k:Int)∧k≤n∧on≤k+1∧Hid (on=ys.length+1)∧Hid (SpI W wr (.slice (some ⟨g,0,none⟩) on oc) (ys++[(u,ps)]))∧Hid (spF (l.drop k) (ys.map prV) (ps.map Y.mkV)=splt l)∧Hid (ps.length≤k)) (fun _ a9 _=>n+1 - (intOf a9).toNat)
 case atStart=>exact ⟨0,[],_,[],_,_,_,rfl,rfl,Nat.zero_le _,by omega,rfl,HS0,HE0,Nat.le_refl _⟩
 case round =>
  obtain ⟨k,ys,u,ps,g,on,oc,rfl,rfl,hk,hon,HON,HS,HE,HPL⟩:=hrel
  clear HS0 HE0
  by_cases hlt:k<n
  ·have hkl:k<l.length:=by have:=HN.out;omega
   obtain ⟨b,off,ka,kn,kc,rfl,hbl,hcc,hkid⟩:=HCS.out k hkl
   have hq:=fun j y hy=>(HS.out.bel.cell (p:=⟨b,off+k * 6+j,none⟩) hbl).trans (hcc j y hy)
   have HDR:Hid (l.drop k=l[k]::l.drop (k+1)):=List.drop_eq_getElem_cons hkl
   have HLK:Hid (l[k]=V.mk (l[k]'hkl).tok (l[k]'hkl).kids):=by cases l[k]'hkl;rfl
   have HKI:=hid_mk hkid
   generalize l[k]'hkl=x at *
   obtain ⟨⟨tk,tx,un,wh,fl⟩,kids⟩:=x
   have q0:wr.cell? ⟨b,off+k * 6,none⟩=some (.int .i64 tk):=hq 0 _ rfl
   have q1:wr.cell? ⟨b,off+k * 6+1,none⟩=some (.string tx):=hq 1 _ rfl
   have q2:wr.cell? ⟨b,off+k * 6+2,none⟩=some (.string un):=hq 2 _ rfl
   have q3:wr.cell? ⟨b,off+k * 6+3,none⟩=some (.bool wh):=hq 3 _ rfl
   have q4:wr.cell? ⟨b,off+k * 6+4,none⟩=some (.bool fl):=hq 4 _ rfl
   have q5:wr.cell? ⟨b,off+k * 6+5,none⟩=some (.slice ka kn kc):=hq 5 _ rfl
   obtain ⟨w1,hw1⟩:∃ w1,w1=wr.alloc (.cells #[.int .i64 tk,.string tx,.string un,.bool wh,.bool fl,.slice ka kn kc] 98):=⟨_,rfl⟩
   have hb1:Below wr.heap.size wr w1:=by rw [hw1];exact (Below.refl _ _).alloc (Nat.le_refl _) _
   have hx1:w1.heap[wr.heap.size]? = some (.cells #[.int .i64 tk,.string tx,.string un,.bool wh,.bool fl,.slice ka kn kc] 98 (0,0)):=by rw [hw1];exact heap_alloc_last wr _
   have his:=ris_any w1 ⟨tk,tx,un,wh,fl⟩ ka kn kc 18
   unfold vAg at his
   have m0:w1.cell? ⟨wr.heap.size,0,none⟩=some (.int .i64 tk):=cellAt hx1 0
   have m1:w1.cell? ⟨wr.heap.size,1,none⟩=some (.string tx):=cellAt hx1 1
   have m2:w1.cell? ⟨wr.heap.size,2,none⟩=some (.string un):=cellAt hx1 2
   have m3:w1.cell? ⟨wr.heap.size,3,none⟩=some (.bool wh):=cellAt hx1 3
   have m4:w1.cell? ⟨wr.heap.size,4,none⟩=some (.bool fl):=cellAt hx1 4
   have m5:w1.cell? ⟨wr.heap.size,5,none⟩=some (.slice ka kn kc):=cellAt hx1 5
   dsimp only at his
   have HW1:=hid_mk hw1
   have HB1:=hid_mk hb1
   have HX1:=hid_mk hx1
   clear hcc hkid hq hw1 hb1 hx1
   go_upto_region 5 with fail
   rw [← HW1.out]
   clear HW1 q0 q1 q2 q3 q4 q5
   go_wp2_with (go_at_call 75;fail)
   refine his.mono ?_
   rintro e w2 ⟨rfl,hb2⟩
   have HS2:=hid_mk ((HS.out.keep HB1.out).keep hb2)
   have HX2:Hid (w2.heap[wr.heap.size]? = some (.cells #[.int .i64 tk,.string tx,.string un,.bool wh,.bool fl,.slice ka kn kc] 98 (0,0))):=(hb2.block _ (Array.getElem?_eq_some_iff.1 HX1.out).1).trans HX1.out
   clear his hb2 m0 m1 m2 m3 m4 m5 HS HB1 HX1
   cases hcm:(tk == 18) with
   | true =>
     have HE2:Hid (spF (l.drop (k+1)) ((ys++[(u,ps)]).map prV) (([]:List (T5×Value×List V)).map Y.mkV)=splt l):=by
      have:=HE.out
      rw [HDR.out] at this
      unfold spF at this
      rw [if_pos (show cmB (V.mk ⟨tk,tx,un,wh,fl⟩ kids)=true from hcm)] at this
      rw [Hid,← this,List.map_append]
      rfl
     have HOW:Hid ((w2.alloc (.cells #[.slice none 0 0] 43)).ownsRow W.heap.size 43 1 (.slice (some ⟨g,0,none⟩) on oc) on ((ys++[(u,ps)]).map (·.1))):=by
      have:=HS2.out.own.alloc (.cells #[.slice none 0 0] 43)
      rw [List.length_append] at this
      rw [Hid,HON.out]
      rw [HON.out] at this
      exact this
     have HNW:Hid (∀ v2 w3,w3.ownsRow W.heap.size 43 1 v2 (on+1) ((ys++[(u,ps)]).map (·.1)++[.slice none 0 0])→(w2.alloc (.cells #[.slice none 0 0] 43)).grownBy w3 (Value.slice (some ⟨g,0,none⟩) on oc).ownBlock→SpI W w3 v2 ((ys++[(u,ps)])++[(.slice none 0 0,[])])):=fun v2 w3 h1 h2=>HS2.out.new (by rw [List.length_append,List.length_singleton,← HON.out];exact h1) h2
     have HSZ:Hid (W.heap.size≤(w2.alloc (.cells #[.slice none 0 0] 43)).heap.size):=by
      have:=HS2.out.bel.size
      rw [Hid,World.size_alloc]
      omega
     have HNE:=hid_mk (news_1 (w:=w2) (x:=.slice none 0 0) (T:=43))
     generalize (ys++[(u,ps)]).map (·.1)=OL at HOW HNW
     clear HS2 HX2 HDR HLK HKI HE
     go_wp2_with (at_builtin;with_reducible refine wpList_append_own_at _ rfl _ _ 57 rfl W.heap.size 43 i0 z0 1 24 Tryz.underlying57 HI.out HI0.out HI1.out HI2.out HI3.out (by decide) (.slice (some ⟨g,0,none⟩) on oc) on OL rfl HOW.out ⟨w2.heap.size,0,none⟩ 1 1 [.slice none 0 0] rfl rfl HNE.out ?c0 ?c1 ?c2 ?c3 ?_)
     case c0=>simp [Value.oneCell']
     case c1=>unfold maxLen;omega
     case c2=>omega
     case c3=>exact HSZ.out
     intro v3 w3 ho3 hg3 _ _
     have HS3:=hid_mk (HNW.out v3 w3 ho3 hg3)
     obtain ⟨g3,c3,rfl,_⟩:=own_pos ho3 (by omega)
     clear HNW HNE HSZ HOW ho3 hg3
     go_wp2
     refine ⟨⟨k+1,ys++[(u,ps)],_,[],g3,on+1,c3,rfl,by simp,by omega,by omega,?_,HS3,HE2,Nat.zero_le _⟩,?_⟩
     ·rw [Hid,HON.out]
      simp
     ·simp only [intOf]
      omega
   | false =>
     go_upto_region 7 with fail
     go_cut [19] (fun a19 wx=>∃ bb,a19=.bool bb∧Hid (Below w2.heap.size w2 wx))
     case first =>
      go_region
      all_goals go_wp2
      all_goals go_meet
      all_goals exact ⟨_,rfl,hid_mk ((Below.refl _ w2).alloc (Nat.le_refl _) _).drew⟩
     case rest =>
      obtain ⟨bb,rfl,HB3⟩:=hcut
      have HS3:=hid_mk (HS2.out.keep HB3.out)
      have HX3:Hid (wc.heap[wr.heap.size]? = some (.cells #[.int .i64 tk,.string tx,.string un,.bool wh,.bool fl,.slice ka kn kc] 98 (0,0))):=(HB3.out.block _ (Array.getElem?_eq_some_iff.1 HX2.out).1).trans HX2.out
      obtain ⟨ua,uc,hue⟩:∃ a c,u=.slice a ps.length c:=own_sl2 (HS3.out.rows (u,ps) (by simp))
      subst hue
      have he:=HON.out
      subst he
      have HGL:Hid (g<wc.heap.size):=(own_blk HS3.out.own g rfl).2
      have HC0:Hid (wc.cell? ⟨g,ys.length,none⟩=some (.slice ua ps.length uc)):=by
       have hown:=HS3.out.own
       rw [List.length_append,List.length_singleton] at hown
       rw [Hid,World.ownsRow.cellAt hown ys.length (by omega),List.map_append,List.getElem?_append_right (by simp)]
       simp
      have c0:=HC0.out
      have d0:wc.cell? ⟨wr.heap.size,0,none⟩=some (.int .i64 tk):=cellAt HX3.out 0
      have d1:wc.cell? ⟨wr.heap.size,1,none⟩=some (.string tx):=cellAt HX3.out 1
      have d2:wc.cell? ⟨wr.heap.size,2,none⟩=some (.string un):=cellAt HX3.out 2
      have d3:wc.cell? ⟨wr.heap.size,3,none⟩=some (.bool wh):=cellAt HX3.out 3
      have d4:wc.cell? ⟨wr.heap.size,4,none⟩=some (.bool fl):=cellAt HX3.out 4
      have d5:wc.cell? ⟨wr.heap.size,5,none⟩=some (.slice ka kn kc):=cellAt HX3.out 5
      have HE2:Hid (spF (l.drop (k+1)) (ys.map prV) ((ps++[((⟨tk,tx,un,wh,fl⟩:T5),(Value.slice ka kn kc),kids)]).map Y.mkV)=splt l):=by
       have:=HE.out
       rw [HDR.out] at this
       unfold spF at this
       rw [if_neg (show ¬ cmB (V.mk ⟨tk,tx,un,wh,fl⟩ kids)=true by rw [show cmB (V.mk ⟨tk,tx,un,wh,fl⟩ kids)=(tk == 18) from rfl,hcm];simp)] at this
       rw [Hid,← this,List.map_append]
       rfl
      have hocn:ys.length+1≤oc∧oc≤9223372036854775807:=by
       obtain ⟨g',c',e',_,_,hc',hm'⟩:=own_pos HS3.out.own (by simp)
       injection e' with _ e2 e3
       simp only [List.length_append,List.length_singleton] at hc'
       omega
      have hpl:ps.length≤100000:=by have:=HPL.out;omega
      have hyl:ys.length≤100000:=by omega
      have hwr:IntKind.i64.wrap (ys.length:Int)=(ys.length:Int):=by rw [IntKind.wrap_i64] <;> omega
      have hix0:(0:Int)≤(ys.length:Int):=by omega
      have hix1:(ys.length:Int)<(ys.length:Int)+1:=by omega
      clear HS2 HX2 HB3 HE
      cases bb with
      | false =>
        have HOW:Hid ((wc.alloc (.cells #[.int .i64 tk,.string tx,.string un,.bool wh,.bool fl,.slice ka kn kc] 98)).drew.ownsRow W.heap.size 98 6 (.slice ua (ps.length) uc) ps.length (flV ps)):=(HS3.out.rows (.slice ua ps.length uc,ps) (by simp)).alloc _
        have HMID:Hid (∀ g7 c7 w7,w7.ownsRow W.heap.size 98 6 (.slice (some ⟨g7,0,none⟩) (ps.length+1) c7) (ps.length+1) (flV ps++[.int .i64 tk,.string tx,.string un,.bool wh,.bool fl,.slice ka kn kc])→(wc.alloc (.cells #[.int .i64 tk,.string tx,.string un,.bool wh,.bool fl,.slice ka kn kc] 98)).drew.grownBy w7 (Value.slice ua ps.length uc).ownBlock→((Value.slice ua ps.length uc).ownBlock=some g7∨g7=wc.heap.size+1)→Mid W wc w7 g g7 oc c7 (.slice ua ps.length uc) ys ps [.int .i64 tk,.string tx,.string un,.bool wh,.bool fl,.slice ka kn kc]):=fun g7 c7 w7 h1 h2 h3=>HS3.out.mid h1 h2 h3
        have HNEW:Hid (∀ j x,[.int .i64 tk,.string tx,.string un,.bool wh,.bool fl,.slice ka kn kc][j]? = some x→(wc.alloc (.cells #[.int .i64 tk,.string tx,.string un,.bool wh,.bool fl,.slice ka kn kc] 98)).drew.cell? (Addr.add ⟨wc.heap.size,0,none⟩ j)=some x):=fun j x hx=>by
         rw [Addr.add_mid,Nat.zero_add]
         show (wc.alloc _).cell? _=_
         rw [cellAt (heap_alloc_last wc _) j]
         simpa using hx
        have HONE:Hid (∀ x∈([.int .i64 tk,.string tx,.string un,.bool wh,.bool fl,.slice ka kn kc]:List Value),x.oneCell'=true):=by
         intro x hx
         simp only [List.mem_cons,List.not_mem_nil,or_false] at hx
         rcases hx with rfl | rfl | rfl | rfl | rfl | rfl <;> rfl
        have HSZ:Hid (W.heap.size≤(wc.alloc (.cells #[.int .i64 tk,.string tx,.string un,.bool wh,.bool fl,.slice ka kn kc] 98)).drew.heap.size):=by
         have:=HS3.out.bel.size
         show _≤(wc.alloc _).heap.size
         rw [World.size_alloc]
         omega
        have HH:Hid ((wc.alloc (.cells #[.int .i64 tk,.string tx,.string un,.bool wh,.bool fl,.slice ka kn kc] 98)).drew.heap.size=wc.heap.size+1):=by
         show (wc.alloc _).heap.size=_
         rw [World.size_alloc]
        have n0:(wc.alloc (.cells #[.int .i64 tk,.string tx,.string un,.bool wh,.bool fl,.slice ka kn kc] 98)).drew.cell? ⟨g,ys.length,none⟩=some (.slice ua ps.length uc):=(((Below.refl wc.heap.size wc).alloc (Nat.le_refl _) (.cells #[.int .i64 tk,.string tx,.string un,.bool wh,.bool fl,.slice ka kn kc] 98)).cell (p:=⟨g,ys.length,none⟩) HGL.out).trans HC0.out
        have nb:∀ j,j<6→(wc.alloc (.cells #[.int .i64 tk,.string tx,.string un,.bool wh,.bool fl,.slice ka kn kc] 98)).drew.cell? ⟨wr.heap.size,j,none⟩=[.int .i64 tk,.string tx,.string un,.bool wh,.bool fl,.slice ka kn kc][j]?:=fun j hj=>(((Below.refl wc.heap.size wc).alloc (Nat.le_refl _) (.cells #[.int .i64 tk,.string tx,.string un,.bool wh,.bool fl,.slice ka kn kc] 98)).cell (p:=⟨wr.heap.size,j,none⟩) (Array.getElem?_eq_some_iff.1 HX3.out).1).trans ((cellAt HX3.out j).trans (by simp))
        have b0:=nb 0 (by omega)
        have b1:=nb 1 (by omega)
        have b2:=nb 2 (by omega)
        have b3:=nb 3 (by omega)
        have b4:=nb 4 (by omega)
        have b5:=nb 5 (by omega)
        simp only [List.getElem?_cons_zero,List.getElem?_cons_succ] at b0 b1 b2 b3 b4 b5
        clear nb
        have HYES:Hid (∀ g7 c7 w7,Mid W wc w7 g g7 oc c7 (.slice ua ps.length uc) ys ps [.int .i64 tk,.string tx,.string un,.bool wh,.bool fl,.slice ka kn kc]→SpI W (w7.setCell ⟨g,ys.length,none⟩ (.slice (some ⟨g7,0,none⟩) (ps.length+1) c7)) (.slice (some ⟨g,0,none⟩) (ys.length+1) oc) (ys++[(.slice (some ⟨g7,0,none⟩) (ps.length+1) c7,ps++[(⟨tk,tx,un,wh,fl⟩,.slice ka kn kc,kids)])])):=fun g7 c7 w7 h7=>Mid.yes (t:=⟨tk,tx,un,wh,fl⟩) HS3.out HKI.out h7
        go_upto_region 10 with fail
        go_region_law (first
         | (refine step_append_lies _ (by rfl) _ _ 43 (by rfl) W.heap.size 98 j0 y0 6 72 Tryz.underlying43 HJ.out HJ0.out HJ1.out HJ2.out HJ3.out (by decide) (.slice ua ps.length uc) ps.length (flV ps) (by rfl) HOW.out ⟨wc.heap.size,0,none⟩ 1 1 [.int .i64 tk,.string tx,.string un,.bool wh,.bool fl,.slice ka kn kc] (by rfl) (by rfl) HNEW.out HONE.out (by omega) (by unfold maxLen;omega) (by omega) HSZ.out (wc.heap.size+1) HH.out ?_;intro g7 c7 w7 ho7 hg7 hat7 _;have HM7:=hid_mk (HMID.out g7 c7 w7 ho7 hg7 hat7);have r7:=HM7.out.cell;have f7:=HM7.out.froz;clear ho7 hg7 hat7))
        all_goals
         have HS8:=hid_mk (HYES.out _ _ _ HM7.out)
         go_wp2
         refine ⟨⟨k+1,ys,_,_,g,_,oc,rfl,by simp,by omega,by omega,rfl,HS8,HE2,?_⟩,?_⟩
         ·have:=HPL.out
          rw [Hid,List.length_append]
          simpa using this
         ·simp only [intOf]
          omega
      | true =>
        have HOW:Hid ((wc.alloc (.cells #[.int .i64 0,.string ⟨#[]⟩,.string ⟨#[]⟩,.bool false,.bool false,.slice none 0 0] 98)).drew.ownsRow W.heap.size 98 6 (.slice ua (ps.length) uc) ps.length (flV ps)):=(HS3.out.rows (.slice ua ps.length uc,ps) (by simp)).alloc _
        have HMID:Hid (∀ g7 c7 w7,w7.ownsRow W.heap.size 98 6 (.slice (some ⟨g7,0,none⟩) (ps.length+1) c7) (ps.length+1) (flV ps++[.int .i64 0,.string ⟨#[]⟩,.string ⟨#[]⟩,.bool false,.bool false,.slice none 0 0])→(wc.alloc (.cells #[.int .i64 0,.string ⟨#[]⟩,.string ⟨#[]⟩,.bool false,.bool false,.slice none 0 0] 98)).drew.grownBy w7 (Value.slice ua ps.length uc).ownBlock→((Value.slice ua ps.length uc).ownBlock=some g7∨g7=wc.heap.size+1)→Mid W wc w7 g g7 oc c7 (.slice ua ps.length uc) ys ps [.int .i64 0,.string ⟨#[]⟩,.string ⟨#[]⟩,.bool false,.bool false,.slice none 0 0]):=fun g7 c7 w7 h1 h2 h3=>HS3.out.mid h1 h2 h3
        have HNEW:Hid (∀ j x,[.int .i64 0,.string ⟨#[]⟩,.string ⟨#[]⟩,.bool false,.bool false,.slice none 0 0][j]? = some x→(wc.alloc (.cells #[.int .i64 0,.string ⟨#[]⟩,.string ⟨#[]⟩,.bool false,.bool false,.slice none 0 0] 98)).drew.cell? (Addr.add ⟨wc.heap.size,0,none⟩ j)=some x):=fun j x hx=>by
         rw [Addr.add_mid,Nat.zero_add]
         show (wc.alloc _).cell? _=_
         rw [cellAt (heap_alloc_last wc _) j]
         simpa using hx
        have HONE:Hid (∀ x∈([.int .i64 0,.string ⟨#[]⟩,.string ⟨#[]⟩,.bool false,.bool false,.slice none 0 0]:List Value),x.oneCell'=true):=by
         intro x hx
         simp only [List.mem_cons,List.not_mem_nil,or_false] at hx
         rcases hx with rfl | rfl | rfl | rfl | rfl | rfl <;> rfl
        have HSZ:Hid (W.heap.size≤(wc.alloc (.cells #[.int .i64 0,.string ⟨#[]⟩,.string ⟨#[]⟩,.bool false,.bool false,.slice none 0 0] 98)).drew.heap.size):=by
         have:=HS3.out.bel.size
         show _≤(wc.alloc _).heap.size
         rw [World.size_alloc]
         omega
        have HH:Hid ((wc.alloc (.cells #[.int .i64 0,.string ⟨#[]⟩,.string ⟨#[]⟩,.bool false,.bool false,.slice none 0 0] 98)).drew.heap.size=wc.heap.size+1):=by
         show (wc.alloc _).heap.size=_
         rw [World.size_alloc]
        have n0:(wc.alloc (.cells #[.int .i64 0,.string ⟨#[]⟩,.string ⟨#[]⟩,.bool false,.bool false,.slice none 0 0] 98)).drew.cell? ⟨g,ys.length,none⟩=some (.slice ua ps.length uc):=(((Below.refl wc.heap.size wc).alloc (Nat.le_refl _) (.cells #[.int .i64 0,.string ⟨#[]⟩,.string ⟨#[]⟩,.bool false,.bool false,.slice none 0 0] 98)).cell (p:=⟨g,ys.length,none⟩) HGL.out).trans HC0.out
        have nb:∀ j,j<6→(wc.alloc (.cells #[.int .i64 0,.string ⟨#[]⟩,.string ⟨#[]⟩,.bool false,.bool false,.slice none 0 0] 98)).drew.cell? ⟨wr.heap.size,j,none⟩=[.int .i64 tk,.string tx,.string un,.bool wh,.bool fl,.slice ka kn kc][j]?:=fun j hj=>(((Below.refl wc.heap.size wc).alloc (Nat.le_refl _) (.cells #[.int .i64 0,.string ⟨#[]⟩,.string ⟨#[]⟩,.bool false,.bool false,.slice none 0 0] 98)).cell (p:=⟨wr.heap.size,j,none⟩) (Array.getElem?_eq_some_iff.1 HX3.out).1).trans ((cellAt HX3.out j).trans (by simp))
        have b0:=nb 0 (by omega)
        have b1:=nb 1 (by omega)
        have b2:=nb 2 (by omega)
        have b3:=nb 3 (by omega)
        have b4:=nb 4 (by omega)
        have b5:=nb 5 (by omega)
        simp only [List.getElem?_cons_zero,List.getElem?_cons_succ] at b0 b1 b2 b3 b4 b5
        clear nb
        have HLAT:Hid (∀ g7 c7 w7,Mid W wc w7 g g7 oc c7 (.slice ua ps.length uc) ys ps [.int .i64 0,.string ⟨#[]⟩,.string ⟨#[]⟩,.bool false,.bool false,.slice none 0 0]→∀ w8 w9,w8=w7.setCell ⟨g,ys.length,none⟩ (.slice (some ⟨g7,0,none⟩) (ps.length+1) c7)→w9=(((((w8.setCell ⟨g7,ps.length * 6,none⟩ (.int .i64 tk)).setCell ⟨g7,ps.length * 6+1,none⟩ (.string tx)).setCell ⟨g7,ps.length * 6+2,none⟩ (.string un)).setCell ⟨g7,ps.length * 6+3,none⟩ (.bool wh)).setCell ⟨g7,ps.length * 6+4,none⟩ (.bool fl)).setCell ⟨g7,ps.length * 6+5,none⟩ (.slice ka kn kc)→SpI W w9 (.slice (some ⟨g,0,none⟩) (ys.length+1) oc) (ys++[(.slice (some ⟨g7,0,none⟩) (ps.length+1) c7,ps++[(⟨tk,tx,un,wh,fl⟩,.slice ka kn kc,kids)])])):=fun g7 c7 w7 h7 w8 w9 e8 e9=>Mid.later (t:=⟨tk,tx,un,wh,fl⟩) HS3.out HKI.out h7 w8 w9 e8 e9
        have hpi0:(0:Int)≤(ps.length:Int):=by omega
        have hpi1:(ps.length:Int)<(ps.length:Int)+1:=by omega
        go_upto_region 8 with fail
        go_region_law (first
         | (refine step_append_lies _ (by rfl) _ _ 43 (by rfl) W.heap.size 98 j0 y0 6 72 Tryz.underlying43 HJ.out HJ0.out HJ1.out HJ2.out HJ3.out (by decide) (.slice ua ps.length uc) ps.length (flV ps) (by rfl) HOW.out ⟨wc.heap.size,0,none⟩ 1 1 [.int .i64 0,.string ⟨#[]⟩,.string ⟨#[]⟩,.bool false,.bool false,.slice none 0 0] (by rfl) (by rfl) HNEW.out HONE.out (by omega) (by unfold maxLen;omega) (by omega) HSZ.out (wc.heap.size+1) HH.out ?_;intro g7 c7 w7 ho7 hg7 hat7 _;have HM7:=hid_mk (HMID.out g7 c7 w7 ho7 hg7 hat7);have r7:=HM7.out.cell;have f7:=HM7.out.froz;clear ho7 hg7 hat7))
        all_goals
         obtain ⟨w8,hw8⟩:∃ w8,w8=w7.setCell ⟨g,ys.length,none⟩ (.slice (some ⟨g7,0,none⟩) (ps.length+1) c7):=⟨_,rfl⟩
         obtain ⟨fz,z0',z1',z2',z3',z4',z5'⟩:=HM7.out.cells w8 hw8
         have fz0:=fz (ps.length * 6)
         have fz1:=fz (ps.length * 6+1)
         have fz2:=fz (ps.length * 6+2)
         have fz3:=fz (ps.length * 6+3)
         have fz4:=fz (ps.length * 6+4)
         have fz5:=fz (ps.length * 6+5)
         have HW8:=hid_mk hw8
         clear fz hw8
         go_upto_region 9 with fail
         rw [← HW8.out]
         go_wp2
         have HS9:=hid_mk (HLAT.out _ _ _ HM7.out w8 _ HW8.out rfl)
         refine ⟨⟨k+1,ys,_,_,g,_,oc,rfl,by simp,by omega,by omega,rfl,HS9,HE2,?_⟩,?_⟩
         ·have:=HPL.out
          rw [Hid,List.length_append]
          simpa using this
         ·simp only [intOf]
          omega
  ·obtain rfl:k=n:=by omega
   have HSP:Hid ((ys++[(u,ps)]).map prV=splt l):=by
    have:=HE.out
    rw [List.drop_of_length_le (by have:=HN.out;omega)] at this
    rw [Hid,← this,List.map_append]
    rfl
   have HLE:Hid (on=(splt l).length):=by
    rw [Hid,HON.out,← HSP.out]
    simp
   obtain ⟨g',c',e',_,_,hc',hm'⟩:=own_pos HS.out.own (by simp)
   injection e' with _ e2 e3
   have hoc:on≤oc∧oc≤9223372036854775807:=by
    have h1:=HON.out
    simp only [List.length_append,List.length_singleton] at hc' e2
    omega
   have HOC:=hid_mk hoc
   clear e2 e3 hc' hm' hoc HE HPL HCS
   go_wp2
   go_ret
   rw [← HLE.out]
   exact ⟨HS.out.bel,g,oc,_,rfl,HS.out,by rw [HSP.out],HOC.out.1,HOC.out.2⟩
end Go.Proofs.YtemlnblifkdenaaGreatDoor.L
