/- The reader of selectors: a compound selector. -/
import Derived.Test.YtemlnblifkdenaaGreatDoorRSw
import Derived.Test.YtemlnblifkdenaaGreatDoorRAt
import Derived.Test.YtemlnblifkdenaaGreatDoorLPl
import Derived.Deep.AppendLies
import Derived.Test.YtemlnblifkdenaaGreatDoorYSame
import Derived.Deep.LoopGhost
set_option maxRecDepth 100000
set_option maxHeartbeats 8000000
namespace Go.Proofs.YtemlnblifkdenaaGreatDoor.L
open Go.RowKit
def toCx:Option CK→Option Cx
 | none=>none
 | some x=>some (.mk x.1 x.2)
def fX (p:List V):Option Cx:=toCx (cxK (p.length+1) (trm p))
theorem allO_two {α β γ:Type} (g:α→Option β) (h:β→Option γ):∀ xs:List α,allO (fun a=>match g a with | none=>none | some b=>h b) xs=match allO g xs with | none=>none | some l=>allO h l
 | []=>rfl
 | a::r=>by
   have ih:=allO_two g h r
   rw [allO_cons,allO_cons,ih]
   cases g a with
   | none=>rfl
   | some b =>
     simp only []
     cases hr:allO g r with
     | none =>
       simp only []
       cases h b <;> rfl
     | some l =>
       simp only []
       rw [allO_cons]
theorem toCx_rd (o:Option Cv):toCx (rdC o)=match o with | none=>none | some c=>fC parseZ c:=by
 cases o with
 | none=>rfl
 | some c =>
   simp only [rdC,fC]
   cases allO (allO (fS parseZ)) c.1 <;> rfl
theorem parse_fX (l:List V):parseZ l=allO fX (splt l):=by
 rw [parseZ_step,ls_main _ l (Nat.le_refl _)]
 have e:∀ p,fX p=match cxP p with | none=>none | some c=>fC parseZ c:=by
  intro p
  show toCx (cxK (p.length+1) (trm p))=_
  rw [cxK_rd,toCx_rd]
  rfl
 refine (Eq.trans ?_ (allO_two cxP (fC parseZ) (splt l)).symm).trans (congrArg (fun F=>allO F (splt l)) (funext fun p=>?_))
 ·cases allO cxP (splt l) <;> rfl
 ·rw [e]
  cases cxP p <;> rfl
def preO (acc:List Cx):Option (List Cx)→Option (List Cx)
 | none=>none
 | some r=>some (acc++r)
theorem preO_nil (o:Option (List Cx)):preO [] o=o:=by cases o <;> rfl
theorem preO_step (acc:List Cx) (p:List V) (r:List (List V)):preO acc (allO fX (p::r))=match fX p with | none=>none | some c=>preO (acc++[c]) (allO fX r):=by
 rw [allO_cons]
 cases fX p with
 | none=>rfl
 | some c =>
   simp only []
   cases allO fX r with
   | none=>rfl
   | some l=>simp [preO]
abbrev CY:=Value×Value×Cx
def rowX (cs:List CY):List Value:=cs.flatMap fun x=>[x.1,x.2.1]
theorem rowX_at:∀ {cs:List CY} {i:Nat} (h:i<cs.length),(rowX cs)[i * 2]? = some (cs[i]'h).1∧(rowX cs)[i * 2+1]? = some (cs[i]'h).2.1
 | x::r,0,_=>⟨rfl,rfl⟩
 | x::r,i+1,h=>by
   have:=rowX_at (cs:=r) (i:=i) (by simpa using h)
   unfold rowX at this ⊢
   rw [List.flatMap_cons,List.getElem?_append_right (by show 2≤_;omega),List.getElem?_append_right (by show 2≤_;omega)]
   have e1:(i+1) * 2 - [x.1,x.2.1].length=i * 2:=by show _ - 2=_;omega
   have e2:(i+1) * 2+1 - [x.1,x.2.1].length=i * 2+1:=by show _ - 2=_;omega
   rw [e1,e2]
   exact this
structure PaI (B:Nat) (w:World) (ov:Value) (cs:List CY):Prop where
 own:w.ownsRow B 37 2 ov cs.length (rowX cs)
 ls:∀ x∈cs,∃ lo hi,B≤lo∧hi≤w.heap.size∧Rob lo hi w (fun w2=>CxS w2 x.1 x.2.1 x.2.2)∧∀ g,ov.ownBlock=some g→g<lo∨hi≤g
theorem PaI.nil (B:Nat) (w:World):PaI B w (.slice none 0 0) []:=⟨World.ownsRow_nil _ _ _ _,fun x hx=>absurd hx (by simp)⟩
theorem PaI.keep {B:Nat} {w w':World} {ov:Value} {cs:List CY} (h:PaI B w ov cs) (hb:Below w.heap.size w w'):PaI B w' ov cs:=by
 refine ⟨own_keep h.own hb,fun x hx=>?_⟩
 obtain ⟨lo,hi,h2,h3,h4,h5⟩:=h.ls x hx
 exact ⟨lo,hi,h2,Nat.le_trans h3 hb.size,h4.to fun k _ hk=>hb.block k (by omega),h5⟩
theorem PaI.add {B:Nat} {w0 w wx w2:World} {ov ov2 pv cv:Value} {c:Cx} {cs:List CY} (h:PaI B w0 ov cs) (hb:Below w0.heap.size w0 w) (hB:B≤w0.heap.size) (hr:Rob w0.heap.size w.heap.size w fun w2=>CxS w2 pv cv c) (hx:Below w.heap.size w wx)
  (ho:w2.ownsRow B 37 2 ov2 (cs.length+1) (rowX cs++[pv,cv])) (hg:wx.grownBy w2 ov.ownBlock) (hat:ov2.ownBlock=ov.ownBlock∨ov2.ownBlock=some wx.heap.size):PaI B w2 ov2 (cs++[(pv,cv,c)]):=by
 have hk:=(h.keep hb).keep hx
 have hbw:=hb.size
 have hxw:=hx.size
 have hgs:=hg.size
 refine ⟨?_,fun x hm=>?_⟩
 ·have:rowX (cs++[(pv,cv,c)])=rowX cs++[pv,cv]:=by simp [rowX]
  rw [List.length_append,this]
  exact ho
 ·rcases List.mem_append.1 hm with hm | hm
  ·obtain ⟨lo,hi,h2,h3,h4,h5⟩:=hk.ls x hm
   refine ⟨lo,hi,h2,by omega,h4.to fun k hk1 hk2=>hg.block k (by omega) (fun e=>?_),fun g e=>?_⟩
   ·have:=h5 k e.symm
    omega
   ·rcases hat with e2 | e2
    ·exact h5 g (e2.symm.trans e)
    ·rw [e2] at e
     cases e
     exact .inr h3
  ·rw [List.mem_singleton.1 hm]
   refine ⟨w0.heap.size,w.heap.size,hB,by omega,hr.to fun k hk1 hk2=>?_,fun g e=>?_⟩
   ·rw [hg.block k (by omega) (fun e=>?_)]
    ·exact hx.block k hk2
    ·have:=(own_blk h.own k e.symm).2
     omega
   ·rcases hat with e2 | e2
    ·exact .inl (own_blk h.own g (e2.symm.trans e)).2
    ·rw [e2] at e
     cases e
     exact .inr (by omega)
theorem PaI.rob {B:Nat} {w:World} {ov:Value} {cs:List CY} (h:PaI B w ov cs):Rob B w.heap.size w fun w2=>ClAt w2 ov (cs.map (·.2.2)):=fun w2 ha=>by
 have hall:∀ i,∃ f:(Nat×Nat×Nat×Nat)×((Nat→Value)×(Nat→Nat)×(Nat→Nat)×(Nat→Nat→Value)),∀ (hi:i<cs.length),CxAt (ClAt w2) w2 (cs[i]'hi).1 (cs[i]'hi).2.1 (cs[i]'hi).2.2 f.1.1 f.1.2.1 f.1.2.2.1 f.1.2.2.2 f.2.1 f.2.2.1 f.2.2.2.1 f.2.2.2.2:=fun i=>by
  by_cases hi:i<cs.length
  ·obtain ⟨lo,hi',g1,g2,g3,_⟩:=h.ls _ (List.getElem_mem hi)
   obtain ⟨bc,oc,bp,op,qv,bq,oq,lv,hc⟩:=g3 w2 fun k hk1 hk2=>ha k (by omega) (by omega)
   exact ⟨((bc,oc,bp,op),(qv,bq,oq,lv)),fun _=>hc⟩
  ·exact ⟨((0,0,0,0),(fun _=>.slice none 0 0,fun _=>0,fun _=>0,fun _ _=>.slice none 0 0)),fun h'=>absurd h' hi⟩
 obtain ⟨f,hf⟩:=Classical.axiomOfChoice hall
 have hl:(cs.map (·.2.2)).length=cs.length:=List.length_map ..
 have hat:∀ i (hi:i<cs.length) (hi':i<(cs.map (·.2.2)).length),(cs.map (·.2.2))[i]'hi'=(cs[i]'hi).2.2:=fun i hi hi'=>List.getElem_map ..
 have hrow:Sl w2 ov cs.length (blkV ov) 0∧∀ j u,(rowX cs)[j]? = some u→w2.cell? ⟨blkV ov,0+j,none⟩=some u:=by
  have hl:=h.own.1
  rcases h.own.2 with ⟨e,hn⟩ | ⟨g,cap,cur,e,hB,hg,hc,hm,hs,ht⟩
  ·rw [e,hn]
   refine ⟨⟨none,0,rfl,Nat.le_refl _,by decide,fun h=>absurd h (by simp)⟩,fun j u hu=>?_⟩
   have:=(List.getElem?_eq_some_iff.1 hu).1
   omega
  ·have hgl:=(Array.getElem?_eq_some_iff.1 hg).1
   have hg2:=(ha g hB hgl).trans hg
   rw [e]
   refine ⟨⟨_,cap,rfl,hc,Nat.le_trans hm (by decide),fun _=>⟨rfl,(Array.getElem?_eq_some_iff.1 hg2).1⟩⟩,fun j u hu=>?_⟩
   show w2.cell? ⟨g,0+j,none⟩=some u
   have hj:=(List.getElem?_eq_some_iff.1 hu).1
   rw [cellAt hg2,Nat.zero_add,← Array.getElem?_toList]
   rw [← ht] at hu
   rwa [List.getElem?_take_of_lt (by omega)] at hu
 have hpv:∀ i (hi:i<cs.length),(match cs[i]? with | some x=>x.1 | none=>.slice none 0 0)=(cs[i]'hi).1:=fun i hi=>by rw [List.getElem?_eq_getElem hi]
 have hcv:∀ i (hi:i<cs.length),(match cs[i]? with | some x=>x.2.1 | none=>.slice none 0 0)=(cs[i]'hi).2.1:=fun i hi=>by rw [List.getElem?_eq_getElem hi]
 have hlt:∀ i,i<(cs.map (·.2.2)).length→i<cs.length:=fun i hi=>by rwa [hl] at hi
 refine .mk ov (cs.map (·.2.2)) (blkV ov) 0 (fun i=>match cs[i]? with | some x=>x.1 | none=>.slice none 0 0) (fun i=>match cs[i]? with | some x=>x.2.1 | none=>.slice none 0 0) (fun i=>(f i).1.1) (fun i=>(f i).1.2.1) (fun i=>(f i).1.2.2.1) (fun i=>(f i).1.2.2.2) (fun i=>(f i).2.1) (fun i=>(f i).2.2.1) (fun i=>(f i).2.2.2.1) (fun i=>(f i).2.2.2.2) (by rw [hl];exact hrow.1) (fun i hi=>?_) (fun i hi=>?_) (fun i hi=>?_) (fun i hi=>?_) (fun i hi=>?_) (fun i hi=>?_) (fun i hi=>?_) (fun i hi=>?_)
 ·have hi':=hlt i hi
  simp only [hpv i hi',hcv i hi']
  have:=rowX_at hi'
  exact ⟨hrow.2 _ _ this.1,hrow.2 _ _ this.2⟩
 all_goals
  have hi':=hlt i hi
  have hc:=hf i hi'
  rw [← hat i hi' hi] at hc
 ·simp only [hcv i hi']
  exact hc.cs
 ·exact hc.cc
 ·simp only [hpv i hi']
  exact hc.ps
 ·exact hc.pc
 ·exact hc.qs
 ·exact hc.qc
 ·exact hc.ls
theorem in37:∃ i z,Tryz.prog.info? 37=some i∧i.zero=some z∧i.size=2∧i.bytes=48∧z.cells.size=2:=⟨_,_,by rfl,by rfl,by rfl,by rfl,by rfl⟩
theorem news_2 {w:World} {x y:Value} {T:TypeId}:∀ j u,[x,y][j]? = some u→(w.alloc (.cells #[x,y] T)).cell? (Addr.add ⟨w.heap.size,0,none⟩ j)=some u:=fun j u hu=>by
 rw [Addr.add_mid,Nat.zero_add,cellAt (heap_alloc_last w _) j]
 simpa using hu
theorem rp_meas (j sn:Nat) (h:j<sn):sn+1 - (intOf (Value.int IntKind.i64 ((j:Int)+1))).toNat<sn+1 - (intOf (Value.int IntKind.i64 (j:Int))).toNat:=by
 simp only [intOf]
 omega
theorem splt_len:∀ l:List V,(splt l).length≤l.length+1
 | []=>by simp [splt]
 | v::r=>by
   have:=splt_len r
   unfold splt
   split
   ·simp;omega
   ·cases h:splt r with
    | nil=>simp
    | cons p ps=>rw [h] at this;simp at this ⊢;omega
theorem splt_mem:∀ l:List V,∀ p∈splt l,p.length≤l.length∧∀ u∈p,u∈l
 | [],p,hp=>by
   have:p=[]:=by simpa [splt] using hp
   subst this
   simp
 | v::r,p,hp=>by
   have ih:=splt_mem r
   unfold splt at hp
   split at hp
   ·rcases List.mem_cons.1 hp with rfl | hp
    ·simp
    ·exact ⟨by have:=(ih p hp).1;simp;omega,fun u hu=>by simp [(ih p hp).2 u hu]⟩
   ·cases h:splt r with
    | nil=>exact absurd h (splt_ne r)
    | cons q qs =>
      rw [h] at hp ih
      rcases List.mem_cons.1 hp with rfl | hp
      ·have:=ih q (by simp)
       refine ⟨by simp;omega,fun u hu=>?_⟩
       rcases List.mem_cons.1 hu with rfl | hu
       ·simp
       ·simp [this.2 u hu]
      ·have:=ih p (by simp [hp])
       exact ⟨by simp;omega,fun u hu=>by simp [this.2 u hu]⟩
structure PGo (W w2:World) (l:List V) (R:Option (List Cx)) (ov:Value) (cs:List CY) (j:Nat) (w:World):Prop where
 pa:PaI w2.heap.size w ov cs
 eq:R=preO (cs.map (·.2.2)) (allO fX ((splt l).drop j))
 ln:cs.length=j
 bel:Below w2.heap.size w2 w
theorem rparse_step (d:Nat) (ih:∀ (Q:Nat→Prop) (W:World) (val:Value) (l:List V),depL l<d→VsAt Q W val l→Fit l→Calls Tryz.prog 13 #[val] W (PaP W (parseZ l))) {P0:Nat→Prop} {W:World} {val:Value} {l:List V} (hd:depL l<d+1) (hv:VsAt P0 W val l) (hf:Fit l):Calls Tryz.prog 13 #[val] W (PaP W (parseZ l)):=by
 obtain ⟨i0,z0,hi,hz0,hz1,hz2,hz3⟩:=in37
 have HI:=hid_mk hi
 have HI0:=hid_mk hz0
 have HI1:=hid_mk hz1
 have HI2:=hid_mk hz2
 have HI3:=hid_mk hz3
 clear hi hz0 hz1 hz2 hz3
 have hll:=hf.len
 have hsp:=rsplit_any hv hll
 have HSL:=hid_mk (splt_len l)
 have HSM:=hid_mk (splt_mem l)
 have hatt:AttrC:=fun Q w v vs h1 h2 h3=>rattr_any h1 h2 h3
 have HCX:Hid (∀ (Q:Nat→Prop) (w:World) (v:Value) (p:List V),p∈splt l→VsAt Q w v (trm p)→Calls Tryz.prog 37 #[v] w (CxO w (cxK (p.length+1) (trm p)))):=fun Q w v p hp hv=>by
  have hm:=HSM.out p hp
  have hft:Fit (trm p):=hf.sub (Nat.le_trans (trm_len p) hm.1) fun u hu=>hm.2 u (trm_mem p u hu)
  refine rcomplex_any hatt hv hft (trm_NE p) (by have:=trm_len p;omega) fun u hu Q' w' kv _ hk=>?_
  have hul:u∈l:=hm.2 u (trm_mem p u hu)
  have h1:=depL_mem hul
  rw [dep_kids] at h1
  exact ih Q' w' kv u.kids (by omega) hk (hf.kids u hul)
 obtain ⟨R,hR⟩:∃ R,R=parseZ l:=⟨_,rfl⟩
 have HR0:Hid (R=preO (([]:List CY).map (·.2.2)) (allO fX ((splt l).drop 0))):=by
  rw [Hid,hR,parse_fX]
  exact (preO_nil _).symm
 rw [← hR]
 obtain ⟨a,cap,rfl,hc1,hc2⟩:=hv.slice
 generalize hnn:l.length=n at *
 clear hv hf hR ih hd hnn
 go_enter Tryz.func13,Tryz.ntmps13
 go_wp2_with (go_at_call 36;fail)
 refine hsp.mono ?_
 rintro e w2 ⟨hb2,g,oc,xs,rfl,hS,hxs,hoc1,hoc2⟩
 have HGO0:Hid (PGo W w2 l R (.slice none 0 0) [] 0 w2):=⟨PaI.nil _ _,HR0.out,rfl,Below.refl _ _⟩
 have HB2:=hid_mk hb2
 have HSP:Hid (∀ j p,(splt l)[j]? = some p→∀ w,Below w2.heap.size w2 w→∃ va vn vc,w.cell? ⟨g,j,none⟩=some (.slice va vn vc)∧VsAt (fun _=>True) w (.slice va vn vc) p∧p∈splt l):=fun j p hp w hb=>by
  rw [← hxs,List.getElem?_map] at hp
  cases hx:xs[j]? with
  | none=>rw [hx] at hp;cases hp
  | some x =>
    rw [hx] at hp
    injection hp with hp
    have hvx:=hS.at j x hx
    rw [hp] at hvx
    obtain ⟨va,vc,e,_⟩:=hvx.slice
    have hlen:xs.length=(splt l).length:=by rw [← hxs];simp
    have hj:=(List.getElem?_eq_some_iff.1 hx).1
    have hown:=hS.own
    have hc:w2.cell? ⟨g,j,none⟩=some x.1:=by
     rw [← hlen] at hown
     rw [World.ownsRow.cellAt hown j (by omega),List.getElem?_map,hx]
     rfl
    refine ⟨va,p.length,vc,?_,(by rw [← e];exact hvx.keep hb),?_⟩
    ·rw [← e]
     exact (hb.cell (p:=⟨g,j,none⟩) (World.block_lt_of_cell? w2 _ hc)).trans hc
    ·rw [← hxs,← hp]
     exact List.mem_map.2 ⟨x,List.mem_of_getElem? hx,rfl⟩
 have HLT:Hid (∀ j,j<(splt l).length→∃ p,(splt l)[j]? = some p):=fun j hj=>⟨_,List.getElem?_eq_getElem hj⟩
 obtain ⟨sn,hsn⟩:∃ sn,sn=(splt l).length:=⟨_,rfl⟩
 have hsl:sn≤100001:=by have:=HSL.out;omega
 have HSN:=hid_mk hsn
 rw [← hsn] at hoc1 ⊢
 clear hsp hb2 hS hxs hsn HR0
 go_wp2
 go_loopw [4,12] (fun a4 a12 wr=>∃ (j:Nat) (cs:List CY) (oa:Option Addr) (oc':Nat),a4=.slice oa j oc'∧a12=.int .i64 (j:Int)∧j≤sn∧Hid (PGo W w2 l R (.slice oa j oc') cs j wr)) (fun _ a12 _=>sn+1 - (intOf a12).toNat)
 case atStart=>exact ⟨0,[],_,_,rfl,rfl,Nat.zero_le _,HGO0⟩
 case round =>
  obtain ⟨j,cs,oa,oc',rfl,rfl,hj,HG⟩:=hrel
  clear HGO0
  by_cases hjl:j<sn
  ·obtain ⟨p,hp⟩:=HLT.out j (by have:=HSN.out;omega)
   obtain ⟨va,vn,vc,hcell,hvp,hpm⟩:=HSP.out j p hp wr HG.out.bel
   have hpl:p.length≤100000:=by have:=(HSM.out p hpm).1;omega
   have htr:=trim_any hvp hpl
   have HPM:=hid_mk hpm
   have HDR:Hid ((splt l).drop j=p::(splt l).drop (j+1)):=by
    obtain ⟨h1,h2⟩:=List.getElem?_eq_some_iff.1 hp
    rw [Hid,List.drop_eq_getElem_cons h1,h2]
   clear hp hvp hpm
   go_wp2_with (go_at_call 38;fail)
   refine htr.mono ?_
   rintro e w3 ⟨ta,tn,tc,rfl,hv3,htn,htc1,htc2,hb3⟩
   clear htn
   have hcx:=HCX.out _ w3 _ p HPM.out hv3
   have HB3:=hid_mk hb3
   have HFX:Hid (fX p=toCx (cxK (p.length+1) (trm p))):=rfl
   generalize cxK (p.length+1) (trm p)=C at *
   clear htr hv3 hb3 hcell
   go_wp2_with (go_at_call 37;fail)
   refine hcx.mono ?_
   rintro e w4 ⟨hb4,hq⟩
   have HB4:=hid_mk hb4
   have HB24:=hid_mk ((HG.out.bel.trans (HB3.out.mono HG.out.bel.size)).trans (hb4.mono (HG.out.bel.trans (HB3.out.mono HG.out.bel.size)).size))
   cases C with
   | none =>
     obtain ⟨xa,xn,xc,ya,yn,yc,rfl⟩:=hq
     have HRN:Hid (R=none):=by
      rw [Hid,HG.out.eq,HDR.out,preO_step,HFX.out]
      rfl
     have HBE:Hid (Below W.heap.size W (w4.alloc (.cells #[.slice xa xn xc,.slice ya yn yc] 37))):=by
      have h1:=HB2.out.trans (HB24.out.mono HB2.out.size)
      exact h1.alloc h1.size _
     clear hcx hb4 HG HDR HFX
     go_wp2
     go_ret2
     rw [HRN.out]
     exact ⟨rfl,HBE.out⟩
   | some c =>
     obtain ⟨qs,ks⟩:=c
     obtain ⟨xa,xn,xc,ya,yn,yc,rfl,hrob⟩:=hq
     have HROB:=hid_mk hrob
     have HBX:Hid (Below w4.heap.size w4 ((w4.alloc (.cells #[.slice xa xn xc,.slice ya yn yc] 37)).alloc (.cells #[.slice xa xn xc,.slice ya yn yc] 37))):=((Below.refl _ w4).alloc (Nat.le_refl _) _).alloc (by rw [World.size_alloc];omega) _
     have HPA:=hid_mk (HG.out.pa.keep HB3.out)
     have HSZ:Hid (w2.heap.size≤((w4.alloc (.cells #[.slice xa xn xc,.slice ya yn yc] 37)).alloc (.cells #[.slice xa xn xc,.slice ya yn yc] 37)).heap.size):=Nat.le_trans HB24.out.size HBX.out.size
     have HOW:Hid (((w4.alloc (.cells #[.slice xa xn xc,.slice ya yn yc] 37)).alloc (.cells #[.slice xa xn xc,.slice ya yn yc] 37)).ownsRow w2.heap.size 37 2 (.slice oa j oc') j (rowX cs)):=by
      have:=((HPA.out.keep HB4.out).keep HBX.out).own
      rw [HG.out.ln] at this
      exact this
     have HADD:Hid (∀ v2 w5,w5.ownsRow w2.heap.size 37 2 v2 (j+1) (rowX cs++[.slice xa xn xc,.slice ya yn yc])→((w4.alloc (.cells #[.slice xa xn xc,.slice ya yn yc] 37)).alloc (.cells #[.slice xa xn xc,.slice ya yn yc] 37)).grownBy w5 (Value.slice oa j oc').ownBlock→(v2.ownBlock=(Value.slice oa j oc').ownBlock∨v2.ownBlock=some (w4.heap.size+1+1))→PGo W w2 l R v2 (cs++[(.slice xa xn xc,.slice ya yn yc,.mk qs ks)]) (j+1) w5):=fun v2 w5 h1 h2 h3=>by
      have hB:w2.heap.size≤w3.heap.size:=Nat.le_trans HG.out.bel.size HB3.out.size
      have hbx:Below w2.heap.size w2 ((w4.alloc (.cells #[.slice xa xn xc,.slice ya yn yc] 37)).alloc (.cells #[.slice xa xn xc,.slice ya yn yc] 37)):=HB24.out.trans (HBX.out.mono HB24.out.size)
      refine ⟨HPA.out.add HB4.out hB HROB.out HBX.out (by rw [HG.out.ln];exact h1) h2 (by rw [World.size_alloc,World.size_alloc];exact h3),?_,?_,hbx.grown h2 hbx.size fun k e=>(own_blk HOW.out k e).1⟩
      ·rw [HG.out.eq,HDR.out,preO_step,HFX.out]
       show preO _ _=_
       rw [List.map_append]
       rfl
      ·rw [List.length_append,HG.out.ln]
       rfl
     have HNE:Hid (∀ i u,[.slice xa xn xc,.slice ya yn yc][i]? = some u→((w4.alloc (.cells #[.slice xa xn xc,.slice ya yn yc] 37)).alloc (.cells #[.slice xa xn xc,.slice ya yn yc] 37)).cell? (Addr.add ⟨w4.heap.size+1,0,none⟩ i)=some u):=by
      have:=news_2 (w:=w4.alloc (.cells #[.slice xa xn xc,.slice ya yn yc] 37)) (x:=.slice xa xn xc) (y:=.slice ya yn yc) (T:=37)
      rw [World.size_alloc] at this
      exact this
     generalize rowX cs=OL at HOW HADD
     clear hcx hb4 hrob HPA HG HDR HFX HBX HROB
     go_wp2_with (at_builtin;with_reducible refine wpList_append_own_at _ rfl _ _ 23 rfl w2.heap.size 37 i0 z0 2 48 Tryz.underlying23 HI.out HI0.out HI1.out HI2.out HI3.out (by decide) (.slice oa j oc') j OL rfl HOW.out ⟨w4.heap.size+1,0,none⟩ 1 1 [.slice xa xn xc,.slice ya yn yc] rfl rfl HNE.out ?c0 ?c1 ?c2 ?c3 ?_)
     case c0=>simp [Value.oneCell']
     case c1=>unfold maxLen;omega
     case c2=>omega
     case c3=>exact HSZ.out
     intro v5 w5 ho5 hg5 _ hat5
     have HG5:=hid_mk (HADD.out v5 w5 ho5 hg5 hat5)
     obtain ⟨g5,c5,rfl,_⟩:=own_pos ho5 (by omega)
     clear HADD HNE HSZ HOW ho5 hg5 hat5
     go_wp2
     exact ⟨⟨j+1,cs++[(.slice xa xn xc,.slice ya yn yc,.mk qs ks)],some ⟨g5,0,none⟩,c5,rfl,rfl,hjl,HG5⟩,rp_meas j sn hjl⟩
  ·obtain rfl:j=sn:=by omega
   have HRS:Hid (R=some (cs.map (·.2.2))):=by
    rw [Hid,HG.out.eq,List.drop_of_length_le (by have:=HSN.out;omega)]
    simp [allO,preO]
   go_wp2
   go_ret2
   rw [HRS.out]
   refine ⟨oa,_,oc',rfl,?_,?_⟩
   ·exact HG.out.pa.rob.wide HB2.out.size (Nat.le_refl _)
   ·exact HB2.out.trans (HG.out.bel.mono HB2.out.size)
theorem rparse_any:∀ (d:Nat) (Q:Nat→Prop) (W:World) (val:Value) (l:List V),depL l<d→VsAt Q W val l→Fit l→Calls Tryz.prog 13 #[val] W (PaP W (parseZ l))
 | 0,_,_,_,_,h,_,_=>by omega
 | d+1,_,_,_,_,h,hv,hf=>rparse_step d (rparse_any d) h hv hf
theorem listed_any (W:World) (k:Int):Calls Tryz.prog 51 #[.int .i64 k] W fun e w'=>e=.returned (.bool (lstB k))∧w'=W:=by
 have HE:Hid (lstB k=(k == 5 || k == 6 || k == 7)):=rfl
 generalize lstB k=r at *
 cases h5:(k == 5)
 ·cases h6:(k == 6)
  ·have HR:Hid (r=(k == 7)):=by rw [Hid,HE.out,h5,h6];rfl
   clear HE
   go_enter Tryz.func51,Tryz.ntmps51
   go_wp2
   go_ret
   exact ⟨by rw [HR.out];rfl,rfl⟩
  ·have HR:Hid (r=true):=by rw [Hid,HE.out,h5,h6];rfl
   clear HE
   go_enter Tryz.func51,Tryz.ntmps51
   go_wp2
   go_ret
   exact ⟨by rw [HR.out];rfl,rfl⟩
 ·have HR:Hid (r=true):=by rw [Hid,HE.out,h5];rfl
  clear HE
  go_enter Tryz.func51,Tryz.ntmps51
  go_wp2
  go_ret
  exact ⟨by rw [HR.out];rfl,rfl⟩
def Oth (lo:Nat) (W:World) (b:Nat) (ks:List (List V)) (vs:List V) (r:Option (List Sv×Nat)) (e:Ending) (w':World):Prop:=match r with
 | none=>e=.returned (.slice none 0 0)∧Rk lo W b ks vs w'
 | some (l,n)=>∃ v,e=.returned v∧w'.ownsRow W.heap.size 39 7 v l.length (ssC (l.map Prod.fst))∧Rk lo W b (ks++kidsOf l) (vs.drop n) w'
theorem info31:∃ i z,Tryz.prog.info? 43=some i∧i.zero=some z∧i.size=1∧i.bytes=24∧z.cells.size=1:=⟨_,_,by rfl,by rfl,by rfl,by rfl,by rfl⟩
theorem cells2 {W:World} {b:Nat} {x0 x1:Value} {T:TypeId} (h:W.heap[b]? = some (.cells #[x0,x1] T (0,0))):W.cell? ⟨b,0,none⟩=some x0∧W.cell? ⟨b,1,none⟩=some x1∧W.frozen? ⟨b,0,none⟩=false∧W.frozen? ⟨b,1,none⟩=false :=
 ⟨cellAt h 0,cellAt h 1,by simp [World.frozen?,h],by simp [World.frozen?,h]⟩
theorem Rk.more {W w1 w2:World} {lo b:Nat} {ks:List (List V)} {vs:List V} {rest kids kids' kv:Value} {cs:List Value} {us:List V} (hb:W.heap[b]? = some (.cells #[rest,kids] 59 (0,0))) (hv:VsAt (·<min lo b) W rest vs) (ho:W.ownsRow (b+1) 43 1 kids ks.length cs)
  (hks:∀ i (h:i<ks.length),∃ v,cs[i]? = some v∧VsAt (·<min lo b) W v (ks[i]'h)) (hkv:VsAt (·<min lo b) W kv us) (ha:Below W.heap.size W w1) (hg:w1.grownBy w2 kids.ownBlock) (ho2:w2.ownsRow (b+1) 43 1 kids' (ks.length+1) (cs++[kv])) :
  Rk lo W b (ks++[us]) vs (w2.setCell ⟨b,1,none⟩ kids')∧w2.heap[b]? = some (.cells #[rest,kids] 59 (0,0)):=by
 have hbl:b<W.heap.size:=(Array.getElem?_eq_some_iff.1 hb).1
 have hown:∀ j,kids.ownBlock=some j→b<j∧∃ c,W.heap[j]? = some (.cells c 43 (0,0)):=fun j hj=>by
  rcases ho.2 with ⟨rfl,_⟩ | ⟨g,cap,cur,rfl,h1,h2,_⟩
  ·cases hj
  ·cases hj
   exact ⟨h1,cur,h2⟩
 have hk:∀ j,j<W.heap.size→(j≤b∨∀ c fr,W.heap[j]?≠some (.cells c 43 fr))→w2.heap[j]? = W.heap[j]?:=fun j hj hc=>by
  rw [hg.block j (Nat.lt_of_lt_of_le hj ha.size) (fun e=>?_),ha.block j hj]
  obtain ⟨h1,c,h2⟩:=hown j e.symm
  rcases hc with hc | hc
  ·omega
  ·exact hc _ _ h2
 have hb2:w2.heap[b]? = some (.cells #[rest,kids] 59 (0,0)):=(hk b hbl (.inl (Nat.le_refl _))).trans hb
 have hsz:W.heap.size≤w2.heap.size:=Nat.le_trans ha.size hg.size
 have hlow:∀ j,j<b→(w2.setCell ⟨b,1,none⟩ kids').heap[j]? = W.heap[j]?:=fun j hj=>(heap_ne (by omega)).trans (hk j (by omega) (.inl (by omega)))
 have hst:∀ {v l},VsAt (·<min lo b) W v l→VsAt (·<min lo b) (w2.setCell ⟨b,1,none⟩ kids') v l:=fun h=>h.stay (by simpa using hsz) fun j hj _=>hlow j (by omega)
 refine ⟨⟨⟨kids',cs++[kv],⟨⟨rest,by rw [set_at 1 _ _ hb2];rfl,hst hv⟩,KeepX.of (Below.refl _ _)⟩,?_,fun i hi=>?_⟩,⟨hg.os.trans ha.os,hg.tape.trans ha.tape,hg.output.trans ha.output,by simpa using hsz,fun j hj hn hc=>(heap_ne hn).trans (hk j hj (hc.imp Nat.le_of_lt id))⟩⟩,hb2⟩
 ·rw [List.length_append]
  exact own_stay ho2 fun g _ hB _=>heap_ne (by omega)
 ·have hl:cs.length=ks.length:=by have:=ho.1;omega
  by_cases hik:i<ks.length
  ·obtain ⟨v,e,hv'⟩:=hks i hik
   refine ⟨v,by rw [List.getElem?_append_left (by omega)];exact e,?_⟩
   rw [List.getElem_append_left hik]
   exact hst hv'
  ·have hie:i=ks.length:=by simp at hi;omega
   subst hie
   refine ⟨kv,by rw [List.getElem?_append_right (by omega),hl];simp,?_⟩
   rw [List.getElem_append_right (Nat.le_refl _)]
   simpa using hst hkv
theorem choice_any {W:World} {lo b:Nat} {ks:List (List V)} {vs:List V} (h:Rk lo W b ks vs W) (hsg:Signs W) (hf:Fit vs) (hkn:ks.length≤1000000) :
  Calls Tryz.prog 149 #[.pointer (some ⟨b,0,none⟩)] W (Oth lo W b ks vs (choiceR vs)):=by
 obtain ⟨kids0,hrd0,_⟩:=h.open
 have hfn:=function_any hrd0 hsg hf.tx'
 cases hp:lstB (fnR vs) with
 | false =>
   have HE:Hid (choiceR vs=none):=by
    rw [Hid]
    unfold choiceR
    cases vs[1]? with
    | none=>rfl
    | some u=>simp only [hp];rfl
   have hli:=fun w=>listed_any w (fnR vs)
   rw [HE.out]
   rw [hp] at hli
   generalize fnR vs=z at *
   have HK:=hid_mk h
   clear h hsg hf HE hp hrd0
   go_enter Tryz.func149,Tryz.ntmps149
   go_wp2_with (go_at_call 153;fail)
   refine hfn.mono ?_
   rintro e w1 ⟨rfl,hB1⟩
   have HB:=hid_mk hB1
   clear hfn hB1
   go_wp2_with (go_at_call 51;fail)
   refine (hli w1).mono ?_
   rintro e w2 ⟨rfl,rfl⟩
   clear hli
   go_wp2
   go_ret
   exact ⟨rfl,HK.out.then HB.out⟩
 | true =>
 obtain ⟨u,hu,hlen⟩:=fnR_at (vs:=vs) (by intro e;rw [e] at hp;cases hp)
 have HE:Hid (choiceR vs=some ([(⟨fnR vs,⟨#[]⟩,0,⟨#[]⟩,0,0⟩,u.kids)],2)):=by
  rw [Hid]
  unfold choiceR
  rw [hu]
  simp only [hp,if_true]
 have HKO:Hid (kidsOf [((⟨fnR vs,⟨#[]⟩,0,⟨#[]⟩,0,0⟩:S6),u.kids)]=[u.kids]):=by
  rw [Hid]
  simp [kidsOf,hp]
 have hli:=fun w=>listed_any w (fnR vs)
 rw [hp] at hli
 generalize choiceR vs=R at *
 generalize fnR vs=z at *
 obtain ⟨i0,z0,hi0,hz0,hz1,hz2,hz3⟩:=info31
 have HK:=hid_mk h
 clear h hsg hf hp hrd0
 go_enter Tryz.func149,Tryz.ntmps149
 go_wp2_with (go_at_call 153;fail)
 refine hfn.mono ?_
 rintro e w1 ⟨rfl,hB1⟩
 have HK1:=hid_mk (HK.out.then hB1)
 clear hfn hB1 HK
 go_wp2_with (go_at_call 51;fail)
 refine (hli w1).mono ?_
 rintro e w2 ⟨rfl,rfl⟩
 clear hli
 obtain ⟨kids,cs,hrd,hown,hks⟩:=HK1.out.rd
 obtain ⟨a,n,cap,hn,hc1,hc2,h1,hvs,hs⟩:=hrd.see
 have hbl:b<w2.heap.size:=hrd.lt
 obtain ⟨hl,g,off,kv,rfl,q0,q1,q4,q5,hkv⟩:=hs 1 u hu
 rw [Nat.one_mul] at q0 q1 q4 q5
 obtain ⟨c0,c1,f0,f1⟩:=cells2 h1
 obtain ⟨a',cap',rfl,_,_⟩:=hkv.slice
 have hsl:∃ ka kn kc,kids=.slice ka kn kc:=by
  rcases hown.2 with ⟨rfl,_⟩ | ⟨g,cap,cur,rfl,_⟩
  ·exact ⟨_,_,_,rfl⟩
  ·exact ⟨_,_,_,rfl⟩
 have HM:Hid (∀ x w3 kids',(w2.alloc (.cells #[x] 43)).drew.grownBy w3 kids.ownBlock→x=.slice a' u.kids.length cap'→w3.ownsRow (b+1) 43 1 kids' (ks.length+1) (cs++[x])→Rk lo w2 b (ks++[u.kids]) vs (w3.setCell ⟨b,1,none⟩ kids')∧w3.heap[b]? = some (.cells #[.slice (some ⟨g,off,none⟩) n cap,kids] 59 (0,0))):=fun x w3 kids' hg e ho2=>by
  subst e
  exact Rk.more h1 hvs hown hks hkv (((Below.refl _ _).alloc (Nat.le_refl _) _).drew) hg ho2
 have hH:w2.heap[w2.heap.size]? = none:=Array.getElem?_eq_none (Nat.le_refl _)
 have hkne:kids.ownBlock≠some b:=fun e=>by
  have:=(hown.lt b e).1
  omega
 have HOW:=hid_mk hown
 obtain ⟨ka,kn,kc,rfl⟩:=hsl
 clear hks hvs hs hrd hn h1 q0 q1 q4 hkv hu
 have hl1:(1:Int)<(n:Int):=by omega
 go_upto_region 4 with (fail)
 go_region_law
  ((refine step_append_lies _ (by rfl) _ _ _ (by rfl) (b+1) 43 i0 z0 1 24 Tryz.underlying57 hi0 hz0 hz1 hz2 hz3 (by omega) (.slice ka kn kc) ks.length cs (by rfl) ((hown.alloc _).drew)
     ⟨w2.heap.size,0,none⟩ 1 1 [.slice a' u.kids.length cap'] (by rfl) (by rfl) (World.news_of_block (cs:=#[.slice a' u.kids.length cap']) (t:=43) (fr:=(0,0)) (heap_alloc_last w2 _)) (by simp [Value.oneCell'])
     (by omega) (by unfold maxLen;omega) (by omega) (by simp;omega) (w2.heap.size+1) (by simp) ?_
    intro gg cap5 w5 hown5 hgrow hgat hglt
    obtain ⟨hR5,hb5⟩:=HM.out _ w5 _ hgrow rfl hown5
    obtain ⟨d0,d1,e0,e1⟩:=cells2 hb5
    have HR5:=hid_mk hR5
    clear hown5 hgrow hgat hglt hb5 hR5))
 all_goals
  obtain ⟨W6,hW6⟩:∃ W6,W6=w5.setCell ⟨b,1,none⟩ (.slice (some ⟨gg,0,none⟩) (ks.length+1) cap5):=⟨_,rfl⟩
  rw [← hW6] at HR5 ⊢
  obtain ⟨kids6,hrd6,hnx⟩:=HR5.out.open
  have htl:=told_lit hrd6 [⟨z,⟨#[]⟩,0,⟨#[]⟩,0,0⟩] 2 hlen (by simp) W6 (Below.refl _ _)
  rw [show (ssC [⟨z,⟨#[]⟩,0,⟨#[]⟩,0,0⟩]).toArray=#[.int .i64 z,.string ⟨#[]⟩,.int .i64 0,.string ⟨#[]⟩,.int .i64 0,.int .i64 0,.slice none 0 0] from rfl] at htl
  have HNX:=hid_mk hnx
  clear hW6 hrd6 hnx d0 d1 e0 e1 c0 c1 f0 f1 q5 hown HOW HM hkne hH hi0 hz0 hz1 hz2 hz3
  go_wp2_with (go_at_call 143;fail)
  refine htl.mono ?_
  rintro e w7 ⟨v',rfl,ho,hr⟩
  have HZ:Hid (Oth lo W b ks vs R (.returned v') w7):=by
   rw [Hid,HE.out]
   refine ⟨v',rfl,own_from ho (Nat.le_trans HK1.out.keep.size HR5.out.keep.size),?_⟩
   rw [HKO.out]
   exact HK1.out.from (HNX.out _ _ hr)
  clear htl ho hr HNX
  go_wp2
  go_ret
  exact HZ.out
theorem kidsOf_bare (l:List S6) (h:∀ s∈l,lstB s.k=false):kidsOf (l.map fun s=>(s,[]))=[]:=by
 induction l with
 | nil=>rfl
 | cons s r ih =>
   have h1:=ih fun x hx=>h x (by simp [hx])
   have h2:=h s (by simp)
   unfold kidsOf at h1 ⊢
   rw [List.map_cons,List.filter_cons_of_neg (by simp [h2])]
   exact h1
theorem Way.oth {W:World} {lo b:Nat} {ks:List (List V)} {vs:List V} {kids:Value} (h:Rk lo W b ks vs W) (hn:∀ us W',Rd lo W b kids us W'→Rk lo W b ks us W') {r:Option (List S6×Nat)} (ok:WayOk vs r) {e:Ending} {w':World} (hw:Way lo W b kids vs r e w'):Oth lo W b ks vs (bare r) e w':=by
 cases r with
 | none=>exact ⟨hw.1,h.then hw.2⟩
 | some x =>
   obtain ⟨l,n⟩:=x
   obtain ⟨v,h1,h2,h3⟩:=hw
   obtain ⟨_,_,_,_,h5⟩:=ok l n rfl
   refine ⟨v,h1,?_,?_⟩
   ·have e1:(l.map fun s=>((s,[]):Sv)).map Prod.fst=l:=by rw [List.map_map];exact List.map_id l
    have e2:(l.map fun s=>((s,[]):Sv)).length=l.length:=by simp
    rw [e1,e2]
    exact h2
   ·rw [kidsOf_bare l h5,List.append_nil]
    exact hn _ _ h3
theorem Oth.up {W0 W:World} {lo b:Nat} {ks:List (List V)} {vs:List V} (h:Rk lo W0 b ks vs W) {r:Option (List Sv×Nat)} {e:Ending} {w':World} (hw:Oth lo W b ks vs r e w'):Oth lo W0 b ks vs r e w':=by
 cases r with
 | none=>exact ⟨hw.1,h.from hw.2⟩
 | some x =>
   obtain ⟨v,h1,h2,h3⟩:=hw
   exact ⟨v,h1,own_from h2 h.keep.size,h.from h3⟩
theorem own_len {W:World} {B:Nat} {T:TypeId} {s n:Nat} {v:Value} {xs:List Value} (h:W.ownsRow B T s v n xs) (hn:0<n):∃ a c,v=.slice (some a) n c:=by
 rcases h.2 with ⟨_,e⟩ | ⟨g,cap,cur,rfl,_⟩
 ·omega
 ·exact ⟨_,_,rfl⟩
def wy (k b:Nat):Value:=.func (.func k) #[.pointer (some ⟨b,0,none⟩)] #[]
theorem way_i0 (b:Nat) (w:World):(Instr.index 153 (.agg #[wy 144 b,wy 145 b,wy 146 b,wy 147 b,wy 148 b,wy 149 b]) (.int .i64 0)).run Tryz.prog w=.ok (wy 144 b) w:=by kernel_rfl
theorem way_i1 (b:Nat) (w:World):(Instr.index 153 (.agg #[wy 144 b,wy 145 b,wy 146 b,wy 147 b,wy 148 b,wy 149 b]) (.int .i64 1)).run Tryz.prog w=.ok (wy 145 b) w:=by kernel_rfl
theorem way_i2 (b:Nat) (w:World):(Instr.index 153 (.agg #[wy 144 b,wy 145 b,wy 146 b,wy 147 b,wy 148 b,wy 149 b]) (.int .i64 2)).run Tryz.prog w=.ok (wy 146 b) w:=by kernel_rfl
theorem way_i3 (b:Nat) (w:World):(Instr.index 153 (.agg #[wy 144 b,wy 145 b,wy 146 b,wy 147 b,wy 148 b,wy 149 b]) (.int .i64 3)).run Tryz.prog w=.ok (wy 147 b) w:=by kernel_rfl
theorem way_i4 (b:Nat) (w:World):(Instr.index 153 (.agg #[wy 144 b,wy 145 b,wy 146 b,wy 147 b,wy 148 b,wy 149 b]) (.int .i64 4)).run Tryz.prog w=.ok (wy 148 b) w:=by kernel_rfl
theorem way_i5 (b:Nat) (w:World):(Instr.index 153 (.agg #[wy 144 b,wy 145 b,wy 146 b,wy 147 b,wy 148 b,wy 149 b]) (.int .i64 5)).run Tryz.prog w=.ok (wy 149 b) w:=by kernel_rfl
theorem other_any {W:World} {lo b:Nat} {ks:List (List V)} {vs:List V} (h:Rk lo W b ks vs W) (hsg:Signs W) (hb:sgB<b) (hf:Fit vs) (hkn:ks.length≤1000000) :
  Calls Tryz.prog 126 #[.pointer (some ⟨b,0,none⟩)] W (Oth lo W b ks vs (otherR vs)):=by
 have HG:Hid (∀ w,Rk lo W b ks vs w→Signs w):=fun w hk=>hsg.keepT hk.keep hb
 have H0:Hid (∀ w,Rk lo W b ks vs w→Calls Tryz.prog 144 #[.pointer (some ⟨b,0,none⟩)] w (Oth lo w b ks vs (bare (idR vs)))):=fun w hk=>by
  obtain ⟨kids,hrd,hn⟩:=hk.self.open
  exact (id_any hrd).mono fun e w' q=>Way.oth hk.self hn (idR_ok vs) q
 have K0:=bare_ok (idR_ok vs)
 have H1:Hid (∀ w,Rk lo W b ks vs w→Calls Tryz.prog 145 #[.pointer (some ⟨b,0,none⟩)] w (Oth lo w b ks vs (bare (classR vs)))):=fun w hk=>by
  obtain ⟨kids,hrd,hn⟩:=hk.self.open
  exact (class_any hrd).mono fun e w' q=>Way.oth hk.self hn (classR_ok vs) q
 have K1:=bare_ok (classR_ok vs)
 have H2:Hid (∀ w,Rk lo W b ks vs w→Calls Tryz.prog 146 #[.pointer (some ⟨b,0,none⟩)] w (Oth lo w b ks vs (bare (attrR vs)))):=fun w hk=>by
  obtain ⟨kids,hrd,hn⟩:=hk.self.open
  exact (attr_any hrd (HG.out w hk) hf).mono fun e w' q=>Way.oth hk.self hn (attrR_ok vs) q
 have K2:=bare_ok (attrR_ok vs)
 have H3:Hid (∀ w,Rk lo W b ks vs w→Calls Tryz.prog 147 #[.pointer (some ⟨b,0,none⟩)] w (Oth lo w b ks vs (bare (stateR vs)))):=fun w hk=>by
  obtain ⟨kids,hrd,hn⟩:=hk.self.open
  exact (state_any hrd (HG.out w hk) hf.tx').mono fun e w' q=>Way.oth hk.self hn (stateR_ok vs) q
 have K3:=bare_ok (stateR_ok vs)
 have H4:Hid (∀ w,Rk lo W b ks vs w→Calls Tryz.prog 148 #[.pointer (some ⟨b,0,none⟩)] w (Oth lo w b ks vs (bare (placeR vs)))):=fun w hk=>by
  obtain ⟨kids,hrd,hn⟩:=hk.self.open
  exact (place_any hrd (HG.out w hk) hf).mono fun e w' q=>Way.oth hk.self hn (placeR_ok vs) q
 have K4:=bare_ok (placeR_ok vs)
 have H5:Hid (∀ w,Rk lo W b ks vs w→Calls Tryz.prog 149 #[.pointer (some ⟨b,0,none⟩)] w (Oth lo w b ks vs (choiceR vs))):=fun w hk=>choice_any hk.self (HG.out w hk) hf hkn
 have K5:=choiceR_ok vs
 have HE:Hid (otherR vs=orR (bare (idR vs)) (orR (bare (classR vs)) (orR (bare (attrR vs)) (orR (bare (stateR vs)) (orR (bare (placeR vs)) (choiceR vs)))))):=rfl
 generalize otherR vs=R at *
 generalize bare (idR vs)=r0 at *
 generalize bare (classR vs)=r1 at *
 generalize bare (attrR vs)=r2 at *
 generalize bare (stateR vs)=r3 at *
 generalize bare (placeR vs)=r4 at *
 generalize choiceR vs=r5 at *
 have HK:=hid_mk h
 have HO0:=hid_mk K0
 have HO1:=hid_mk K1
 have HO2:=hid_mk K2
 have HO3:=hid_mk K3
 have HO4:=hid_mk K4
 have HO5:=hid_mk K5
 clear h hsg hf HG K0 K1 K2 K3 K4 K5
 go_enter Tryz.func126,Tryz.ntmps126
 go_wp2_with (fail)
 refine wp_loop_rounds 7 ?_
 have hc:=H0.out W HK.out
 clear H0
 have hx:=way_i0 b
 unfold wy at hx
 rw [rounds_succ]
 go_wp2_with (go_at_call 144;fail)
 refine hc.mono ?_
 rintro e w1 hO
 clear hc hx
 cases r0 with
 | some x =>
   obtain ⟨l,n⟩:=x
   have HR:Hid (R=some (l,n)):=HE.out
   obtain ⟨hne,_,_,_,_⟩:=HO0.out l n rfl
   obtain ⟨v,rfl,ho,hr⟩:=hO
   have hpos:0<l.length:=List.length_pos_iff.2 hne
   have HZ:Hid (Oth lo W b ks vs R (.returned v) w1):=by
    rw [Hid,HR.out]
    exact Oth.up HK.out (r:=some (l,n)) ⟨v,rfl,ho,hr⟩
   obtain ⟨a,c,rfl⟩:=own_len ho hpos
   have hd1:decide ((0:Int)<(l.length:Int))=true:=decide_eq_true (by omega)
   have hd2:(0:Int)<(l.length:Int):=by omega
   clear ho hr HE HR hne H1 H2 H3 H4 H5
   go_wp2
   go_ret
   exact HZ.out
 | none =>
 obtain ⟨rfl,hK1⟩:=hO
 have HK1:=hid_mk (HK.out.from hK1)
 clear hK1  HO0
 go_wp2
 have hc:=H1.out w1 HK1.out
 clear H1
 have hx:=way_i1 b
 unfold wy at hx
 rw [rounds_succ]
 go_wp2_with (go_at_call 145;fail)
 refine hc.mono ?_
 rintro e w2 hO
 clear hc hx
 cases r1 with
 | some x =>
   obtain ⟨l,n⟩:=x
   have HR:Hid (R=some (l,n)):=HE.out
   obtain ⟨hne,_,_,_,_⟩:=HO1.out l n rfl
   obtain ⟨v,rfl,ho,hr⟩:=hO
   have hpos:0<l.length:=List.length_pos_iff.2 hne
   have HZ:Hid (Oth lo W b ks vs R (.returned v) w2):=by
    rw [Hid,HR.out]
    exact Oth.up HK1.out (r:=some (l,n)) ⟨v,rfl,ho,hr⟩
   obtain ⟨a,c,rfl⟩:=own_len ho hpos
   have hd1:decide ((0:Int)<(l.length:Int))=true:=decide_eq_true (by omega)
   have hd2:(0:Int)<(l.length:Int):=by omega
   clear ho hr HE HR hne H2 H3 H4 H5
   go_wp2
   go_ret
   exact HZ.out
 | none =>
 obtain ⟨rfl,hK2⟩:=hO
 have HK2:=hid_mk (HK1.out.from hK2)
 clear hK2 HK1 HO1
 go_wp2
 have hc:=H2.out w2 HK2.out
 clear H2
 have hx:=way_i2 b
 unfold wy at hx
 rw [rounds_succ]
 go_wp2_with (go_at_call 146;fail)
 refine hc.mono ?_
 rintro e w3 hO
 clear hc hx
 cases r2 with
 | some x =>
   obtain ⟨l,n⟩:=x
   have HR:Hid (R=some (l,n)):=HE.out
   obtain ⟨hne,_,_,_,_⟩:=HO2.out l n rfl
   obtain ⟨v,rfl,ho,hr⟩:=hO
   have hpos:0<l.length:=List.length_pos_iff.2 hne
   have HZ:Hid (Oth lo W b ks vs R (.returned v) w3):=by
    rw [Hid,HR.out]
    exact Oth.up HK2.out (r:=some (l,n)) ⟨v,rfl,ho,hr⟩
   obtain ⟨a,c,rfl⟩:=own_len ho hpos
   have hd1:decide ((0:Int)<(l.length:Int))=true:=decide_eq_true (by omega)
   have hd2:(0:Int)<(l.length:Int):=by omega
   clear ho hr HE HR hne H3 H4 H5
   go_wp2
   go_ret
   exact HZ.out
 | none =>
 obtain ⟨rfl,hK3⟩:=hO
 have HK3:=hid_mk (HK2.out.from hK3)
 clear hK3 HK2 HO2
 go_wp2
 have hc:=H3.out w3 HK3.out
 clear H3
 have hx:=way_i3 b
 unfold wy at hx
 rw [rounds_succ]
 go_wp2_with (go_at_call 147;fail)
 refine hc.mono ?_
 rintro e w4 hO
 clear hc hx
 cases r3 with
 | some x =>
   obtain ⟨l,n⟩:=x
   have HR:Hid (R=some (l,n)):=HE.out
   obtain ⟨hne,_,_,_,_⟩:=HO3.out l n rfl
   obtain ⟨v,rfl,ho,hr⟩:=hO
   have hpos:0<l.length:=List.length_pos_iff.2 hne
   have HZ:Hid (Oth lo W b ks vs R (.returned v) w4):=by
    rw [Hid,HR.out]
    exact Oth.up HK3.out (r:=some (l,n)) ⟨v,rfl,ho,hr⟩
   obtain ⟨a,c,rfl⟩:=own_len ho hpos
   have hd1:decide ((0:Int)<(l.length:Int))=true:=decide_eq_true (by omega)
   have hd2:(0:Int)<(l.length:Int):=by omega
   clear ho hr HE HR hne H4 H5
   go_wp2
   go_ret
   exact HZ.out
 | none =>
 obtain ⟨rfl,hK4⟩:=hO
 have HK4:=hid_mk (HK3.out.from hK4)
 clear hK4 HK3 HO3
 go_wp2
 have hc:=H4.out w4 HK4.out
 clear H4
 have hx:=way_i4 b
 unfold wy at hx
 rw [rounds_succ]
 go_wp2_with (go_at_call 148;fail)
 refine hc.mono ?_
 rintro e w5 hO
 clear hc hx
 cases r4 with
 | some x =>
   obtain ⟨l,n⟩:=x
   have HR:Hid (R=some (l,n)):=HE.out
   obtain ⟨hne,_,_,_,_⟩:=HO4.out l n rfl
   obtain ⟨v,rfl,ho,hr⟩:=hO
   have hpos:0<l.length:=List.length_pos_iff.2 hne
   have HZ:Hid (Oth lo W b ks vs R (.returned v) w5):=by
    rw [Hid,HR.out]
    exact Oth.up HK4.out (r:=some (l,n)) ⟨v,rfl,ho,hr⟩
   obtain ⟨a,c,rfl⟩:=own_len ho hpos
   have hd1:decide ((0:Int)<(l.length:Int))=true:=decide_eq_true (by omega)
   have hd2:(0:Int)<(l.length:Int):=by omega
   clear ho hr HE HR hne H5
   go_wp2
   go_ret
   exact HZ.out
 | none =>
 obtain ⟨rfl,hK5⟩:=hO
 have HK5:=hid_mk (HK4.out.from hK5)
 clear hK5 HK4 HO4
 go_wp2
 have hc:=H5.out w5 HK5.out
 clear H5
 have hx:=way_i5 b
 unfold wy at hx
 rw [rounds_succ]
 go_wp2_with (go_at_call 149;fail)
 refine hc.mono ?_
 rintro e w6 hO
 clear hc hx
 cases r5 with
 | some x =>
   obtain ⟨l,n⟩:=x
   have HR:Hid (R=some (l,n)):=HE.out
   obtain ⟨hne,_,_,_,_⟩:=HO5.out l n rfl
   obtain ⟨v,rfl,ho,hr⟩:=hO
   have hpos:0<l.length:=List.length_pos_iff.2 hne
   have HZ:Hid (Oth lo W b ks vs R (.returned v) w6):=by
    rw [Hid,HR.out]
    exact Oth.up HK5.out (r:=some (l,n)) ⟨v,rfl,ho,hr⟩
   obtain ⟨a,c,rfl⟩:=own_len ho hpos
   have hd1:decide ((0:Int)<(l.length:Int))=true:=decide_eq_true (by omega)
   have hd2:(0:Int)<(l.length:Int):=by omega
   clear ho hr HE HR hne
   go_wp2
   go_ret
   exact HZ.out
 | none =>
 obtain ⟨rfl,hK6⟩:=hO
 have HK6:=hid_mk (HK5.out.from hK6)
 clear hK6 HK5 HO5
 go_wp2
 rw [rounds_succ]
 go_wp2
 go_ret
 rw [show R=none from HE.out]
 exact ⟨rfl,HK6.out⟩
def blk (v:Value):Nat:=v.ownBlock.getD 0
theorem own_stayT {W W':World} {B:Nat} {T:TypeId} {s n:Nat} {v:Value} {xs:List Value} (ho:W.ownsRow B T s v n xs) (h:∀ g c,W.heap[g]? = some (.cells c T (0,0))→B≤g→W'.heap[g]? = W.heap[g]?):W'.ownsRow B T s v n xs:=by
 refine ⟨ho.1,ho.2.imp id ?_⟩
 rintro ⟨g,cap,cur,rfl,h1,h2,h3⟩
 exact ⟨g,cap,cur,rfl,h1,(h g cur h2 h1).trans h2,h3⟩
def PtAt (B:Nat) (W:World) (v:Value) (p:List Sv):Prop:=W.ownsRow B 39 7 v p.length (ssC (p.map Prod.fst))
theorem PtAt.blk {B:Nat} {W:World} {v:Value} {p:List Sv} (h:PtAt B W v p) (hp:p≠[]):B≤blk v∧L.blk v<W.heap.size∧∃ cap cur,v=.slice (some ⟨L.blk v,0,none⟩) p.length cap∧p.length≤cap∧cap≤9223372036854775807∧W.heap[L.blk v]? = some (.cells cur 39 (0,0))∧cur.size=cap * 7∧cur.toList.take (p.length * 7)=ssC (p.map Prod.fst):=by
 rcases h.2 with ⟨rfl,e⟩ | ⟨g,cap,cur,rfl,h1,h2,h3,h4,h5,h6⟩
 ·exact absurd (List.length_eq_zero_iff.1 e) hp
 ·exact ⟨h1,(Array.getElem?_eq_some_iff.1 h2).1,cap,cur,rfl,h3,h4,h2,h5,h6⟩
structure CvAt (B:Nat) (W:World) (pv cv:Value) (c:Cv) (qs:List Value):Prop where
 ps:W.ownsRow B 40 1 pv c.1.length qs
 pt:∀ j (h:j<c.1.length),∃ q,qs[j]? = some q∧PtAt B W q (c.1[j]'h)
 cs:W.ownsRow B 3 1 cv c.2.length (c.2.map (Value.int .i64))
 up:qs.Pairwise fun x y=>blk x<blk y
theorem CvAt.stayT {B:Nat} {W W':World} {pv cv:Value} {c:Cv} {qs:List Value} (h:CvAt B W pv cv c qs) (hs:∀ T g cur,(T=39∨T=40∨T=3)→W.heap[g]? = some (.cells cur T (0,0))→B≤g→W'.heap[g]? = W.heap[g]?):CvAt B W' pv cv c qs :=
 ⟨own_stayT h.ps fun g c=>hs 40 g c (.inr (.inl rfl)),fun j hj=>(h.pt j hj).imp fun _ ⟨e,q⟩=>⟨e,own_stayT q fun g c=>hs 39 g c (.inl rfl)⟩,own_stayT h.cs fun g c=>hs 3 g c (.inr (.inr rfl)),h.up⟩
theorem CvAt.keepT {b B:Nat} {W W':World} {pv cv:Value} {c:Cv} {qs:List Value} (h:CvAt B W pv cv c qs) (hk:KeepT b W W') (hb:b<B):CvAt B W' pv cv c qs :=
 h.stayT fun _ g _ hT hg _=>hk.typ g (Array.getElem?_eq_some_iff.1 hg).1 (by omega) (.inr fun c fr e=>by rw [hg] at e;cases e;rcases hT with e | e | e <;> cases e)
theorem CvAt.from {B B':Nat} {W:World} {pv cv:Value} {c:Cv} {qs:List Value} (h:CvAt B W pv cv c qs) (hB:B'≤B):CvAt B' W pv cv c qs :=
 ⟨own_from h.ps hB,fun j hj=>(h.pt j hj).imp fun _ ⟨e,q⟩=>⟨e,own_from q hB⟩,own_from h.cs hB,h.up⟩
structure LvAt (B:Nat) (W:World) (v:Value) (l:List Cv) (xs:List (Value×Value×List Value)):Prop where
 row:W.ownsRow B 37 2 v l.length (xs.flatMap fun x=>[x.1,x.2.1])
 len:xs.length=l.length
 cx:∀ i (h:i<l.length) (h':i<xs.length),CvAt B W (xs[i]'h').1 (xs[i]'h').2.1 (l[i]'h) (xs[i]'h').2.2
 up:(xs.flatMap fun x=>x.2.2).Pairwise fun x y=>blk x<blk y
theorem LvAt.stayT {B:Nat} {W W':World} {v:Value} {l:List Cv} {xs:List (Value×Value×List Value)} (h:LvAt B W v l xs) (hs:∀ T g cur,(T=39∨T=40∨T=3∨T=37)→W.heap[g]? = some (.cells cur T (0,0))→B≤g→W'.heap[g]? = W.heap[g]?):LvAt B W' v l xs :=
 ⟨own_stayT h.row fun g c=>hs 37 g c (.inr (.inr (.inr rfl))),h.len,fun i hi hj=>(h.cx i hi hj).stayT fun T g c hT=>hs T g c (by rcases hT with e | e | e <;> simp [e]),h.up⟩
theorem LvAt.keepT {b B:Nat} {W W':World} {v:Value} {l:List Cv} {xs:List (Value×Value×List Value)} (h:LvAt B W v l xs) (hk:KeepT b W W') (hb:b<B):LvAt B W' v l xs :=
 h.stayT fun _ g _ hT hg _=>hk.typ g (Array.getElem?_eq_some_iff.1 hg).1 (by omega) (.inr fun c fr e=>by rw [hg] at e;cases e;rcases hT with e | e | e | e <;> cases e)
theorem LvAt.keep {B:Nat} {W W':World} {v:Value} {l:List Cv} {xs:List (Value×Value×List Value)} (h:LvAt B W v l xs) (hk:Below W.heap.size W W'):LvAt B W' v l xs :=
 h.stayT fun _ g _ _ hg _=>hk.block g (Array.getElem?_eq_some_iff.1 hg).1
def OthSub (vs:List V) (r:Option (List Sv×Nat)):Prop:=∀ l n,r=some (l,n)→List.Sublist (kidsOf l++(vs.drop n).map V.kids) (vs.map V.kids)
theorem drop_sub (vs:List V) (n:Nat):List.Sublist ((vs.drop n).map V.kids) (vs.map V.kids):=(List.drop_sublist n vs).map _
theorem bare_sub {vs:List V} {r:Option (List S6×Nat)} (h:WayOk vs r):OthSub vs (bare r):=by
 intro l n e
 cases r with
 | none=>cases e
 | some x =>
   obtain ⟨l',n'⟩:=x
   obtain ⟨_,_,_,_,h5⟩:=h l' n' rfl
   cases e
   rw [kidsOf_bare l' h5,List.nil_append]
   exact drop_sub vs _
theorem choice_sub (vs:List V):OthSub vs (choiceR vs):=by
 intro l n e
 unfold choiceR at e
 split at e
 ·rename_i u hu
  split at e
  ·rename_i hc
   cases e
   match vs,hu with
   | a::u'::r,hu =>
     cases hu
     have:kidsOf [((⟨fnR (a::u::r),⟨#[]⟩,0,⟨#[]⟩,0,0⟩:S6),u.kids)]=[u.kids]:=by simp [kidsOf,hc]
     rw [this]
     simp
  ·cases e
 ·cases e
theorem orR_sub {vs:List V} {a b:Option (List Sv×Nat)} (ha:OthSub vs a) (hb:OthSub vs b):OthSub vs (orR a b):=by
 unfold orR
 split
 ·exact ha
 ·exact hb
theorem otherR_sub (vs:List V):OthSub vs (otherR vs) :=
 orR_sub (bare_sub (idR_ok vs)) (orR_sub (bare_sub (classR_ok vs)) (orR_sub (bare_sub (attrR_ok vs)) (orR_sub (bare_sub (stateR_ok vs)) (orR_sub (bare_sub (placeR_ok vs)) (choice_sub vs)))))
theorem othZ_sub:∀ (m:Nat) (vs:List V),vs.length≤m→List.Sublist (kidsOf (othZ vs).1++(othZ vs).2.map V.kids) (vs.map V.kids)
 | m,vs,hm=>by
   cases ho:otherR vs with
   | none =>
     rw [othZ_none ho]
     exact List.Sublist.refl _
   | some x =>
     obtain ⟨l,n⟩:=x
     obtain ⟨_,_,h1,h2,_⟩:=otherR_ok vs l n ho
     have hl:(vs.drop n).length=vs.length - n:=List.length_drop
     cases m with
     | zero=>omega
     | succ m =>
       have ih:=othZ_sub m (vs.drop n) (by omega)
       rw [othZ_some ho]
       simp only []
       rw [kidsOf_append,List.append_assoc]
       exact ((List.Sublist.refl _).append ih).trans (otherR_sub vs l n ho)
theorem compR_sub (vs:List V):List.Sublist (kidsOf (compR vs).1++(compR vs).2.map V.kids) (vs.map V.kids):=by
 unfold compR
 split
 ·exact othZ_sub _ vs (Nat.le_refl _)
 ·rename_i l n h
  simp only []
  rw [kidsOf_append,List.append_assoc]
  exact ((List.Sublist.refl _).append (othZ_sub _ (vs.drop n) (Nat.le_refl _))).trans (bare_sub (tagR_ok vs) l n h)
theorem spc_sub (vs:List V):List.Sublist ((spc vs).map V.kids) (vs.map V.kids):=(List.dropWhile_suffix _).sublist.map _
theorem combR_sub (vs:List V):List.Sublist ((combR vs).2.map V.kids) (vs.map V.kids):=by
 unfold combR
 split
 ·exact (spc_sub _).trans ((drop_sub _ 1).trans (spc_sub vs))
 ·exact spc_sub vs
def kidsC (c:Cv):List (List V):=c.1.flatMap kidsOf
def kidsL (l:List Cv):List (List V):=l.flatMap kidsC
theorem cxZ_sub:∀ (m:Nat) (vs:List V),vs.length≤m→∀ c r,cxZ vs=some (c,r)→List.Sublist (kidsC c++r.map V.kids) (vs.map V.kids)
 | m,vs,hm,c,r,h=>by
   have hs:=compR_sub vs
   have hc:=compR_ok vs
   rw [cxZ_step] at h
   unfold cxStep at h
   split at h
   ·cases h
   ·rename_i p ps q hcr
    rw [hcr] at hs hc
    have h1:=hc.2.1 (by simp)
    have k1:=(combR_ok q).1
    simp only [] at h1 hs
    split at h
    ·cases h
     rw [show kidsC ([p::ps],[])=kidsOf (p::ps) by simp [kidsC]]
     exact ((List.Sublist.refl _).append (combR_sub q)).trans hs
    ·cases hx:cxZ (combR q).2 with
     | none=>rw [hx] at h;cases h
     | some x =>
       obtain ⟨⟨qs,js⟩,r'⟩:=x
       rw [hx] at h
       cases h
       cases m with
       | zero=>omega
       | succ m =>
         have ih:=cxZ_sub m (combR q).2 (by omega) _ _ hx
         rw [show kidsC ((p::ps)::qs,(combR q).1::js)=kidsOf (p::ps)++kidsC (qs,js) by simp [kidsC],List.append_assoc]
         exact ((List.Sublist.refl _).append (ih.trans (combR_sub q))).trans hs
theorem lsZ_sub:∀ (m:Nat) (vs:List V),vs.length≤m→∀ l,lsZ vs=some l→List.Sublist (kidsL l) (vs.map V.kids)
 | m,vs,hm,l,h=>by
   rw [lsZ_step] at h
   unfold lsStep at h
   cases hc:cxZ (spc vs) with
   | none=>rw [hc] at h;cases h
   | some x =>
     obtain ⟨c,r⟩:=x
     rw [hc] at h
     obtain ⟨h1,_,_⟩:=cxZ_ok _ _ (Nat.le_refl _) _ _ hc
     have k1:=(spc_ok vs).1
     have hs:=(cxZ_sub _ _ (Nat.le_refl _) _ _ hc).trans (spc_sub vs)
     simp only [] at h
     split at h
     ·cases h
      rw [show kidsL [c]=kidsC c by simp [kidsL]]
      exact (List.sublist_append_left _ _).trans hs
     ·split at h
      ·cases hx:lsZ (r.drop 1) with
       | none=>rw [hx] at h;cases h
       | some l' =>
         rw [hx] at h
         cases h
         cases m with
         | zero=>omega
         | succ m =>
           have ih:=lsZ_sub m (r.drop 1) (by rw [List.length_drop];omega) _ hx
           rw [show kidsL (c::l')=kidsC c++kidsL l' by simp [kidsL]]
           exact ((List.Sublist.refl _).append (ih.trans (drop_sub r 1))).trans hs
      ·cases h
theorem Rk.grow {W0 w1 w2:World} {lo b:Nat} {ks:List (List V)} {vs:List V} {row:Option Nat} (h:Rk lo W0 b ks vs w1) (hg:w1.grownBy w2 row) (hb:b<W0.heap.size) (hr:∀ g,row=some g→W0.heap.size≤g∧∀ c fr,w1.heap[g]?≠some (.cells c 43 fr)):Rk lo W0 b ks vs w2:=by
 obtain ⟨kids,cs,⟨⟨rest,h1,h2⟩,_⟩,h3,h4⟩:=h.rd
 have hlow:∀ j,j<W0.heap.size→w2.heap[j]? = w1.heap[j]?:=fun j hj=>hg.block j (Nat.lt_of_lt_of_le hj h.keep.size) fun e=>by
  have:=(hr j e.symm).1
  omega
 have hst:∀ {v l},VsAt (·<min lo b) w1 v l→VsAt (·<min lo b) w2 v l:=fun q=>q.stay hg.size fun j hj _=>hlow j (by omega)
 refine ⟨⟨kids,cs,⟨⟨rest,(hlow b hb).trans h1,hst h2⟩,KeepX.of (Below.refl _ _)⟩,?_,fun i hi=>(h4 i hi).imp fun v q=>⟨q.1,hst q.2⟩⟩,⟨hg.os.trans h.keep.os,hg.tape.trans h.keep.tape,hg.output.trans h.keep.output,Nat.le_trans h.keep.size hg.size,fun j hj hn hc=>(hlow j hj).trans (h.keep.typ j hj hn hc)⟩⟩
 exact own_stayT h3 fun g c hgc _=>hg.block g (Array.getElem?_eq_some_iff.1 hgc).1 fun e=>(hr g e.symm).2 _ _ hgc
theorem own_ty {w:World} {B n s:Nat} {T:TypeId} {v:Value} {xs:List Value} (h:w.ownsRow B T s v n xs) (hT:T≠43):∀ g,v.ownBlock=some g→B≤g∧∀ c fr,w.heap[g]?≠some (.cells c 43 fr):=fun g e=>by
 rcases h.2 with ⟨rfl,_⟩ | ⟨g',cap,cur,rfl,h1,h2,_⟩
 ·cases e
 ·cases e
  refine ⟨h1,fun c fr q=>?_⟩
  rw [show w.heap[g']? = _ from h2] at q
  cases q
  exact hT rfl
theorem own_news {W:World} {B:Nat} {T:TypeId} {s n c:Nat} {ad:Addr} {xs:List Value} (h:W.ownsRow B T s (.slice (some ad) n c) n xs):∀ j u,xs[j]? = some u→W.cell? (ad.add j)=some u:=fun j u hu=>by
 rcases h.2 with ⟨e,_⟩ | ⟨g,cap,cur,e,h1,h2,h3,h4,h5,h6⟩
 ·cases e
 ·cases e
  have hlt:j<n * s:=by
   have:=(List.getElem?_eq_some_iff.1 hu).1
   have:=h.1
   omega
  rw [← h6,List.getElem?_take_of_lt hlt] at hu
  rw [Addr.add_mid,Nat.zero_add]
  simp only [World.cell?,h2]
  simpa using hu
theorem fsts_append (a b:List Sv):ssC ((a++b).map Prod.fst)=ssC (a.map Prod.fst)++ssC (b.map Prod.fst):=by simp [ssC]
def Cmp (lo:Nat) (W:World) (b:Nat) (ks:List (List V)) (R:List Sv×List V) (e:Ending) (w':World):Prop:=∃ v,e=.returned v∧PtAt W.heap.size w' v R.1∧Rk lo W b (ks++kidsOf R.1) R.2 w'
def CoGo (lo:Nat) (W:World) (b:Nat) (ks:List (List V)) (vs:List V) (R:List Sv×List V) (k:Nat) (v:Value) (w:World):Prop :=
 ∃ acc us,us.length<k∧PtAt W.heap.size w v acc∧Rk lo W b (ks++kidsOf acc) us w∧(acc++(othZ us).1,(othZ us).2)=R∧(∀ u∈us,u∈vs)∧acc.length+10 * us.length≤10 * vs.length∧List.Sublist (kidsOf acc++us.map V.kids) (vs.map V.kids)
theorem own_sl {W:World} {B:Nat} {T:TypeId} {s n:Nat} {v:Value} {xs:List Value} (h:W.ownsRow B T s v n xs):∃ a m c,v=.slice a m c:=by
 rcases h.2 with ⟨rfl,_⟩ | ⟨g,cap,cur,rfl,_⟩
 ·exact ⟨_,_,_,rfl⟩
 ·exact ⟨_,_,_,rfl⟩
theorem CoGo.sl {W:World} {lo b:Nat} {ks:List (List V)} {vs:List V} {R:List Sv×List V} {k:Nat} {v:Value} {w:World} (h:CoGo lo W b ks vs R k v w):∃ a m c,v=.slice a m c:=by
 obtain ⟨acc,us,_,h1,_⟩:=h
 exact own_sl h1
theorem pt_nil (B:Nat) (W:World):PtAt B W (.slice none 0 0) []:=⟨rfl,.inl ⟨rfl,rfl⟩⟩
theorem compound_any {W:World} {lo b:Nat} {ks:List (List V)} {vs:List V} (h:Rk lo W b ks vs W) (hsg:Signs W) (hb:sgB<b) (hf:Fit vs) (hkn:ks.length+vs.length≤1000000) :
  Calls Tryz.prog 98 #[.pointer (some ⟨b,0,none⟩)] W (Cmp lo W b ks (compR vs)):=by
 obtain ⟨i0,z0,hi,hz0,hz1,hz2,hz3⟩:=info51
 have hbl:b<W.heap.size:=h.lt
 have hvl:=hf.len
 have HG:Hid (∀ ks' us w,Rk lo W b ks' us w→Signs w):=fun ks' us w hk=>hsg.keepT hk.keep hb
 have HT:Hid (Calls Tryz.prog 125 #[.pointer (some ⟨b,0,none⟩)] W fun e w'=>∃ v,e=.returned v∧CoGo lo W b ks vs (compR vs) (vs.length+1) v w'):=by
  obtain ⟨kids,hrd,hn⟩:=h.open
  refine (tag_any hrd hf.tx').mono fun e w' q=>?_
  have q2:=Way.oth h hn (tagR_ok vs) q
  have ok:=bare_ok (tagR_ok vs)
  have sub:=bare_sub (tagR_ok vs)
  have hc:compR vs=match bare (tagR vs) with | none=>othZ vs | some (l,n)=>(l++(othZ (vs.drop n)).1,(othZ (vs.drop n)).2):=rfl
  generalize bare (tagR vs)=r at *
  cases r with
  | none =>
    obtain ⟨rfl,hk⟩:=q2
    exact ⟨_,rfl,[],vs,by omega,pt_nil _ _,by simpa [kidsOf] using hk,by rw [hc];rfl,fun u hu=>hu,by simp,by simp [kidsOf]⟩
  | some x =>
    obtain ⟨l,n⟩:=x
    obtain ⟨v,rfl,ho,hk⟩:=q2
    obtain ⟨_,h2,h3,h4,_⟩:=ok l n rfl
    have hl:(vs.drop n).length=vs.length - n:=List.length_drop
    exact ⟨v,rfl,l,vs.drop n,by omega,ho,hk,hc.symm,fun u hu=>List.mem_of_mem_drop hu,by omega,sub l n rfl⟩
 have HO:Hid (∀ ks' us w,Rk lo W b ks' us w→Fit us→ks'.length≤1000000→Calls Tryz.prog 126 #[.pointer (some ⟨b,0,none⟩)] w (Oth lo w b ks' us (otherR us))):=fun ks' us w hk hfu hl=>other_any hk.self (HG.out _ _ w hk) hb hfu hl
 have HF:=hid_mk hf
 generalize compR vs=R at *
 clear h hsg hf HG
 go_enter Tryz.func98,Tryz.ntmps98
 go_wp2_with (go_at_call 125;fail)
 refine HT.out.mono ?_
 rintro e w1 ⟨v,rfl,hgo⟩
 obtain ⟨va,vn,vc,rfl⟩:=hgo.sl
 have HGO:=hid_mk hgo
 clear HT hgo
 go_wp2
 go_loopg [3] (vs.length+1) (fun k a3 wq=>∃ ba bn bc,a3=.slice ba bn bc∧Hid (CoGo lo W b ks vs R k (.slice ba bn bc) wq))
 case atStart=>exact ⟨_,_,_,rfl,HGO⟩
 case round =>
  clear HGO
  obtain ⟨ba,bn,bc,rfl,hrel⟩:=hrel
  obtain ⟨acc,us,hk,hpt,hrk,hR,hm,hl,hsub⟩:=hrel.out
  have hln:us.length≤vs.length:=by
   have:=hsub.length_le
   simp at this
   omega
  have hkk:(ks++kidsOf acc).length≤1000000:=by
   have:=hsub.length_le
   simp at this
   rw [List.length_append]
   omega
  have hot:=HO.out _ us wr hrk (HF.out.sub hln hm) hkk
  have ok:=otherR_ok us
  have sub:=otherR_sub us
  have zn:=othZ_none (vs:=us)
  have zs:=fun l n=>othZ_some (vs:=us) (l:=l) (n:=n)
  generalize otherR us=r at *
  have HK:=hid_mk hk
  have HPT:=hid_mk hpt
  have HRK:=hid_mk hrk
  have HR:=hid_mk hR
  have HM:=hid_mk hm
  have HL:=hid_mk hl
  have HSUB:=hid_mk hsub
  have HLN:=hid_mk hln
  clear hrel hk hrk hR hm hl hsub hln hkk HO
  cases r with
  | none =>
    have HZ:Hid (∀ w' v',PtAt W.heap.size w' v' acc→Rk lo wr b (ks++kidsOf acc) us w'→Cmp lo W b ks R (.returned v') w'):=fun w' v' h1 h2=>by
     have e:R=(acc,us):=by rw [← HR.out,zn rfl];simp
     rw [e]
     exact ⟨v',rfl,h1,HRK.out.from h2⟩
    clear zn zs ok sub
    go_wp2_with (go_at_call 126;fail)
    refine hot.mono ?_
    rintro e w2 ⟨rfl,hk2⟩
    have HF2:=hid_mk (HZ.out w2 _ (hk2.keep.own hbl (by decide) HPT.out) hk2)
    clear hot hk2 HZ hpt
    go_wp2
    go_ret
    exact HF2.out
  | some x =>
    obtain ⟨l,n⟩:=x
    obtain ⟨hne,h10,h1n,hnl,_⟩:=ok l n rfl
    have hpos:0<l.length:=List.length_pos_iff.2 hne
    have hz:=zs l n rfl
    have hs2:=sub l n rfl
    have hdl:(us.drop n).length=us.length - n:=List.length_drop
    have HNX:Hid (∀ w' v' k,PtAt W.heap.size w' v' (acc++l)→Rk lo W b (ks++kidsOf acc++kidsOf l) (us.drop n) w'→us.length≤k→CoGo lo W b ks vs R k v' w'):=fun w' v' k h1 h2 hk=>by
     refine ⟨acc++l,us.drop n,by omega,h1,?_,?_,fun u hu=>HM.out u (List.mem_of_mem_drop hu),?_,?_⟩
     ·rw [kidsOf_append,← List.append_assoc]
      exact h2
     ·rw [← HR.out,hz,List.append_assoc]
     ·rw [List.length_append]
      have:=HL.out
      omega
     ·rw [kidsOf_append,List.append_assoc]
      exact ((List.Sublist.refl _).append hs2).trans HSUB.out
    have hacc:acc.length≤1000000:=by have:=HL.out;omega
    clear zn zs ok sub hz hs2 hne h1n hnl hdl
    go_wp2_with (go_at_call 126;fail)
    refine hot.mono ?_
    rintro e w2 ⟨v2,rfl,ho2,hk2⟩
    obtain ⟨ad,c,rfl⟩:=own_len ho2 hpos
    have hnews:=own_news ho2
    have hpt2:w2.ownsRow W.heap.size 39 7 (.slice ba bn bc) acc.length (ssC (acc.map Prod.fst)):=hk2.keep.own hbl (by decide) HPT.out
    have HRK2:=hid_mk (HRK.out.from hk2)
    have hsz:W.heap.size≤w2.heap.size:=HRK2.out.keep.size
    have hll:(ssC (l.map Prod.fst)).length=l.length * 7:=by rw [ssC_len];simp
    have hn0:((l.length:Int) == 0)=false:=by rw [beq_eq_false_iff_ne];omega
    have hone:=ssC_one (l.map Prod.fst)
    have HLL:=hid_mk hll
    have HO1:=hid_mk hone
    clear hot ho2 hk2 hll hone hpt
    go_wp2_with (at_builtin;with_reducible refine wpList_append_own _ rfl _ _ 40 rfl W.heap.size 39 i0 z0 7 88 Tryz.underlying40 hi hz0 hz1 hz2 hz3 (by decide) (.slice ba bn bc) acc.length (ssC (acc.map Prod.fst)) rfl hpt2 ad l.length c (ssC (l.map Prod.fst)) rfl HLL.out hnews HO1.out ?c1 ?c2 ?c3 ?_)
    case c1=>unfold maxLen;omega
    case c2=>omega
    case c3=>exact hsz
    intro v3 w3 ho3 hgr _
    obtain ⟨ca,cn,cc,rfl⟩:=own_sl ho3
    have hP3:PtAt W.heap.size w3 (.slice ca cn cc) (acc++l):=by
     unfold PtAt
     rw [fsts_append,List.length_append]
     exact ho3
    have HZ:=hid_mk (HNX.out w3 _ us.length hP3 (HRK2.out.grow hgr hbl (own_ty hpt2 (by decide))) (Nat.le_refl _))
    clear hpt2 hnews ho3 hgr hP3 HNX
    go_wp2
    go_roundg us.length
    case measure=>exact HK.out
    case rel=>exact ⟨_,_,_,rfl,HZ⟩
end Go.Proofs.YtemlnblifkdenaaGreatDoor.L
