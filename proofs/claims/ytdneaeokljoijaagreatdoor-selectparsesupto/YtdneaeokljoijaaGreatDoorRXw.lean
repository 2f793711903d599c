/- gouacheref05.complex1: the walk. -/
import Derived.Test.YtdneaeokljoijaaGreatDoorRCm
set_option maxRecDepth 100000
set_option maxHeartbeats 8000000
namespace Go.Proofs.YtdneaeokljoijaaGreatDoor.L
open Go.RowKit
abbrev CK:=List (List SX)×List Int
def preK (p:List SX) (k:Int):Option CK→Option CK
 | none=>none
 | some (qs,ks)=>some (p::qs,k::ks)
def cxKW (f:List V→Option CK) (p:List SX) (sp:Bool):List V→Option CK
 | []=>none
 | u::us=>if cmbV u≠0 then preK p (cmbV u) (f (trm us)) else if sp=true then preK p 1 (f (u::us)) else none
def cxKV (f:List V→Option CK) (p:List SX) (r:List V):Option CK:=match r with
 | []=>some ([p],[])
 | v::_=>cxKW f p (spB v) (trm r)
def cxKC (f:List V→Option CK):Option (List SX×List V)→Option CK
 | none=>none
 | some (p,r)=>cxKV f p r
def cxK:Nat→List V→Option CK
 | 0,_=>none
 | n+1,l=>cxKC (cxK n) (cmX l)
def rdC:Option Cv→Option CK
 | none=>none
 | some c=>match allO (allO (fS parseZ)) c.1 with
   | none=>none
   | some ps=>some (ps,c.2)
theorem rd_pre (p:List Sv) (k:Int) (o:Option Cv):rdC (pre p k o)=match allO (fS parseZ) p with
  | none=>none
  | some q=>preK q k (rdC o):=by
 cases o with
 | none=>cases allO (fS parseZ) p <;> rfl
 | some c =>
   obtain ⟨qs,ks⟩:=c
   show (match allO (allO (fS parseZ)) (p::qs) with | none=>none | some ps=>some (ps,k::ks))=_
   rw [allO_cons]
   cases allO (fS parseZ) p with
   | none=>rfl
   | some q =>
     simp only [rdC]
     cases allO (allO (fS parseZ)) qs with
     | none=>rfl
     | some x=>rfl
theorem cxK_rd:∀ (n:Nat) (l:List V),cxK n l=rdC (cxU n l)
 | 0,_=>rfl
 | n+1,l=>by
   have ih:=cxK_rd n
   unfold cxK cxU
   rw [cmX_go]
   obtain ⟨ps,r⟩:=compR l
   cases ps with
   | nil=>rfl
   | cons p ps =>
     simp only []
     unfold goC
     cases stopB r with
     | false=>rfl
     | true =>
       simp only [if_true,Bool.true_eq_false,if_false]
       cases ha:allO (fS parseZ) (p::ps) with
       | none =>
         show none=_
         cases r with
         | nil =>
           show none=rdC (some ([p::ps],[]))
           simp only [rdC]
           rw [allO_cons,ha]
         | cons v r =>
           show none=rdC (cxW (cxU n) (p::ps) (spB v) (trm (v::r)))
           cases trm (v::r) with
           | nil=>rfl
           | cons u us =>
             show none=rdC (if cmbV u≠0 then pre (p::ps) (cmbV u) (cxU n (trm us)) else if spB v=true then pre (p::ps) 1 (cxU n (u::us)) else none)
             split
             ·rw [rd_pre,ha]
             ·split
              ·rw [rd_pre,ha]
              ·rfl
       | some q =>
         show cxKV (cxK n) q r=_
         cases r with
         | nil =>
           show some ([q],[])=rdC (some ([p::ps],[]))
           simp only [rdC]
           rw [allO_cons,ha]
           rfl
         | cons v r =>
           show cxKW (cxK n) q (spB v) (trm (v::r))=rdC (cxW (cxU n) (p::ps) (spB v) (trm (v::r)))
           cases trm (v::r) with
           | nil=>rfl
           | cons u us =>
             show (if cmbV u≠0 then preK q (cmbV u) (cxK n (trm us)) else if spB v=true then preK q 1 (cxK n (u::us)) else none)=rdC (if cmbV u≠0 then pre (p::ps) (cmbV u) (cxU n (trm us)) else if spB v=true then pre (p::ps) 1 (cxU n (u::us)) else none)
             split
             ·rw [rd_pre,ha,ih]
             ·split
              ·rw [rd_pre,ha,ih]
              ·rfl
theorem own_typ {w:World} {B n s g:Nat} {T:TypeId} {v:Value} {xs:List Value} (h:w.ownsRow B T s v n xs) (e:v.ownBlock=some g):∃ c,w.heap[g]? = some (.cells c T (0,0)):=by
 rcases h.2 with ⟨rfl,_⟩ | ⟨g',cap,cur,rfl,h1,h2,_⟩
 ·cases e
 ·cases e
  exact ⟨cur,h2⟩
abbrev PX:=Value×List SX×(Nat→Value)
structure CxI (B:Nat) (w:World) (pv cv:Value) (ps:List PX) (ks:List Int):Prop where
 po:w.ownsRow B 47 1 pv ps.length (ps.map (·.1))
 ko:w.ownsRow B 3 1 cv ks.length (ks.map (Value.int .i64))
 ls:∀ x∈ps,(∃ a n c,x.1=.slice a n c)∧∃ lo hi,B≤lo∧hi≤w.heap.size∧Rob lo hi w (fun w2=>PtL w2 x.1 x.2.1 x.2.2)∧(∀ g,pv.ownBlock=some g→g<lo∨hi≤g)∧∀ g,cv.ownBlock=some g→g<lo∨hi≤g
theorem CxI.nil (B:Nat) (w:World):CxI B w (.slice none 0 0) (.slice none 0 0) [] []:=⟨World.ownsRow_nil _ _ _ _,World.ownsRow_nil _ _ _ _,fun x hx=>absurd hx (by simp)⟩
theorem CxI.stay {B:Nat} {w w':World} {pv cv:Value} {ps:List PX} {ks:List Int} (h:CxI B w pv cv ps ks) (hs:w.heap.size≤w'.heap.size) (hk:∀ k,B≤k→k<w.heap.size→w'.heap[k]? = w.heap[k]?):CxI B w' pv cv ps ks:=by
 refine ⟨own_stay h.po fun g hg hB _=>hk g hB hg,own_stay h.ko fun g hg hB _=>hk g hB hg,fun x hx=>?_⟩
 obtain ⟨h1,lo,hi,h2,h3,h4,h5,h6⟩:=h.ls x hx
 exact ⟨h1,lo,hi,h2,Nat.le_trans h3 hs,h4.to fun k hk1 hk2=>hk k (by omega) (by omega),h5,h6⟩
theorem CxI.keep {B:Nat} {w w':World} {pv cv:Value} {ps:List PX} {ks:List Int} (h:CxI B w pv cv ps ks) (hb:Below w.heap.size w w'):CxI B w' pv cv ps ks:=h.stay hb.size fun k _ hk=>hb.block k hk
theorem CxI.set {B:Nat} {w:World} {pv cv:Value} {ps:List PX} {ks:List Int} (h:CxI B w pv cv ps ks) {o:Nat} (i:Nat) (x:Value) (ho:o<B):CxI B (w.setCell ⟨o,i,none⟩ x) pv cv ps ks:=h.stay (by simp) fun k hk _=>heap_ne (by omega)
theorem rows_ne {B:Nat} {w:World} {pv cv:Value} {ps:List PX} {ks:List Int} (h:CxI B w pv cv ps ks) {g:Nat} (hp:pv.ownBlock=some g) (hc:cv.ownBlock=some g):False:=by
 obtain ⟨c,h1⟩:=own_typ h.po hp
 obtain ⟨d,h2⟩:=own_typ h.ko hc
 rw [h1] at h2
 injection h2 with h2
 injection h2 with _ h2
 cases h2
theorem CxI.part {B:Nat} {w0 w w2:World} {pv cv pv2 u:Value} {o:Obj} {ps:List PX} {ks:List Int} {p:List SX} {lv:Nat→Value} (h:CxI B w0 pv cv ps ks) (hb:Below w0.heap.size w0 w) (hB:B≤w0.heap.size) (hu:∃ a n c,u=.slice a n c) (hr:Rob w0.heap.size w.heap.size w fun w2=>PtL w2 u p lv)
  (ho:w2.ownsRow B 47 1 pv2 (ps.length+1) (ps.map (·.1)++[u])) (hg:(w.alloc o).grownBy w2 pv.ownBlock) (hat:pv2.ownBlock=pv.ownBlock∨pv2.ownBlock=some (w.heap.size+1)):CxI B w2 pv2 cv (ps++[(u,p,lv)]) ks:=by
 have hk:=(h.keep hb).keep ((Below.refl w.heap.size w).alloc (Nat.le_refl _) o)
 have hsz:(w.alloc o).heap.size=w.heap.size+1:=by simp
 have hsz2:w.heap.size+1≤w2.heap.size:=by have:=hg.size;omega
 have hst:∀ k,k<w.heap.size+1→pv.ownBlock≠some k→w2.heap[k]? = (w.alloc o).heap[k]?:=fun k h1 h2=>hg.block k (by omega) (fun e=>h2 e.symm)
 refine ⟨by rw [List.length_append,List.map_append];exact ho,?_,fun x hx=>?_⟩
 ·refine own_stay hk.ko fun g hgl hBg he=>hst g (by omega) fun e=>rows_ne hk e he
 ·rcases List.mem_append.1 hx with hx | hx
  ·obtain ⟨h1,lo,hi,h2,h3,h4,h5,h6⟩:=hk.ls x hx
   refine ⟨h1,lo,hi,h2,Nat.le_trans h3 (by omega),h4.to fun k hk1 hk2=>hst k (by omega) fun e=>?_,fun g e=>?_,h6⟩
   ·have:=h5 k e
    omega
   ·rcases hat with e2 | e2
    ·exact h5 g (e2.symm.trans e)
    ·rw [e2] at e
     cases e
     have h3':hi≤w.heap.size∨hi=w.heap.size+1:=by omega
     rcases h3' with q | q
     ·exact .inr (by omega)
     ·exact .inr (by omega)
  ·rw [List.mem_singleton.1 hx]
   refine ⟨hu,w0.heap.size,w.heap.size,hB,by omega,?_,fun g e=>?_,fun g e=>?_⟩
   ·refine hr.to fun k hk1 hk2=>?_
    rw [hst k (by omega) fun e=>?_]
    ·exact Below.heap_alloc w o k hk2
    ·have:=(own_blk h.po k e).2
     omega
   ·rcases hat with e2 | e2
    ·exact .inl (own_blk h.po g (e2.symm.trans e)).2
    ·rw [e2] at e
     cases e
     exact .inr (by omega)
   ·exact .inl (own_blk h.ko g e).2
theorem CxI.comb {B:Nat} {w w2:World} {pv cv cv2:Value} {o:Obj} {ps:List PX} {ks:List Int} {k0:Int} (h:CxI B w pv cv ps ks)
  (ho:w2.ownsRow B 3 1 cv2 (ks.length+1) (ks.map (Value.int .i64)++[.int .i64 k0])) (hg:(w.alloc o).grownBy w2 cv.ownBlock) (hat:cv2.ownBlock=cv.ownBlock∨cv2.ownBlock=some (w.heap.size+1)):CxI B w2 pv cv2 ps (ks++[k0]):=by
 have hk:=h.keep ((Below.refl w.heap.size w).alloc (Nat.le_refl _) o)
 have hsz:(w.alloc o).heap.size=w.heap.size+1:=by simp
 have hsz2:w.heap.size+1≤w2.heap.size:=by have:=hg.size;omega
 have hst:∀ k,k<w.heap.size+1→cv.ownBlock≠some k→w2.heap[k]? = (w.alloc o).heap[k]?:=fun k h1 h2=>hg.block k (by omega) (fun e=>h2 e.symm)
 refine ⟨?_,by rw [List.length_append,List.map_append];exact ho,fun x hx=>?_⟩
 ·refine own_stay hk.po fun g hgl hBg he=>hst g (by omega) fun e=>rows_ne hk he e
 ·obtain ⟨h1,lo,hi,h2,h3,h4,h5,h6⟩:=h.ls x hx
  refine ⟨h1,lo,hi,h2,by omega,h4.to fun k hk1 hk2=>?_,h5,fun g e=>?_⟩
  ·rw [hst k (by omega) fun e=>?_]
   ·exact Below.heap_alloc w o k (by omega)
   ·have:=h6 k e
    omega
  ·rcases hat with e2 | e2
   ·exact h6 g (e2.symm.trans e)
   ·rw [e2] at e
    cases e
    exact .inr (by omega)
def blkV (v:Value):Nat:=match v.ownBlock with
 | some g=>g
 | none=>0
theorem row_in {B:Nat} {w w2:World} {T:TypeId} {v:Value} {n:Nat} {xs:List Value} (h:w.ownsRow B T 1 v n xs) (ha:∀ k,B≤k→k<w.heap.size→w2.heap[k]? = w.heap[k]?):Sl w2 v n (blkV v) 0∧∀ j u,xs[j]? = some u→w2.cell? ⟨blkV v,0+j,none⟩=some u:=by
 have hl:=h.1
 rcases h.2 with ⟨rfl,rfl⟩ | ⟨g,cap,cur,rfl,hB,hg,hc,hm,hs,ht⟩
 ·refine ⟨⟨none,0,rfl,Nat.le_refl _,by decide,fun h=>absurd h (by simp)⟩,fun j u hu=>?_⟩
  have:=(List.getElem?_eq_some_iff.1 hu).1
  omega
 ·have hgl:=(Array.getElem?_eq_some_iff.1 hg).1
  have hg2:=(ha g hB hgl).trans hg
  refine ⟨⟨_,cap,rfl,hc,Nat.le_trans hm (by decide),fun _=>⟨rfl,(Array.getElem?_eq_some_iff.1 hg2).1⟩⟩,fun j u hu=>?_⟩
  show w2.cell? ⟨g,0+j,none⟩=some u
  have hj:=(List.getElem?_eq_some_iff.1 hu).1
  rw [cellAt hg2,Nat.zero_add,← Array.getElem?_toList]
  rw [← ht] at hu
  rwa [List.getElem?_take_of_lt (by omega)] at hu
def CxS (w:World) (pv cv:Value) (c:Cx):Prop:=∃ bc oc bp op qv bq oq lv,CxAt (ClAt w) w pv cv c bc oc bp op qv bq oq lv
theorem CxI.rob {B:Nat} {w:World} {pv cv:Value} {ps:List PX} {ks:List Int} (h:CxI B w pv cv ps ks):Rob B w.heap.size w fun w2=>CxS w2 pv cv (.mk (ps.map (·.2.1)) ks):=fun w2 ha=>by
 obtain ⟨p1,p2⟩:=row_in h.po ha
 obtain ⟨k1,k2⟩:=row_in h.ko ha
 have hpt:∀ j,∃ q:Nat×Nat,∀ (hj:j<ps.length),Sl w2 (ps[j]'hj).1 (ps[j]'hj).2.1.length q.1 q.2∧(∀ t (h':t<(ps[j]'hj).2.1.length),∀ y u,(s7 ((ps[j]'hj).2.1[t]'h').1 ((ps[j]'hj).2.2 t))[y]? = some u→w2.cell? ⟨q.1,q.2+t * 7+y,none⟩=some u)∧∀ t (h':t<(ps[j]'hj).2.1.length),ClAt w2 ((ps[j]'hj).2.2 t) ((ps[j]'hj).2.1[t]'h').2:=fun j=>by
  by_cases hj:j<ps.length
  ·obtain ⟨_,lo,hi,g1,g2,g3,_,_⟩:=h.ls _ (List.getElem_mem hj)
   obtain ⟨b,off,f1,f2,f3⟩:=g3 w2 fun k hk1 hk2=>ha k (by omega) (by omega)
   exact ⟨(b,off),fun _=>⟨f1,f2,fun t ht=>(f3 t ht).2⟩⟩
  ·exact ⟨(0,0),fun h'=>absurd h' hj⟩
 obtain ⟨q,hq⟩:=Classical.axiomOfChoice hpt
 have hl:(ps.map (·.2.1)).length=ps.length:=List.length_map ..
 have hat:∀ j (hj:j<ps.length) (hj':j<(ps.map (·.2.1)).length),(ps.map (·.2.1))[j]'hj'=(ps[j]'hj).2.1:=fun j hj hj'=>List.getElem_map ..
 refine ⟨blkV cv,0,blkV pv,0,fun j=>match ps[j]? with | some x=>x.1 | none=>.slice none 0 0,fun j=>(q j).1,fun j=>(q j).2,fun j t=>match ps[j]? with | some x=>x.2.2 t | none=>.slice none 0 0,?_⟩
 have hv:∀ j (hj:j<ps.length),(match ps[j]? with | some x=>x.1 | none=>.slice none 0 0)=(ps[j]'hj).1:=fun j hj=>by rw [List.getElem?_eq_getElem hj]
 have hlv:∀ j (hj:j<ps.length) t,(match ps[j]? with | some x=>x.2.2 t | none=>.slice none 0 0)=(ps[j]'hj).2.2 t:=fun j hj t=>by rw [List.getElem?_eq_getElem hj]
 refine ⟨k1,fun t ht=>k2 t _ ?_,?_,fun j hj=>p2 j _ ?_,fun j hj=>?_,fun j hj t ht y u hu=>?_,fun j hj t ht=>?_⟩
 ·have ht':t<ks.length:=ht
  rw [List.getElem?_map,List.getElem?_eq_getElem ht']
  rfl
 ·show Sl w2 pv (ps.map (·.2.1)).length (blkV pv) 0
  rw [hl]
  exact p1
 ·have hj':j<ps.length:=by rw [← hl];exact hj
  rw [List.getElem?_map,List.getElem?_eq_getElem hj']
  rfl
 ·have hj':j<ps.length:=by rw [← hl];exact hj
  simp only [hv j hj']
  have:=(hq j hj').1
  rw [← hat j hj' hj] at this
  exact this
 ·have hj':j<ps.length:=by rw [← hl];exact hj
  simp only [hlv j hj'] at hu
  have e:(Cx.mk (ps.map (·.2.1)) ks).parts[j]'hj=(ps[j]'hj').2.1:=hat j hj' hj
  have ht':t<(ps[j]'hj').2.1.length:=by rw [← e];exact ht
  have e2:((Cx.mk (ps.map (·.2.1)) ks).parts[j]'hj)[t]'ht=(ps[j]'hj').2.1[t]'ht':=by simp only [e]
  rw [e2] at hu
  exact (hq j hj').2.1 t ht' y u hu
 ·have hj':j<ps.length:=by rw [← hl];exact hj
  have e:(Cx.mk (ps.map (·.2.1)) ks).parts[j]'hj=(ps[j]'hj').2.1:=hat j hj' hj
  have ht':t<(ps[j]'hj').2.1.length:=by rw [← e];exact ht
  have e2:((Cx.mk (ps.map (·.2.1)) ks).parts[j]'hj)[t]'ht=(ps[j]'hj').2.1[t]'ht':=by simp only [e]
  simp only [hlv j hj']
  rw [e2]
  exact (hq j hj').2.2 t ht'
def CxO (W:World) (r:Option CK) (e:Ending) (w':World):Prop:=Below W.heap.size W w'∧match r with
 | none=>∃ xa xn xc ya yn yc,e=.returned (.tuple #[.agg #[.slice xa xn xc,.slice ya yn yc],.bool false])
 | some (ps,ks)=>∃ xa xn xc ya yn yc,e=.returned (.tuple #[.agg #[.slice xa xn xc,.slice ya yn yc],.bool true])∧Rob W.heap.size w'.heap.size w' fun w2=>CxS w2 (.slice xa xn xc) (.slice ya yn yc) (.mk ps ks)
def preL (ps:List (List SX)) (ks:List Int):Option CK→Option CK
 | none=>none
 | some (qs,js)=>some (ps++qs,ks++js)
theorem preL_nil (o:Option CK):preL [] [] o=o:=by
 cases o with
 | none=>rfl
 | some x=>rfl
theorem preL_pre (ps:List (List SX)) (ks:List Int) (p:List SX) (k:Int) (o:Option CK):preL ps ks (preK p k o)=preL (ps++[p]) (ks++[k]) o:=by
 cases o with
 | none=>rfl
 | some x =>
   obtain ⟨qs,js⟩:=x
   show some (_,_)=some (_,_)
   simp
theorem cmX_ok {l:List V} {p:List SX} {r:List V} (h:cmX l=some (p,r)):r.length<l.length∧(∀ u∈r,u∈l)∧(NE l→NE r):=by
 rw [cmX_go] at h
 have hok:=compR_ok l
 obtain ⟨a,hs⟩:=compR_suf l
 rcases hc:compR l with ⟨ps,r'⟩
 rw [hc] at h hok hs
 simp only [] at h hok hs
 cases ps with
 | nil=>cases h
 | cons q qs =>
   have:r'=r:=by
    simp only [goC] at h
    split at h
    ·split at h
     ·cases h
     ·injection h with h
      injection h
    ·cases h
   subst this
   exact ⟨hok.2.1 (by simp),hok.2.2.2,fun hn=>by rw [hs] at hn;exact hn.suf⟩
theorem cmb_eq (v:V):cmbV v=cbT (dlT v.tok):=by
 unfold cmbV dlT
 cases v.tok.k == 9
 ·exact cb_0.symm
 ·exact num0 _
theorem cbT_cases (s:ByteArray):cbT s=0∨0<cbT s:=by
 unfold cbT
 repeat' split
 all_goals first | exact .inl rfl | exact .inr (by decide)
theorem trm_NE (l:List V):NE (trm l):=by
 obtain ⟨_,_,_,h⟩:=trm_split l
 exact h
structure XB (W:World) (v pv cv:Value) (ps:List PX) (ks:List Int) (us:List V) (P:Nat→Prop) (w:World):Prop where
 out:w.heap[W.heap.size+1]? = some (.cells #[pv,cv] 44 (0,0))
 res:w.heap[W.heap.size]? = some (.cells #[.slice none 0 0,.slice none 0 0] 44 (0,0))
 cx:CxI (W.heap.size+2) w pv cv ps ks
 vs:VsAt P w v us
 pl:∀ b,P b→b<w.heap.size∧b≠W.heap.size∧b≠W.heap.size+1∧pv.ownBlock≠some b∧cv.ownBlock≠some b
 bel:Below W.heap.size W w
theorem XB.keep {W:World} {v pv cv:Value} {ps:List PX} {ks:List Int} {us:List V} {P:Nat→Prop} {w w':World} (h:XB W v pv cv ps ks us P w) (hb:Below w.heap.size w w'):XB W v pv cv ps ks us P w' :=
 ⟨(hb.block _ (Array.getElem?_eq_some_iff.1 h.out).1).trans h.out,(hb.block _ (Array.getElem?_eq_some_iff.1 h.res).1).trans h.res,h.cx.keep hb,h.vs.keep hb,fun b hP=>by have hp:=h.pl b hP;have:=hb.size;exact ⟨by omega,hp.2.1,hp.2.2.1,hp.2.2.2⟩,h.bel.trans (hb.mono h.bel.size)⟩
theorem two_cells {w:World} {b:Nat} {x0 x1:Value} {T:TypeId} (h:w.heap[b]? = some (.cells #[x0,x1] T (0,0))):w.cell? ⟨b,0,none⟩=some x0∧w.cell? ⟨b,1,none⟩=some x1∧w.frozen? ⟨b,0,none⟩=false∧w.frozen? ⟨b,1,none⟩=false:=⟨cellAt h 0,cellAt h 1,by simp [World.frozen?,h],by simp [World.frozen?,h]⟩
theorem XB.list {W:World} {v pv cv v':Value} {ps:List PX} {ks:List Int} {us us':List V} {P Q:Nat→Prop} {w:World} (h:XB W v pv cv ps ks us P w) (hv:VsAt Q w v' us') (hq:∀ b,Q b→b<w.heap.size∧b≠W.heap.size∧b≠W.heap.size+1∧pv.ownBlock≠some b∧cv.ownBlock≠some b):XB W v' pv cv ps ks us' Q w:=⟨h.out,h.res,h.cx,hv,hq,h.bel⟩
theorem XB.szl {W:World} {v pv cv:Value} {ps:List PX} {ks:List Int} {us:List V} {P:Nat→Prop} {w:World} (h:XB W v pv cv ps ks us P w):W.heap.size+2≤w.heap.size:=(Array.getElem?_eq_some_iff.1 h.out).1
theorem XB.trim {W:World} {v pv cv v':Value} {ps:List PX} {ks:List Int} {us us':List V} {P:Nat→Prop} {w w':World} (h:XB W v pv cv ps ks us P w) (hb:Below w.heap.size w w') (hv:VsAt (fun b=>P b∨w.heap.size≤b) w' v' us'):XB W v' pv cv ps ks us' (fun b=>(P b∨w.heap.size≤b)∧b<w'.heap.size) w':=by
 refine (h.keep hb).list (hv.wider fun b h1 h2=>⟨h1,h2⟩) fun b hQ=>?_
 have hsz:=h.szl
 rcases hQ.1 with hP | hge
 ·have:=h.pl b hP
  exact ⟨hQ.2,this.2.1,this.2.2.1,this.2.2.2⟩
 ·refine ⟨hQ.2,by omega,by omega,fun e=>?_,fun e=>?_⟩
  ·have:=(own_blk h.cx.po b e).2
   omega
  ·have:=(own_blk h.cx.ko b e).2
   omega
theorem grown_low {W w w2:World} {o:Obj} {v:Value} {B:Nat} (hb:Below W.heap.size W w) (hB:W.heap.size≤B) (hlow:∀ g,v.ownBlock=some g→B≤g) (hg:(w.alloc o).grownBy w2 v.ownBlock):Below W.heap.size W w2:=by
 have h1:Below W.heap.size W (w.alloc o):=hb.alloc hb.size o
 exact h1.grown hg h1.size (fun k e=>Nat.le_trans hB (hlow k e))
theorem setB {W w:World} (hb:Below W.heap.size W w) (o i:Nat) (x:Value) (ho:W.heap.size≤o):Below W.heap.size W (w.setCell ⟨o,i,none⟩ x):=hb.setCell (p:=⟨o,i,none⟩) (by simpa using ho) x
theorem XB.part {W:World} {v pv cv pv2 u rv:Value} {o:Obj} {ps:List PX} {ks:List Int} {us r:List V} {P:Nat→Prop} {w0 w w2:World} {p:List SX} {lv:Nat→Value} (h:XB W v pv cv ps ks us P w0) (hb:Below w0.heap.size w0 w) (hu:∃ a n c,u=.slice a n c) (hr:Rob w0.heap.size w.heap.size w fun w2=>PtL w2 u p lv) (hv:VsAt P w0 rv r)
  (ho:w2.ownsRow (W.heap.size+2) 47 1 pv2 (ps.length+1) (ps.map (·.1)++[u])) (hg:(w.alloc o).grownBy w2 pv.ownBlock) (hat:pv2.ownBlock=pv.ownBlock∨pv2.ownBlock=some (w.heap.size+1)) :
  w2.heap[W.heap.size+1]? = some (.cells #[pv,cv] 44 (0,0))∧XB W rv pv2 cv (ps++[(u,p,lv)]) ks r P (w2.setCell ⟨W.heap.size+1,0,none⟩ pv2):=by
 have hk:=h.keep hb
 have hsz0:=h.szl
 have hsz:(w.alloc o).heap.size=w.heap.size+1:=by simp
 have hsz2:w.heap.size+1≤w2.heap.size:=by have:=hg.size;omega
 have hbw:=hb.size
 have hlow:∀ g,pv.ownBlock=some g→W.heap.size+2≤g:=fun g e=>(own_blk h.cx.po g e).1
 have hst:∀ k,k<w.heap.size→pv.ownBlock≠some k→w2.heap[k]? = w.heap[k]?:=fun k h1 h2=>(hg.block k (by omega) (fun e=>h2 e.symm)).trans (Below.heap_alloc w o k h1)
 have o2:w2.heap[W.heap.size+1]? = some (.cells #[pv,cv] 44 (0,0)):=(hst _ (by omega) fun e=>by have:=hlow _ e;omega).trans hk.out
 have r2:w2.heap[W.heap.size]? = some (.cells #[.slice none 0 0,.slice none 0 0] 44 (0,0)):=(hst _ (by omega) fun e=>by have:=hlow _ e;omega).trans hk.res
 refine ⟨o2,by rw [set_at 0 _ _ o2];rfl,(heap_ne (by omega)).trans r2,(h.cx.part hb (by omega) hu hr ho hg hat).set 0 _ (by omega),?_,fun b hP=>?_,setB (grown_low hk.bel (by omega) hlow hg) _ _ _ (by omega)⟩
 ·refine (hv.stay (W':=w2) (by omega) fun b hP hlt=>?_).stay (by simp) fun b hP _=>heap_ne (h.pl b hP).2.2.1
  rw [hst b (by omega) (h.pl b hP).2.2.2.1]
  exact hb.block b hlt
 ·have hp:=h.pl b hP
  refine ⟨by simp;omega,hp.2.1,hp.2.2.1,fun e=>?_,hp.2.2.2.2⟩
  rcases hat with e2 | e2
  ·exact hp.2.2.2.1 (e2.symm.trans e)
  ·rw [e2] at e
   cases e
   omega
theorem XB.comb {W:World} {v pv cv cv2:Value} {o:Obj} {ps:List PX} {ks:List Int} {us:List V} {P:Nat→Prop} {w w2:World} {k0:Int} (h:XB W v pv cv ps ks us P w)
  (ho:w2.ownsRow (W.heap.size+2) 3 1 cv2 (ks.length+1) (ks.map (Value.int .i64)++[.int .i64 k0])) (hg:(w.alloc o).grownBy w2 cv.ownBlock) (hat:cv2.ownBlock=cv.ownBlock∨cv2.ownBlock=some (w.heap.size+1)) :
  w2.heap[W.heap.size+1]? = some (.cells #[pv,cv] 44 (0,0))∧XB W v pv cv2 ps (ks++[k0]) us P (w2.setCell ⟨W.heap.size+1,1,none⟩ cv2):=by
 have hsz0:=h.szl
 have hsz:(w.alloc o).heap.size=w.heap.size+1:=by simp
 have hsz2:w.heap.size+1≤w2.heap.size:=by have:=hg.size;omega
 have hlow:∀ g,cv.ownBlock=some g→W.heap.size+2≤g:=fun g e=>(own_blk h.cx.ko g e).1
 have hst:∀ k,k<w.heap.size→cv.ownBlock≠some k→w2.heap[k]? = w.heap[k]?:=fun k h1 h2=>(hg.block k (by omega) (fun e=>h2 e.symm)).trans (Below.heap_alloc w o k h1)
 have o2:w2.heap[W.heap.size+1]? = some (.cells #[pv,cv] 44 (0,0)):=(hst _ (by omega) fun e=>by have:=hlow _ e;omega).trans h.out
 have r2:w2.heap[W.heap.size]? = some (.cells #[.slice none 0 0,.slice none 0 0] 44 (0,0)):=(hst _ (by omega) fun e=>by have:=hlow _ e;omega).trans h.res
 refine ⟨o2,by rw [set_at 1 _ _ o2];rfl,(heap_ne (by omega)).trans r2,(h.cx.comb ho hg hat).set 1 _ (by omega),?_,fun b hP=>?_,setB (grown_low h.bel (by omega) hlow hg) _ _ _ (by omega)⟩
 ·refine (h.vs.stay (W':=w2) (by omega) fun b hP hlt=>hst b hlt (h.pl b hP).2.2.2.2).stay (by simp) fun b hP _=>heap_ne (h.pl b hP).2.2.1
 ·have hp:=h.pl b hP
  refine ⟨by simp;omega,hp.2.1,hp.2.2.1,hp.2.2.2.1,fun e=>?_⟩
  rcases hat with e2 | e2
  ·exact hp.2.2.2.2 (e2.symm.trans e)
  ·rw [e2] at e
   cases e
   omega
theorem XB.end {W:World} {v pv cv:Value} {ps:List PX} {ks:List Int} {us:List V} {P:Nat→Prop} {w:World} (h:XB W v pv cv ps ks us P w) (w':World) (hw:w'=(w.setCell ⟨W.heap.size,0,none⟩ pv).setCell ⟨W.heap.size,1,none⟩ cv) :
  Below W.heap.size W w'∧Rob W.heap.size w'.heap.size w' (fun w2=>CxS w2 pv cv (.mk (ps.map (·.2.1)) ks))∧w'.cell? ⟨W.heap.size,0,none⟩=some pv∧w'.cell? ⟨W.heap.size,1,none⟩=some cv:=by
 subst hw
 have e1:(w.setCell ⟨W.heap.size,0,none⟩ pv).heap[W.heap.size]? = some (.cells #[pv,.slice none 0 0] 44 (0,0)):=by rw [set_at 0 _ _ h.res];rfl
 have e2:((w.setCell ⟨W.heap.size,0,none⟩ pv).setCell ⟨W.heap.size,1,none⟩ cv).heap[W.heap.size]? = some (.cells #[pv,cv] 44 (0,0)):=by rw [set_at 1 _ _ e1];rfl
 refine ⟨setB (setB h.bel _ _ _ (Nat.le_refl _)) _ _ _ (Nat.le_refl _),(((h.cx.set 0 pv (by omega)).set 1 cv (by omega)).rob).wide (by omega) (Nat.le_refl _),cellAt e2 0,cellAt e2 1⟩
theorem XB.no {W:World} {v pv cv:Value} {ps:List PX} {ks:List Int} {us:List V} {P:Nat→Prop} {w:World} (h:XB W v pv cv ps ks us P w) (w':World) (hw:w'=(w.setCell ⟨W.heap.size,0,none⟩ (.slice none 0 0)).setCell ⟨W.heap.size,1,none⟩ (.slice none 0 0)) :
  Below W.heap.size W w'∧w'.cell? ⟨W.heap.size,0,none⟩=some (.slice none 0 0)∧w'.cell? ⟨W.heap.size,1,none⟩=some (.slice none 0 0):=by
 subst hw
 have e1:(w.setCell ⟨W.heap.size,0,none⟩ (.slice none 0 0)).heap[W.heap.size]? = some (.cells #[.slice none 0 0,.slice none 0 0] 44 (0,0)):=by rw [set_at 0 _ _ h.res];rfl
 have e2:((w.setCell ⟨W.heap.size,0,none⟩ (.slice none 0 0)).setCell ⟨W.heap.size,1,none⟩ (.slice none 0 0)).heap[W.heap.size]? = some (.cells #[.slice none 0 0,.slice none 0 0] 44 (0,0)):=by rw [set_at 1 _ _ e1];rfl
 exact ⟨setB (setB h.bel _ _ _ (Nat.le_refl _)) _ _ _ (Nat.le_refl _),cellAt e2 0,cellAt e2 1⟩
theorem results37 (tmps:Array Value) (w:World) (b:Nat) (r:Bool) (x y:Value) (h2:tmps[2]? = some (.pointer (some ⟨b,0,none⟩))) (h3:tmps[3]? = some (.bool r)) (r1:w.cell? ⟨b,0,none⟩=some x) (r2:w.cell? ⟨b,1,none⟩=some y) :
  (results Tryz.f15 tmps).run Tryz.prog w=.ok (.tuple #[.agg #[x,y],.bool r]) w:=by
 simp [results,Tryz.f15,go_sem,h2,h3,r1,r2]
theorem rcompound_any (hatt:AttrC) {P:Nat→Prop} {W:World} {val:Value} {l:List V} (hv:VsAt P W val l) (hf:Fit l)
  (hp:∀ u∈l,∀ (w:World) (kv:Value),Below W.heap.size W w→VsAt P w kv u.kids→Calls Tryz.prog 8 #[kv] w (PaP w (parseZ u.kids))):Calls Tryz.prog 30 #[val] W (CoP P W (cmX l)):=by
 obtain ⟨i0,z0,hi,hz0,hz1,hz2,hz3⟩:=info51
 have HI0:=hid_mk hi
 have HZ0:=hid_mk hz0
 have HZ1:=hid_mk hz1
 have HZ2:=hid_mk hz2
 have HZ3:=hid_mk hz3
 clear hi hz0 hz1 hz2 hz3
 have hn:l.length≤100000:=hf.len
 obtain ⟨a,cap,rfl,hc1,hc2⟩:=hv.slice
 have HV:=hid_mk hv
 have HF:=hid_mk hf
 have HP:=hid_mk hp
 have HX:Hid (cmX l=neC (preC (tgX l).1 (cmF l.length (tgX l).2))):=rfl
 generalize cmX l=R at *
 have HB0:=hid_mk (Below.refl W.heap.size W)
 cases l with
 | nil =>
   have HE:Hid (R=none):=HX.out
   rw [List.length_nil] at *
   clear HX hv hf hp HP HF
   go_enter Tryz.func30,Tryz.ntmps30
   go_wp2
   go_loopw [0,5] (fun a0 a5 wq=>a0=.slice a 0 cap∧a5=.slice none 0 0∧Hid (Below W.heap.size W wq)) (fun _ _ _=>0)
   case atStart=>exact ⟨rfl,rfl,HB0⟩
   case round =>
    obtain ⟨rfl,rfl,HB⟩:=hrel
    clear HV HB0
    go_wp2
    go_ret3
    rw [HE.out]
    exact ⟨HB.out,_,_,_,_,_,_,rfl⟩
 | cons x r =>
 obtain ⟨xb,xo,xc,ka,kn,kc,e1,hx1,hx2,hxc,_,htl⟩:=hv.item
 injection e1 with ea en ec
 subst ea ec
 obtain ⟨q0,q1,q2,q3,q4,q5⟩:=hxc W (Below.refl _ _)
 have HXC:=hid_mk hxc
 have HTL:=hid_mk htl
 have HTG:Hid (tgX (x::r)=if (x.tok.k == 1)=true then ([(⟨1,foldS x.tok.tx,0,⟨#[]⟩,0,0⟩,[])],r) else if ((dlT x.tok).toList == [42])=true then ([(⟨1,⟨#[42]⟩,0,⟨#[]⟩,0,0⟩,[])],r) else ([],x::r)):=rfl
 have hxs:x.tok.tx.size≤1000000000000:=hf.tx' x (by simp)
 obtain ⟨N,hN⟩:∃ N,N=(x::r).length:=⟨_,rfl⟩
 have HN:Hid (N=r.length+1):=hN
 rw [← hN] at hc1 hn HV ⊢
 have h0N:0<N:=by rw [hN];simp
 generalize x.tok=t at *
 obtain ⟨tk,tx,un,wh,fl⟩:=t
 have hi1:=ris_any W ⟨tk,tx,un,wh,fl⟩ ka kn kc 1
 unfold vAg at hi1
 dsimp only at q0 q1 q2 q3 q4 q5 hi1 hxs HTG
 clear hv hf hp hN en hxc htl
 go_enter Tryz.func30,Tryz.ntmps30
 go_wp2_with (go_at_call 29;fail)
 refine hi1.mono ?_
 rintro e w1 ⟨rfl,hb1⟩
 have HB1:=hid_mk hb1
 clear hi1 hb1 q0 q1 q2 q3 q4 q5
 go_upto_if 17 with (fail)
 go_cut [0,5] (fun a0 a5 wx=>∃ (ps:List TX) (us:List V) (va:Option Addr) (vn vc:Nat) (oa:Option Addr) (on oc:Nat),a0=.slice va vn vc∧a5=.slice oa on oc∧Hid (tgX (x::r)=(ps.map prT,us))∧Hid (us.length≤r.length+1∧(∀ u∈us,u∈x::r)∧ps.length≤1)∧Hid (VsAt P W (.slice va vn vc) us)∧Hid (CoI W.heap.size wx (.slice oa on oc) ps)∧Hid (Below W.heap.size W wx))
 case first =>
  cases hk:(tk == 1) with
  | true =>
    have HT:Hid (tgX (x::r)=([(⟨1,foldS tx,0,⟨#[]⟩,0,0⟩,[])],r)):=by rw [Hid,HTG.out,hk];rfl
    obtain ⟨q0,q1,q2,q3,q4,q5⟩:=HXC.out w1 HB1.out
    have hfo:=rfold2_any tx w1 hxs
    dsimp only at q0 q1 q2 q3 q4 q5
    clear HTG HXC HX HF HP
    go_wp2_with (go_at_call 52;fail)
    refine hfo.mono ?_
    rintro e w2 ⟨rfl,hb2⟩
    generalize foldS tx=nm at *
    have HB2:Hid (Below W.heap.size W w2):=HB1.out.trans (hb2.mono HB1.out.size)
    have HC0:=hid_mk (CoI.nil W.heap.size w2)
    have HOW:Hid ((w2.alloc (.cells (s7a ⟨1,nm,0,⟨#[]⟩,0,0⟩ (.slice none 0 0)) 46)).ownsRow W.heap.size 46 7 (.slice none 0 0) 0 []):=World.ownsRow_nil _ _ _ _
    have HBa:Hid (Below w2.heap.size w2 (w2.alloc (.cells (s7a ⟨1,nm,0,⟨#[]⟩,0,0⟩ (.slice none 0 0)) 46))):=(Below.refl _ _).alloc (Nat.le_refl _) _
    obtain ⟨hlit,hnews,hone⟩:=(rob_lit (w:=w2) (s:=⟨1,nm,0,⟨#[]⟩,0,0⟩)).here.news (by simp)
    obtain ⟨NW,hNW⟩:∃ NW,NW=rowS (trip [((⟨1,nm,0,⟨#[]⟩,0,0⟩:S6),([]:List Cx))] (fun _=>.slice none 0 0)):=⟨_,rfl⟩
    have hll:NW.length=1 * 7:=by rw [hNW,rowS_len,trip_len];rfl
    rw [← hNW] at hnews hone
    have HNW:=hid_mk hnews
    have HO1:=hid_mk hone
    have HNE:=hid_mk hNW
    have HLL:=hid_mk hll
    have hsz:W.heap.size≤(w2.alloc (.cells (s7a ⟨1,nm,0,⟨#[]⟩,0,0⟩ (.slice none 0 0)) 46)).heap.size:=by have:=HB2.out.size;simp;omega
    have HSZ:=hid_mk hsz
    clear hfo hb2 q0 q1 q2 q3 q4 q5 HB1 hnews hone hsz hNW hll hlit
    unfold s7a at HOW HBa HNW HSZ
    dsimp only at HOW HBa HNW HSZ
    go_wp2_with (at_builtin;with_reducible refine wpList_append_own_at _ rfl _ _ 47 rfl W.heap.size 46 i0 z0 7 88 Tryz.underlying47 HI0.out HZ0.out HZ1.out HZ2.out HZ3.out (by decide) (.slice none 0 0) 0 [] rfl HOW.out ⟨w2.heap.size,0,none⟩ 1 1 NW rfl HLL.out HNW.out HO1.out ?c1 ?c2 ?c3 ?_)
    case c1=>unfold maxLen;omega
    case c2=>omega
    case c3=>exact HSZ.out
    intro v3 w3 ho3 hg3 _ hat3
    have hco:CoI W.heap.size w3 v3 [(⟨1,nm,0,⟨#[]⟩,0,0⟩,.slice none 0 0,[])]:=by
     refine HC0.out.add (u:=.slice (some ⟨w2.heap.size,0,none⟩) 1 1) (p:=[(⟨1,nm,0,⟨#[]⟩,0,0⟩,[])]) (lv:=fun _=>.slice none 0 0) HBa.out HB2.out.size (rob_lit (w:=w2) (s:=⟨1,nm,0,⟨#[]⟩,0,0⟩)) ?_ hg3 (hat3.imp id fun e=>e.trans (by simp))
     rw [← HNE.out]
     exact ho3
    have hB3:Below W.heap.size W w3:=(HB2.out.trans (HBa.out.mono HB2.out.size)).grown hg3 HSZ.out fun k e=>by cases e
    obtain ⟨oa,oc,rfl⟩:=hco.sl
    have HCO:=hid_mk hco
    have HB3:=hid_mk hB3
    have HRS:Hid (r.length≤r.length+1∧(∀ u∈r,u∈x::r)∧[((⟨1,nm,0,⟨#[]⟩,0,0⟩:S6),(Value.slice none 0 0),([]:List Cx))].length≤1):=⟨by omega,fun u hu=>by simp [hu],by simp⟩
    clear ho3 hg3 hat3 hco hB3 HC0 HOW HBa HNW HO1 HNE HLL HSZ HB2
    go_wp2
    all_goals go_meet
    ·exact ⟨[(⟨1,nm,0,⟨#[]⟩,0,0⟩,.slice none 0 0,[])],r,_,_,_,_,_,_,rfl,rfl,HT,HRS,HTL.out _ _ _ (by have:=HN.out;omega) (by omega) (fun h=>by have:=HN.out;omega),HCO,HB3⟩
    ·exact ⟨[(⟨1,nm,0,⟨#[]⟩,0,0⟩,.slice none 0 0,[])],r,_,_,_,_,_,_,rfl,rfl,HT,HRS,HTL.out _ _ _ (by have:=HN.out;omega) (by omega) (fun h=>rfl),HCO,HB3⟩
  | false =>
    obtain ⟨q0,q1,q2,q3,q4,q5⟩:=HXC.out w1 HB1.out
    have hde:=rdelim_any w1 ⟨tk,tx,un,wh,fl⟩ ka kn kc
    have HT1:Hid (tgX (x::r)=if ((dlT ⟨tk,tx,un,wh,fl⟩).toList == [42])=true then ([(⟨1,⟨#[42]⟩,0,⟨#[]⟩,0,0⟩,[])],r) else ([],x::r)):=by rw [Hid,HTG.out,hk];rfl
    unfold vAg at hde
    dsimp only at q0 q1 q2 q3 q4 q5 hde
    generalize dlT ⟨tk,tx,un,wh,fl⟩=D at *
    clear HTG HXC HX HF HP
    go_wp2_with (go_at_call 32;fail)
    refine hde.mono ?_
    rintro e w2 ⟨rfl,hb2⟩
    have HB2:Hid (Below W.heap.size W w2):=HB1.out.trans (hb2.mono HB1.out.size)
    clear hde hb2 q0 q1 q2 q3 q4 q5 HB1
    cases hd:(D.toList == [42]) with
    | true =>
      have HT:Hid (tgX (x::r)=([(⟨1,⟨#[42]⟩,0,⟨#[]⟩,0,0⟩,[])],r)):=by rw [Hid,HT1.out,hd];rfl
      clear HT1
      have HC0:=hid_mk (CoI.nil W.heap.size w2)
      have HOW:Hid ((w2.alloc (.cells (s7a ⟨1,⟨#[42]⟩,0,⟨#[]⟩,0,0⟩ (.slice none 0 0)) 46)).ownsRow W.heap.size 46 7 (.slice none 0 0) 0 []):=World.ownsRow_nil _ _ _ _
      have HBa:Hid (Below w2.heap.size w2 (w2.alloc (.cells (s7a ⟨1,⟨#[42]⟩,0,⟨#[]⟩,0,0⟩ (.slice none 0 0)) 46))):=(Below.refl _ _).alloc (Nat.le_refl _) _
      obtain ⟨hlit,hnews,hone⟩:=(rob_lit (w:=w2) (s:=⟨1,⟨#[42]⟩,0,⟨#[]⟩,0,0⟩)).here.news (by simp)
      obtain ⟨NW,hNW⟩:∃ NW,NW=rowS (trip [((⟨1,⟨#[42]⟩,0,⟨#[]⟩,0,0⟩:S6),([]:List Cx))] (fun _=>.slice none 0 0)):=⟨_,rfl⟩
      have hll:NW.length=1 * 7:=by rw [hNW,rowS_len,trip_len];rfl
      rw [← hNW] at hnews hone
      have HNW:=hid_mk hnews
      have HO1:=hid_mk hone
      have HNE:=hid_mk hNW
      have HLL:=hid_mk hll
      have hsz:W.heap.size≤(w2.alloc (.cells (s7a ⟨1,⟨#[42]⟩,0,⟨#[]⟩,0,0⟩ (.slice none 0 0)) 46)).heap.size:=by have:=HB2.out.size;simp;omega
      have HSZ:=hid_mk hsz
      clear hnews hone hsz hNW hll hlit
      unfold s7a at HOW HBa HNW HSZ
      dsimp only at HOW HBa HNW HSZ
      go_wp2_with (at_builtin;with_reducible refine wpList_append_own_at _ rfl _ _ 47 rfl W.heap.size 46 i0 z0 7 88 Tryz.underlying47 HI0.out HZ0.out HZ1.out HZ2.out HZ3.out (by decide) (.slice none 0 0) 0 [] rfl HOW.out ⟨w2.heap.size,0,none⟩ 1 1 NW rfl HLL.out HNW.out HO1.out ?c1 ?c2 ?c3 ?_)
      case c1=>unfold maxLen;omega
      case c2=>omega
      case c3=>exact HSZ.out
      intro v3 w3 ho3 hg3 _ hat3
      have hco:CoI W.heap.size w3 v3 [(⟨1,⟨#[42]⟩,0,⟨#[]⟩,0,0⟩,.slice none 0 0,[])]:=by
       refine HC0.out.add (u:=.slice (some ⟨w2.heap.size,0,none⟩) 1 1) (p:=[(⟨1,⟨#[42]⟩,0,⟨#[]⟩,0,0⟩,[])]) (lv:=fun _=>.slice none 0 0) HBa.out HB2.out.size (rob_lit (w:=w2) (s:=⟨1,⟨#[42]⟩,0,⟨#[]⟩,0,0⟩)) ?_ hg3 (hat3.imp id fun e=>e.trans (by simp))
       rw [← HNE.out]
       exact ho3
      have hB3:Below W.heap.size W w3:=(HB2.out.trans (HBa.out.mono HB2.out.size)).grown hg3 HSZ.out fun k e=>by cases e
      obtain ⟨oa,oc,rfl⟩:=hco.sl
      have HCO:=hid_mk hco
      have HB3:=hid_mk hB3
      have HRS:Hid (r.length≤r.length+1∧(∀ u∈r,u∈x::r)∧[((⟨1,⟨#[42]⟩,0,⟨#[]⟩,0,0⟩:S6),(Value.slice none 0 0),([]:List Cx))].length≤1):=⟨by omega,fun u hu=>by simp [hu],by simp⟩
      clear ho3 hg3 hat3 hco hB3 HC0 HOW HBa HNW HO1 HNE HLL HSZ HB2
      go_wp2
      all_goals go_meet
      ·exact ⟨[(⟨1,⟨#[42]⟩,0,⟨#[]⟩,0,0⟩,.slice none 0 0,[])],r,_,_,_,_,_,_,rfl,rfl,HT,HRS,HTL.out _ _ _ (by have:=HN.out;omega) (by omega) (fun h=>by have:=HN.out;omega),HCO,HB3⟩
      ·exact ⟨[(⟨1,⟨#[42]⟩,0,⟨#[]⟩,0,0⟩,.slice none 0 0,[])],r,_,_,_,_,_,_,rfl,rfl,HT,HRS,HTL.out _ _ _ (by have:=HN.out;omega) (by omega) (fun h=>rfl),HCO,HB3⟩
    | false =>
      have HT:Hid (tgX (x::r)=(([]:List TX).map prT,x::r)):=by rw [Hid,HT1.out,hd];rfl
      have HCO:=hid_mk (CoI.nil W.heap.size w2)
      have HRS:Hid ((x::r).length≤r.length+1∧(∀ u∈x::r,u∈x::r)∧([]:List TX).length≤1):=⟨by simp,fun u hu=>hu,by simp⟩
      clear HT1
      go_wp2
      go_meet
      exact ⟨_,x::r,_,_,_,_,_,_,rfl,rfl,HT,HRS,HV,HCO,HB2⟩
 case rest =>
 obtain ⟨ps0,us0,va,vn,vc,oa,on,oc,rfl,rfl,HT0,HR0,HV0,HC0,HBx⟩:=hcut
 have HX2:Hid (R=neC (preC (ps0.map prT) (cmF (r.length+1) us0))):=by
  rw [Hid,HX.out,HT0.out]
  rfl
 have hM:r.length+1≤100000:=by have:=HN.out;omega
 clear HX HTG HT0 HTL HXC HV hxs
 go_upto_block 0 with fail
 go_cut [0,5] (fun a0 a5 wx=>∃ (ps:List TX) (us:List V) (va:Option Addr) (vn vc:Nat) (oa:Option Addr) (on oc:Nat),a0=.slice va vn vc∧a5=.slice oa on oc∧Hid (R=neC (some (ps.map prT,us)))∧Hid (VsAt P W (.slice va vn vc) us)∧Hid (CoI W.heap.size wx (.slice oa on oc) ps)∧Hid (Below W.heap.size W wx))
 case first =>
  go_wp2
  go_loopw [0,5] (fun a0 a5 wq=>∃ (F:Nat) (ps:List TX) (us:List V) (va:Option Addr) (vn vc:Nat) (oa:Option Addr) (on oc:Nat),a0=.slice va vn vc∧a5=.slice oa on oc∧Hid (R=neC (preC (ps.map prT) (cmF F us)))∧Hid (us.length≤F∧(∀ u∈us,u∈x::r)∧us.length≤r.length+1∧ps.length+10 * us.length≤10 * (r.length+1)+1∧vn=us.length)∧Hid (VsAt P W (.slice va vn vc) us)∧Hid (CoI W.heap.size wq (.slice oa on oc) ps)∧Hid (Below W.heap.size W wq)) (fun a0 _ _=>Y.sliceLen a0)
  case atStart =>
   refine ⟨r.length+1,ps0,us0,va,vn,vc,oa,on,oc,rfl,rfl,HX2,?_,HV0,HC0,HBx⟩
   obtain ⟨h1,h2,h3⟩:=HR0.out
   obtain ⟨a',c',e,_⟩:=HV0.out.slice
   injection e with _ e2 _
   exact ⟨h1,h2,h1,by omega,e2⟩
  case round =>
   obtain ⟨F,ps,us,va,vn,vc,oa,on,oc,rfl,rfl,HR,HQ,HVu,HC,HB⟩:=hrel
   obtain ⟨sa,sc,hse,hcn,hcm⟩:=HVu.out.slice
   injection hse with hse1 hse2 hse3
   subst hse1 hse3
   clear hse2
   cases us with
   | nil =>
     have hvn:vn=0:=HQ.out.2.2.2.2
     subst hvn
     have HE:Hid (R=neC (some (ps.map prT,[]))):=by
      rw [Hid,HR.out,cmF_nil]
      simp only [preC,List.append_nil]
     clear HQ HR HX2 HR0 HV0 HC0 HBx HP HF
     go_wp2
     go_meet
     exact ⟨ps,[],_,_,_,_,_,_,rfl,rfl,HE,HVu,HC,HB⟩
   | cons y ys =>
     obtain ⟨hF,hmem,hle,hpl,hvn⟩:=HQ.out
     obtain ⟨F',rfl⟩:∃ F',F=F'+1:=⟨F - 1,by simp only [List.length_cons] at hF;omega⟩
     have hfu:Fit (y::ys):=HF.out.sub hle hmem
     have hot:=rother_any hatt (HVu.out.keep HB.out) hfu (fun u hu kv hk w hb=>HP.out u (hmem u hu) w kv (HB.out.trans (hb.mono HB.out.size)) (hk.keep hb))
     have HST:Hid (R=neC (preC (ps.map prT) (stC F' (y::ys) (otX (y::ys))))):=by rw [Hid,HR.out,cmF_step (by simp)]
     have HOK:Hid (∀ p n,otX (y::ys)=some (p,n)→(n=0∧p=[])∨(1≤n∧n≤(y::ys).length∧0<p.length∧p.length≤10)):=fun p n h=>otX_ok (by simp) h
     have h0v:0<vn:=by rw [hvn];simp
     have HQ2:Hid ((y::ys).length≤F'+1∧(∀ u∈y::ys,u∈x::r)∧(y::ys).length≤r.length+1∧ps.length+10 * (y::ys).length≤10 * (r.length+1)+1∧vn=(y::ys).length):=⟨hF,hmem,hle,hpl,hvn⟩
     have hpb:ps.length≤1000001:=by simp only [List.length_cons] at hpl;omega
     have hvb:vn≤100000:=by rw [hvn];omega
     generalize otX (y::ys)=OX at *
     generalize y::ys=us at *
     clear hF hmem hle hpl hvn hfu HQ HR HX2 HR0 HV0 HC0 HBx HP HF
     go_wp2_with (go_at_call 53;fail)
     refine hot.mono ?_
     rintro e w2 ⟨hb2,hq⟩
     have HB2:Hid (Below W.heap.size W w2):=HB.out.trans (hb2.mono HB.out.size)
     cases OX with
     | none =>
       obtain ⟨ta,tn,tc,n,rfl⟩:=hq
       have HE:Hid (R=none):=HST.out
       clear HST hb2 HC HB hot HOK HQ2
       go_wp2
       go_ret3
       rw [HE.out]
       exact ⟨HB2.out,_,_,_,_,_,_,rfl⟩
     | some z =>
       obtain ⟨p,n⟩:=z
       obtain ⟨ta,tn,tc,rfl,lv,hrob⟩:=hq
       rcases HOK.out p n rfl with ⟨rfl,rfl⟩ | ⟨hn1,hn2,hp1,hp2⟩
       ·have HE:Hid (R=neC (some (ps.map prT,us))):=by
         rw [Hid,HST.out]
         simp only [stC,if_true,preC,List.append_nil]
        have HC2:=hid_mk (HC.out.keep hb2)
        clear HST hb2 HC HB hot HOK HQ2 hrob
        go_wp2
        go_meet
        exact ⟨ps,us,_,_,_,_,_,_,rfl,rfl,HE,HVu,HC2,HB2⟩
       ·have hn0:n≠0:=by omega
        have HE:Hid (R=neC (preC ((ps++trip p lv).map prT) (cmF F' (us.drop n)))):=by
         rw [Hid,HST.out]
         simp only [stC,if_neg hn0]
         rw [preC_app,List.map_append,trip_pr]
        obtain ⟨tb,tof,⟨ta',tc',et,_,_,hta⟩,_⟩:=hrob.here
        injection et with et1 et2 et3
        subst et1 et3
        obtain ⟨rfl,htl⟩:=hta hp1
        obtain ⟨htp,hnews,hone⟩:=hrob.here.news hp1
        have HNW:=hid_mk hnews
        have HO1:=hid_mk hone
        have HLL:Hid ((rowS (trip p lv)).length=tn * 7):=by rw [Hid,rowS_len,trip_len,et2]
        have HOW:=hid_mk (HC.out.keep hb2).own
        have HADD:Hid (∀ v2 w3,w3.ownsRow W.heap.size 46 7 v2 (ps.length+tn) (rowS ps++rowS (trip p lv))→w2.grownBy w3 (Value.slice oa on oc).ownBlock→(v2.ownBlock=(Value.slice oa on oc).ownBlock∨v2.ownBlock=some w2.heap.size)→CoI W.heap.size w3 v2 (ps++trip p lv)∧Below W.heap.size W w3):=fun v2 w3 h1 h2 h3=>⟨HC.out.add hb2 HB.out.size hrob (by rw [← et2];exact h1) h2 h3,HB2.out.grown h2 HB2.out.size fun k e=>(own_blk HC.out.own k e).1⟩
        have HSZ:=hid_mk HB2.out.size
        have htn:tn≤10:=by omega
        have hnn:n≤vn:=by have:=HQ2.out.2.2.2.2;omega
        have HVN:Hid (∀ a' n' c',n'=vn - n→c'=vc - n→(n<us.length→∃ b off,va=some ⟨b,off,none⟩∧a'=some ⟨b,off+n * 6,none⟩)→VsAt P W (.slice a' n' c') (us.drop n)):=fun a' n' c' h1 h2 h3=>by
         subst h1 h2
         exact HVu.out.drop n hn2 a' h3
        have HVA:Hid (0<us.length→∃ b off,va=some ⟨b,off,none⟩):=fun h=>by
         obtain ⟨b,off,kv,e,_⟩:=HVu.out.cells.2.2.2 0 h
         exact ⟨b,off,e⟩
        have HQ3:Hid ((us.drop n).length≤F'∧(∀ u∈us.drop n,u∈x::r)∧(us.drop n).length≤r.length+1∧(ps++trip p lv).length+10 * (us.drop n).length≤10 * (r.length+1)+1∧vn - n=(us.drop n).length):=by
         obtain ⟨g1,g2,g3,g4,g5⟩:=HQ2.out
         have hd:(us.drop n).length=us.length - n:=List.length_drop
         refine ⟨by omega,fun u hu=>g2 u (List.mem_of_mem_drop hu),by omega,?_,by omega⟩
         rw [List.length_append,trip_len,hd]
         omega
        obtain ⟨NW,hNW⟩:∃ NW,NW=rowS (trip p lv):=⟨_,rfl⟩
        rw [← hNW] at HNW HO1 HLL HADD
        obtain ⟨us2,hus2⟩:∃ us2,us2=us.drop n:=⟨_,rfl⟩
        have hul:us.length=vn:=HQ2.out.2.2.2.2.symm
        have HUL:=hid_mk hul
        rw [← hus2] at HE HVN HQ3
        clear hnews hone hrob HST hb2 HC HB hot HOK HQ2 et2 hNW hus2 hul hn2 HVu htp
        go_wp2_with (at_builtin;with_reducible refine wpList_append_own_at _ rfl _ _ 47 rfl W.heap.size 46 i0 z0 7 88 Tryz.underlying47 HI0.out HZ0.out HZ1.out HZ2.out HZ3.out (by decide) (.slice oa on oc) ps.length (rowS ps) rfl HOW.out ⟨tb,tof,none⟩ tn tc NW rfl HLL.out HNW.out HO1.out ?c1 ?c2 ?c3 ?_)
        case c1=>unfold maxLen;omega
        case c2=>omega
        case c3=>exact HSZ.out
        intro v3 w3 ho3 hg3 _ hat3
        obtain ⟨hco,hB3⟩:=HADD.out v3 w3 ho3 hg3 hat3
        obtain ⟨xa,xc',rfl⟩:=hco.sl
        have HCO:=hid_mk hco
        have HB3:=hid_mk hB3
        generalize (ps++trip p lv).length=on2 at HCO ⊢
        clear ho3 hg3 hat3 hco hB3 HADD HNW HO1 HLL HOW HSZ HB2
        go_wp2
        refine ⟨⟨F',ps++trip p lv,us2,_,_,_,_,_,_,rfl,rfl,HE,HQ3,HVN.out _ _ _ rfl rfl fun hlt=>?_,HCO,HB3⟩,?_⟩
        ·have hul:=HUL.out
         obtain ⟨b,off,e⟩:=HVA.out (by omega)
         refine ⟨b,off,e,?_⟩
         rw [if_neg (by omega),e]
         show some (Addr.add ⟨b,off,none⟩ (n * 6))=_
         rw [Addr.add_mid]
        ·simp only [Y.sliceLen]
         omega
 case rest =>
 obtain ⟨ps,us,va,vn,vc,oa,on,oc,rfl,rfl,HE,HVu,HC,HB⟩:=hcut
 obtain ⟨oa',oc',ho⟩:=HC.out.sl
 injection ho with ho1 ho2 ho3
 have HON:=hid_mk ho2
 clear ho1 ho2 ho3 HX2 HR0 HV0 HC0 HBx HP HF
 cases ps with
 | nil =>
   have hon:on=0:=HON.out
   subst hon
   have HE2:Hid (R=none):=HE.out
   clear HE HON
   go_wp2
   go_ret3
   rw [HE2.out]
   exact ⟨HB.out,_,_,_,_,_,_,rfl⟩
 | cons q qs =>
   have hon:decide (0<on)=true:=decide_eq_true (by have:=HON.out;simp only [List.length_cons] at this;omega)
   have HE2:Hid (R=some ((q::qs).map prT,us)):=HE.out
   clear HE HON
   go_wp2
   go_ret3
   rw [HE2.out]
   exact ⟨HB.out,_,_,_,_,_,_,rfl,HC.out.rob,HVu.out⟩
theorem in40:∃ i z,Tryz.prog.info? 47=some i∧i.zero=some z∧i.size=1∧i.bytes=24∧z.cells.size=1:=⟨_,_,by rfl,by rfl,by rfl,by rfl,by rfl⟩
theorem in3:∃ i z,Tryz.prog.info? 3=some i∧i.zero=some z∧i.size=1∧i.bytes=8∧z.cells.size=1:=⟨_,_,by rfl,by rfl,by rfl,by rfl,by rfl⟩
theorem own_is {W:World} {B:Nat} {T:TypeId} {s n:Nat} {v:Value} {xs:List Value} (h:W.ownsRow B T s v n xs):∃ a c,v=.slice a n c:=by
 rcases h.2 with ⟨rfl,rfl⟩ | ⟨g,cap,cur,rfl,_⟩
 ·exact ⟨_,_,rfl⟩
 ·exact ⟨_,_,rfl⟩
theorem news1 {w:World} {x:Value} {T:TypeId}:∀ j u,[x][j]? = some u→(w.alloc (.cells #[x] T)).cell? (Addr.add ⟨w.heap.size,0,none⟩ j)=some u:=fun j u hu=>by
 rw [Addr.add_mid,Nat.zero_add,cellAt (heap_alloc_last w _) j]
 simpa using hu
theorem cxK_some {F:Nat} {us:List V} {p:List SX} {v x:V} {r t:List V} (h:cmX us=some (p,v::r)) (ht:trm (v::r)=x::t):cxK (F+1) us=if cmbV x≠0 then preK p (cmbV x) (cxK F (trm t)) else if spB v=true then preK p 1 (cxK F (x::t)) else none:=by
 show cxKC (cxK F) (cmX us)=_
 rw [h]
 show cxKW (cxK F) p (spB v) (trm (v::r))=_
 rw [ht]
 rfl
theorem rcomplex_any (hatt:AttrC) {P0:Nat→Prop} {W:World} {val:Value} {l:List V} (hv:VsAt P0 W val l) (hf:Fit l) (hne:NE l) {N:Nat} (hN:l.length<N)
  (hp:∀ u∈l,∀ (Q:Nat→Prop) (w:World) (kv:Value),Below W.heap.size W w→VsAt Q w kv u.kids→Calls Tryz.prog 8 #[kv] w (PaP w (parseZ u.kids))):Calls Tryz.prog 15 #[val] W (CxO W (cxK N l)):=by
 obtain ⟨i0,z0,hi,hz0,hz1,hz2,hz3⟩:=in40
 obtain ⟨j0,y0,hj,hy0,hy1,hy2,hy3⟩:=in3
 have HI:=hid_mk hi
 have HI0:=hid_mk hz0
 have HI1:=hid_mk hz1
 have HI2:=hid_mk hz2
 have HI3:=hid_mk hz3
 have HJ:=hid_mk hj
 have HJ0:=hid_mk hy0
 have HJ1:=hid_mk hy1
 have HJ2:=hid_mk hy2
 have HJ3:=hid_mk hy3
 clear hi hz0 hz1 hz2 hz3 hj hy0 hy1 hy2 hy3
 have hll:=hf.len
 have HNN:=hid_mk hN
 clear hN
 obtain ⟨R,hR⟩:∃ R,R=cxK N l:=⟨_,rfl⟩
 obtain ⟨va,vcap,rfl,hvc,hvm⟩:=hv.slice
 obtain ⟨W1,hW1⟩:∃ W1,W1=(W.alloc (.cells #[.slice none 0 0,.slice none 0 0] 44)).alloc (.cells #[.slice none 0 0,.slice none 0 0] 44):=⟨_,rfl⟩
 have hB1:Below W.heap.size W W1:=by rw [hW1];exact ((Below.refl _ _).alloc (Nat.le_refl _) _).alloc (by simp) _
 have HGO:Hid (XB W (.slice va l.length vcap) (.slice none 0 0) (.slice none 0 0) [] [] l (fun b=>b<W.heap.size) W1):=by
  refine ⟨?_,?_,CxI.nil _ _,(hv.wider fun b _ h=>h).keep hB1,fun b hb=>⟨Nat.lt_of_lt_of_le hb hB1.size,by omega,by omega,by simp [Value.ownBlock],by simp [Value.ownBlock]⟩,hB1⟩
  ·have e:W.heap.size+1=(W.alloc (.cells #[.slice none 0 0,.slice none 0 0] 44)).heap.size:=by simp
   rw [hW1,e]
   exact heap_alloc_last _ _
  ·rw [hW1,Below.heap_alloc _ _ _ (by simp)]
   exact heap_alloc_last W _
 have HR0:Hid (R=preL (([]:List PX).map (·.2.1)) [] (cxK N l)):=by rw [Hid,hR];exact (preL_nil _).symm
 have HN0:=hid_mk hne
 have HF:=hid_mk hf
 have HP:=hid_mk hp
 have HLL:Hid (l.length=l.length):=rfl
 rw [← hR]
 clear hv hf hne hp hR hB1
 obtain ⟨LN,hLN⟩:∃ LN,LN=l.length:=⟨_,rfl⟩
 have HLN:=hid_mk hLN
 rw [← hLN] at hll hvc HGO HLL ⊢
 clear hLN
 go_enter Tryz.func15,Tryz.ntmps15
 go_upto_block 0 with fail
 rw [← hW1]
 have HW1:=hid_mk hW1
 clear hW1
 go_wp2
 go_loopw [0] (fun a0 wq=>∃ (F:Nat) (us:List V) (v:Value) (an ac:Nat) (aa:Option Addr) (pv cv:Value) (ps:List PX) (ks:List Int) (P:Nat→Prop),a0=.slice aa an ac∧v=.slice aa an ac∧Hid (an=us.length)∧Hid (XB W v pv cv ps ks us P wq)∧Hid (R=preL (ps.map (·.2.1)) ks (cxK F us))∧Hid (us.length<F∧(∀ u∈us,u∈l)∧NE us∧ps.length+us.length≤l.length∧ks.length=ps.length)) (fun a0 _=>Y.sliceLen a0)
 case atStart =>
  refine ⟨N,l,_,LN,vcap,va,_,_,[],[],_,rfl,rfl,HLN,HGO,HR0,?_⟩
  exact ⟨HNN.out,fun u hu=>hu,HN0.out,by simp,rfl⟩
 case round =>
  obtain ⟨F,us,v,an,ac,aa,pv,cv,ps,ks,P,rfl,rfl,HAN,HX,HR,HQ⟩:=hrel
  clear HGO HR0 HN0 HLL HW1
  obtain ⟨hF,hmem,hne,hla,hlk⟩:=HQ.out
  obtain ⟨F',rfl⟩:∃ F',F=F'+1:=⟨F - 1,by omega⟩
  have hfu:Fit us:=HF.out.sub (by omega) hmem
  have hco:=rcompound_any hatt HX.out.vs hfu (fun u hu w kv hb hk=>HP.out u (hmem u hu) _ w kv (HX.out.bel.trans (hb.mono HX.out.bel.size)) hk)
  have hanc:an≤ac∧ac≤9223372036854775807:=by
   obtain ⟨a',c',e',h1,h2⟩:=HX.out.vs.slice
   injection e' with _ e2 e3
   omega
  have hpl3:ps.length≤100000∧ks.length≤100000:=by have:=HLN.out;omega
  clear hF hmem hne hla hlk
  obtain ⟨pa,pc,rfl⟩:=own_is HX.out.cx.po
  obtain ⟨ca,cc,rfl⟩:=own_is HX.out.cx.ko
  go_wp2_with (go_at_call 30;fail)
  refine hco.mono ?_
  rintro e w1 ⟨hb1,hq⟩
  have hk1:=HX.out.keep hb1
  rcases hcm:cmX us with _ | ⟨p,r⟩
  ·rw [hcm] at hq
   obtain ⟨xa,xn,xc,ra,rn,rc,rfl⟩:=hq
   have HRN:Hid (R=none):=by
    rw [Hid,HR.out]
    show preL _ _ (cxKC (cxK F') (cmX us))=none
    rw [hcm]
    rfl
   obtain ⟨k0,k1,f0,f1⟩:=two_cells hk1.res
   have HK:=hid_mk hk1
   clear hco hb1 hk1 hcm HR HQ HX HAN hfu
   go_wp2
   rw [HRN.out]
   obtain ⟨g1,g2,g3⟩:=HK.out.no _ rfl
   exact bodyPost_ret (results37 _ _ W.heap.size false _ _ rfl rfl g2 g3) rfl ⟨g1,_,_,_,_,_,_,rfl⟩
  ·rw [hcm] at hq
   obtain ⟨xa,xn,xc,ra,rn,rc,rfl,⟨lv,hrob⟩,hvr⟩:=hq
   obtain ⟨hrl,hrm,hrn⟩:=cmX_ok hcm
   obtain ⟨k0,k1,f0,f1⟩:=two_cells hk1.out
   have HOW:Hid ((w1.alloc (.cells #[.slice xa xn xc] 47)).ownsRow (W.heap.size+2) 47 1 (.slice pa ps.length pc) ps.length (ps.map (·.1))):=hk1.cx.po.alloc _
   have HNE:Hid (∀ v2 w2,w2.ownsRow (W.heap.size+2) 47 1 v2 (ps.length+1) (ps.map (·.1)++[.slice xa xn xc])→(w1.alloc (.cells #[.slice xa xn xc] 47)).grownBy w2 (Value.slice pa ps.length pc).ownBlock→(v2.ownBlock=(Value.slice pa ps.length pc).ownBlock∨v2.ownBlock=some (w1.heap.size+1))→w2.heap[W.heap.size+1]? = some (.cells #[.slice pa ps.length pc,.slice ca ks.length cc] 44 (0,0))∧XB W (.slice ra rn rc) v2 (.slice ca ks.length cc) (ps++[(.slice xa xn xc,p,lv)]) ks r P (w2.setCell ⟨W.heap.size+1,0,none⟩ v2)):=fun v2 w2 h1 h2 h3=>HX.out.part hb1 ⟨_,_,_,rfl⟩ hrob hvr h1 h2 h3
   have HSZ:Hid (W.heap.size+2≤(w1.alloc (.cells #[.slice xa xn xc] 47)).heap.size):=by
    have:=hk1.szl
    rw [Hid,World.size_alloc]
    omega
   have HON:=hid_mk (news1 (w:=w1) (x:=.slice xa xn xc) (T:=47))
   have hrs:rn=r.length∧rn≤rc∧rc≤9223372036854775807:=by
    obtain ⟨a',c',e',h1,h2⟩:=hvr.slice
    injection e' with _ e2 e3
    omega
   have HRS:=hid_mk hrs
   have HRL:=hid_mk hrl
   have HRM:=hid_mk hrm
   have HRE:=hid_mk (hrn HQ.out.2.2.1)
   have HCM:=hid_mk hcm
   generalize hpn:ps.length=pn at *
   generalize hkn:ks.length=kn at *
   have HPN:=hid_mk hpn
   have HKN:=hid_mk hkn
   clear hco hb1 hk1 hrob hvr hrs hrl hrm hrn hcm hpn hkn HX hfu
   go_wp2_with (at_builtin;with_reducible refine wpList_append_own_at _ rfl _ _ 41 rfl (W.heap.size+2) 47 i0 z0 1 24 Tryz.underlying41 HI.out HI0.out HI1.out HI2.out HI3.out (by decide) (.slice pa pn pc) pn (ps.map (·.1)) rfl HOW.out ⟨w1.heap.size,0,none⟩ 1 1 [.slice xa xn xc] rfl rfl HON.out ?c0 ?c1 ?c2 ?c3 ?_)
   case c0=>simp [Value.oneCell']
   case c1=>unfold maxLen;omega
   case c2=>omega
   case c3=>exact HSZ.out
   intro v2 w2 ho2 hg2 _ hat2
   obtain ⟨o2,hX2⟩:=HNE.out v2 w2 ho2 hg2 hat2
   obtain ⟨qa,qc,rfl⟩:=own_is ho2
   obtain ⟨d0,d1,g0,g1⟩:=two_cells o2
   obtain ⟨w3,hw3⟩:∃ w3,w3=w2.setCell ⟨W.heap.size+1,0,none⟩ (.slice qa (pn+1) qc):=⟨_,rfl⟩
   rw [← hw3] at hX2
   have HX3:=hid_mk hX2
   have HW3:=hid_mk hw3
   clear HNE HON HSZ HOW ho2 hg2 hat2 o2 hX2 hw3 k0 k1 f0 f1
   obtain ⟨k0,k1,f0,f1⟩:=two_cells HX3.out.out
   obtain ⟨t0,t1,h0,h1⟩:=two_cells HX3.out.res
   go_upto_region 6 with fail
   rw [← HW3.out]
   clear HW3 d0 d1 g0 g1
   cases r with
   | nil =>
     obtain ⟨e1,hr2,hr3⟩:=HRS.out
     have e1':rn=0:=e1
     subst e1'
     have HRN:Hid (R=some ((ps++[((.slice xa xn xc:Value),p,lv)]).map (·.2.1),ks)):=by
      rw [Hid,HR.out]
      show preL _ _ (cxKC (cxK F') (cmX us))=_
      rw [HCM.out]
      show some (_,_)=_
      simp
     clear HR HQ HCM HRS HRL HRM HRE e1
     go_wp2
     rw [HRN.out]
     obtain ⟨s1,s2,s3,s4⟩:=HX3.out.end _ rfl
     exact bodyPost_ret (results37 _ _ W.heap.size true _ _ rfl rfl s3 s4) rfl ⟨s1,_,_,_,_,_,_,rfl,s2⟩
   | cons x0 r0 =>
     obtain ⟨hr1,hr2,hr3⟩:=HRS.out
     have hrn0:((rn:Int) == 0)=false:=by
      rw [beq_eq_false_iff_ne]
      simp only [List.length_cons] at hr1
      omega
     have hrnp:0<rn:=by rw [hr1];simp
     have hrlen:(x0::r0).length≤100000:=by
      have h1:=HRL.out
      have h2:=HQ.out.2.2.2.1
      have h3:=HLN.out
      omega
     have htr:=trim_any HX3.out.vs hrlen
     obtain ⟨y,t,hyt⟩:∃ y t,trm (x0::r0)=y::t:=by
      have h1:=HRE.out.some (by simp)
      rw [← trm_ne HRE.out] at h1
      cases h:trm (x0::r0) with
      | nil=>exact absurd h h1
      | cons y t=>exact ⟨y,t,rfl⟩
     have htl:t.length+1≤r0.length+1:=by
      have:=trm_len (x0::r0)
      rw [hyt] at this
      simpa using this
     have htm:∀ u∈y::t,u∈us:=fun u hu=>HRM.out u (trm_mem _ u (by rw [hyt];exact hu))
     have HTL:=hid_mk htl
     have HTM:=hid_mk htm
     have HKS:=hid_mk (cxK_some (F:=F') HCM.out hyt)
     have HNT:Hid (NE (y::t)):=by rw [Hid,← hyt];exact trm_NE _
     rw [hyt] at htr
     have HR3:Hid (R=preL (ps.map (·.2.1)) ks (if cmbV y≠0 then preK p (cmbV y) (cxK F' (trm t)) else if spB x0=true then preK p 1 (cxK F' (y::t)) else none)):=by rw [Hid,HR.out,HKS.out]
     obtain ⟨xb,xo,xc',ka,kn',kc,e1,hx1,hx2,hxc,_,_⟩:=HX3.out.vs.item
     injection e1 with ea en ec
     subst ea ec
     have HXC:=hid_mk hxc
     clear hr1 hyt htl htm hrlen hxc en HKS HR HCM HRE k0 k1 f0 f1 t0 t1 h0 h1
     go_wp2_with (go_at_call 16;fail)
     refine htr.mono ?_
     rintro e w4 ⟨ya,yn,yc,rfl,hv4,hyn,hyc,hym,hb4⟩
     have HX4:=hid_mk (HX3.out.trim hb4 hv4)
     have HB4:=hid_mk hb4
     obtain ⟨yb,yo,yc',la,ln,lc,e2,hy1,hy2,hyc2,_,_⟩:=HX4.out.vs.item
     injection e2 with ea2 en2 ec2
     subst ea2 ec2
     obtain ⟨m0,m1,m2,m3,m4,m5⟩:=hyc2 w4 (Below.refl _ _)
     have HYN:=hid_mk hyn
     have hyn0:0<yn:=by rw [hyn];simp
     have HCB:=hid_mk (cmb_eq y)
     have HCC:=hid_mk (cbT_cases (dlT y.tok))
     have hde:=rdelim_any w4 y.tok la ln lc
     unfold vAg at hde
     clear htr hv4 hb4 en2 hy1 hy2 hyc2 hyn
     generalize hD:dlT y.tok=D at *
     have HD:=hid_mk hD
     clear hD
     generalize y.tok=tk at *
     obtain ⟨tk0,tx,un,wh,fl⟩:=tk
     dsimp only at m0 m1 m2 m3 m4 m5 hde
     go_wp2_with (go_at_call 32;fail)
     refine hde.mono ?_
     rintro e w5 ⟨rfl,hb5⟩
     have hcb:=rcomb_any w5 D
     clear hde m0 m1 m2 m3 m4 m5
     go_wp2_with (go_at_call 31;fail)
     refine hcb.mono ?_
     rintro e w6 ⟨rfl,hb6⟩
     have HB46:=hid_mk (hb5.trans (hb6.mono hb5.size))
     have HX6:=hid_mk (HX4.out.keep HB46.out)
     obtain ⟨k0,k1,f0,f1⟩:=two_cells HX6.out.out
     generalize hK:cbT D=K at *
     have HK:=hid_mk hK
     clear hcb hb5 hb6 hK
     rcases HCC.out with hK0 | hKp
     ·subst hK0
      obtain ⟨m0,m1,m2,m3,m4,m5⟩:=HXC.out w6 (HB4.out.trans (HB46.out.mono HB4.out.size))
      have his:=ris_any w6 x0.tok ka kn' kc 13
      unfold vAg at his
      have HSP:Hid (spB x0=(x0.tok.k == 13)):=rfl
      generalize x0.tok=xt at *
      obtain ⟨xt0,xtx,xun,xwh,xfl⟩:=xt
      dsimp only at m0 m1 m2 m3 m4 m5 his HSP
      clear HK HD HCC HXC
      go_wp2_with (go_at_call 29;fail)
      refine his.mono ?_
      rintro e w7 ⟨rfl,hb7⟩
      have HX7:=hid_mk (HX6.out.keep hb7)
      clear his m0 m1 m2 m3 m4 m5 hb7 k0 k1 f0 f1
      obtain ⟨k0,k1,f0,f1⟩:=two_cells HX7.out.out
      cases hsp:(xt0 == 13) with
      | false =>
        have HRN:Hid (R=none):=by
         rw [Hid,HR3.out,HCB.out,HSP.out,hsp]
         rfl
        obtain ⟨t0,t1,h0,h1⟩:=two_cells HX7.out.res
        clear HR3 HQ HRS HRL HRM HTL HTM HNT HX3 HX4 HX6 HB4 HB46
        go_wp2
        rw [HRN.out]
        obtain ⟨s1,s2,s3⟩:=HX7.out.no _ rfl
        exact bodyPost_ret (results37 _ _ W.heap.size false _ _ rfl rfl s2 s3) rfl ⟨s1,_,_,_,_,_,_,rfl⟩
      | true =>
        have HRN:Hid (R=preL ((ps++[((.slice xa xn xc:Value),p,lv)]).map (·.2.1)) (ks++[1]) (cxK F' (y::t))):=by
         rw [Hid,HR3.out,HCB.out,HSP.out,hsp,List.map_append]
         exact preL_pre _ _ _ _ _
        have HOW:Hid ((w7.alloc (.cells #[.int .i64 1] 3)).ownsRow (W.heap.size+2) 3 1 (.slice ca kn cc) kn (ks.map (Value.int .i64))):=by
         have:=HX7.out.cx.ko.alloc (.cells #[.int .i64 1] 3)
         rwa [HKN.out] at this
        have HNC:Hid (∀ v2 w2,w2.ownsRow (W.heap.size+2) 3 1 v2 (kn+1) (ks.map (Value.int .i64)++[.int .i64 1])→(w7.alloc (.cells #[.int .i64 1] 3)).grownBy w2 (Value.slice ca kn cc).ownBlock→(v2.ownBlock=(Value.slice ca kn cc).ownBlock∨v2.ownBlock=some (w7.heap.size+1))→w2.heap[W.heap.size+1]? = some (.cells #[.slice qa (pn+1) qc,.slice ca kn cc] 44 (0,0))∧XB W (.slice (some ⟨yb,yo,none⟩) yn yc) (.slice qa (pn+1) qc) v2 (ps++[(.slice xa xn xc,p,lv)]) (ks++[1]) (y::t) (fun b=>(P b∨w3.heap.size≤b)∧b<w4.heap.size) (w2.setCell ⟨W.heap.size+1,1,none⟩ v2)):=fun v2 w2 g1 g2 g3=>HX7.out.comb (by rw [HKN.out];exact g1) g2 g3
        have HSZ:Hid (W.heap.size+2≤(w7.alloc (.cells #[.int .i64 1] 3)).heap.size):=by
         have:=HX7.out.szl
         rw [Hid,World.size_alloc]
         omega
        have HON:=hid_mk (news1 (w:=w7) (x:=.int .i64 1) (T:=3))
        go_wp2_with (at_builtin;with_reducible refine wpList_append_own_at _ rfl _ _ 42 rfl (W.heap.size+2) 3 j0 y0 1 8 Tryz.underlying42 HJ.out HJ0.out HJ1.out HJ2.out HJ3.out (by decide) (.slice ca kn cc) kn (ks.map (Value.int .i64)) rfl HOW.out ⟨w7.heap.size,0,none⟩ 1 1 [.int .i64 1] rfl rfl HON.out ?c0 ?c1 ?c2 ?c3 ?_)
        case c0=>simp [Value.oneCell']
        case c1=>unfold maxLen;omega
        case c2=>omega
        case c3=>exact HSZ.out
        intro v8 w8 ho8 hg8 _ hat8
        obtain ⟨o8,hX8⟩:=HNC.out v8 w8 ho8 hg8 hat8
        obtain ⟨sa,sc,rfl⟩:=own_is ho8
        obtain ⟨d0,d1,g0,g1⟩:=two_cells o8
        have HX9:=hid_mk hX8
        clear HNC HON HSZ HOW ho8 hg8 hat8 o8 hX8 k0 k1 f0 f1
        go_wp2
        refine ⟨⟨F',y::t,_,yn,yc,some ⟨yb,yo,none⟩,_,_,_,_,_,rfl,rfl,HYN,HX9,HRN,?_⟩,?_⟩
        ·obtain ⟨a1,a2,a3,a4,a5⟩:=HQ.out
         have b1:=HTL.out
         have b2:=HRL.out
         have b3:=HPN.out
         have b4:=HKN.out
         simp only [List.length_cons,List.length_append,List.length_nil] at b2 ⊢
         exact ⟨by omega,fun u hu=>a2 u (HTM.out u hu),HNT.out,by omega,by omega⟩
        ·have b1:=HTL.out
         have b2:=HRL.out
         have b3:=HYN.out
         have b4:=HAN.out
         simp only [Y.sliceLen,List.length_cons] at b2 b3 ⊢
         omega
     ·have hKd:decide (0<K)=true:=decide_eq_true hKp
      have HRN:Hid (R=preL ((ps++[((.slice xa xn xc:Value),p,lv)]).map (·.2.1)) (ks++[K]) (cxK F' (trm t))):=by
       have hne0:cmbV y≠0:=by rw [HCB.out];omega
       rw [Hid,HR3.out,if_pos hne0,HCB.out,List.map_append]
       exact preL_pre _ _ _ _ _
      clear HK HD HCC HXC
      have HOW:Hid ((w6.alloc (.cells #[.int .i64 K] 3)).ownsRow (W.heap.size+2) 3 1 (.slice ca kn cc) kn (ks.map (Value.int .i64))):=by
       have:=HX6.out.cx.ko.alloc (.cells #[.int .i64 K] 3)
       rwa [HKN.out] at this
      have HNC:Hid (∀ v2 w2,w2.ownsRow (W.heap.size+2) 3 1 v2 (kn+1) (ks.map (Value.int .i64)++[.int .i64 K])→(w6.alloc (.cells #[.int .i64 K] 3)).grownBy w2 (Value.slice ca kn cc).ownBlock→(v2.ownBlock=(Value.slice ca kn cc).ownBlock∨v2.ownBlock=some (w6.heap.size+1))→w2.heap[W.heap.size+1]? = some (.cells #[.slice qa (pn+1) qc,.slice ca kn cc] 44 (0,0))∧XB W (.slice (some ⟨yb,yo,none⟩) yn yc) (.slice qa (pn+1) qc) v2 (ps++[(.slice xa xn xc,p,lv)]) (ks++[K]) (y::t) (fun b=>(P b∨w3.heap.size≤b)∧b<w4.heap.size) (w2.setCell ⟨W.heap.size+1,1,none⟩ v2)):=fun v2 w2 g1 g2 g3=>HX6.out.comb (by rw [HKN.out];exact g1) g2 g3
      have HSZ:Hid (W.heap.size+2≤(w6.alloc (.cells #[.int .i64 K] 3)).heap.size):=by
       have:=HX6.out.szl
       rw [Hid,World.size_alloc]
       omega
      have HON:=hid_mk (news1 (w:=w6) (x:=.int .i64 K) (T:=3))
      go_wp2_with (at_builtin;with_reducible refine wpList_append_own_at _ rfl _ _ 42 rfl (W.heap.size+2) 3 j0 y0 1 8 Tryz.underlying42 HJ.out HJ0.out HJ1.out HJ2.out HJ3.out (by decide) (.slice ca kn cc) kn (ks.map (Value.int .i64)) rfl HOW.out ⟨w6.heap.size,0,none⟩ 1 1 [.int .i64 K] rfl rfl HON.out ?c0 ?c1 ?c2 ?c3 ?_)
      case c0=>simp [Value.oneCell']
      case c1=>unfold maxLen;omega
      case c2=>omega
      case c3=>exact HSZ.out
      intro v8 w8 ho8 hg8 _ hat8
      obtain ⟨o8,hX8⟩:=HNC.out v8 w8 ho8 hg8 hat8
      obtain ⟨sa,sc,rfl⟩:=own_is ho8
      obtain ⟨d0,d1,g0,g1⟩:=two_cells o8
      have HX9:=hid_mk hX8
      clear HNC HON HSZ HOW ho8 hg8 hat8 o8 hX8 k0 k1 f0 f1
      obtain ⟨w9,hw9⟩:∃ w9,w9=w8.setCell ⟨W.heap.size+1,1,none⟩ (.slice sa (kn+1) sc):=⟨_,rfl⟩
      rw [← hw9] at HX9
      obtain ⟨zb,zo,zc,ma,mn,mc,e3,hz1,hz2,_,_,hzt⟩:=HX9.out.vs.item
      injection e3 with ea3 en3 ec3
      injection ea3 with ea3
      injection ea3 with ea3 ea4
      subst ea3 ea4 ec3
      have HZT:=hid_mk hzt
      have htlen:t.length≤100000:=by
       have b1:=HTL.out
       have b2:=HRL.out
       have b3:=HQ.out.2.2.2.1
       have b4:=HLN.out
       simp only [List.length_cons] at b2
       omega
      have HTR:Hid (∀ a' n' c',VsAt (fun b=>(P b∨w3.heap.size≤b)∧b<w4.heap.size) w9 (.slice a' n' c') t→Calls Tryz.prog 16 #[.slice a' n' c'] w9 fun e w'=>∃ a n c,e=.returned (.slice a n c)∧XB W (.slice a n c) (.slice qa (pn+1) qc) (.slice sa (kn+1) sc) (ps++[(.slice xa xn xc,p,lv)]) (ks++[K]) (trm t) (fun b=>(((P b∨w3.heap.size≤b)∧b<w4.heap.size)∨w9.heap.size≤b)∧b<w'.heap.size) w'∧n=(trm t).length):=fun a' n' c' hv=>(trim_any hv htlen).mono fun e w' h=>by
       obtain ⟨a,n,c,q1,q2,q3,_,_,q6⟩:=h
       exact ⟨a,n,c,q1,(HX9.out.list hv HX9.out.pl).trim q6 q2,q3⟩
      have hyl:yn=t.length+1:=HYN.out
      have HW9:=hid_mk hw9
      have HTN:Hid (t.length+1=yn):=hyl.symm
      clear hzt en3 hz1 hz2 hw9 hyl HX9
      go_upto_region 12 with fail
      rw [← HW9.out]
      clear HW9 d0 d1 g0 g1
      go_wp2_with (go_at_call 16;fail)
      ·refine (HTR.out _ _ _ (HZT.out _ _ _ (by have:=HTN.out;omega) (by omega) (fun h=>by have:=HTN.out;omega))).mono ?_
       rintro e w10 ⟨a,n,c,rfl,hX10,hn10⟩
       have HX10:=hid_mk hX10
       have HN10:=hid_mk hn10
       clear hX10 hn10 HTR HZT
       go_wp2
       refine ⟨⟨F',trm t,_,n,c,a,_,_,_,_,_,rfl,rfl,HN10,HX10,HRN,?_⟩,?_⟩
       ·obtain ⟨a1,a2,a3,a4,a5⟩:=HQ.out
        have b1:=HTL.out
        have b2:=HRL.out
        have b3:=HPN.out
        have b4:=HKN.out
        have b5:=trm_len t
        simp only [List.length_cons,List.length_append,List.length_nil] at b2 ⊢
        exact ⟨by omega,fun u hu=>a2 u (HTM.out u (by simp [trm_mem t u hu])),trm_NE t,by omega,by omega⟩
       ·have b1:=HTL.out
        have b2:=HRL.out
        have b4:=HAN.out
        have b5:=trm_len t
        have b6:=HN10.out
        simp only [Y.sliceLen,List.length_cons] at b2 ⊢
        omega
      ·refine (HTR.out _ _ _ (HZT.out _ _ _ (by have:=HTN.out;omega) (by omega) (fun h=>rfl))).mono ?_
       rintro e w10 ⟨a,n,c,rfl,hX10,hn10⟩
       have HX10:=hid_mk hX10
       have HN10:=hid_mk hn10
       clear hX10 hn10 HTR HZT
       go_wp2
       refine ⟨⟨F',trm t,_,n,c,a,_,_,_,_,_,rfl,rfl,HN10,HX10,HRN,?_⟩,?_⟩
       ·obtain ⟨a1,a2,a3,a4,a5⟩:=HQ.out
        have b1:=HTL.out
        have b2:=HRL.out
        have b3:=HPN.out
        have b4:=HKN.out
        have b5:=trm_len t
        simp only [List.length_cons,List.length_append,List.length_nil] at b2 ⊢
        exact ⟨by omega,fun u hu=>a2 u (HTM.out u (by simp [trm_mem t u hu])),trm_NE t,by omega,by omega⟩
       ·have b1:=HTL.out
        have b2:=HRL.out
        have b4:=HAN.out
        have b5:=trm_len t
        have b6:=HN10.out
        simp only [Y.sliceLen,List.length_cons] at b2 ⊢
        omega
end Go.Proofs.YtdneaeokljoijaaGreatDoor.L
