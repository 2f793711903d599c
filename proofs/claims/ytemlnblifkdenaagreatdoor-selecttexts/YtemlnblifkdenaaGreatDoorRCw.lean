/- gouacheref05.compound: the walk. -/
import Derived.Test.YtemlnblifkdenaaGreatDoorRCo
set_option maxRecDepth 100000
set_option maxHeartbeats 8000000
namespace Go.Proofs.YtemlnblifkdenaaGreatDoor.L
open Go.RowKit
theorem allO_cons {α β:Type} (f:α→Option β) (a:α) (r:List α):allO f (a::r)=match f a with
  | none=>none
  | some b=>match allO f r with
    | none=>none
    | some l=>some (b::l):=rfl
theorem allO_app {α β:Type} {f:α→Option β}:∀ (a b:List α),allO f (a++b)=match allO f a with
  | none=>none
  | some x=>match allO f b with
    | none=>none
    | some y=>some (x++y)
 | [],b=>by
   rw [List.nil_append,show allO f []=some [] from rfl]
   simp only []
   cases allO f b <;> rfl
 | c::a,b=>by
   have ih:=allO_app (f:=f) a b
   rw [List.cons_append,allO_cons,allO_cons]
   cases f c with
   | none=>rfl
   | some d =>
     simp only []
     rw [ih]
     cases allO f a with
     | none=>rfl
     | some x =>
       simp only []
       cases allO f b with
       | none=>rfl
       | some y=>rfl
def goC (ps:List Sv) (r:List V):Option (List SX×List V):=if stopB r=true then (match allO (fS parseZ) ps with | none=>none | some q=>some (q,r)) else none
theorem goC_app (ls ps:List Sv) (r:List V):goC (ls++ps) r=match allO (fS parseZ) ls with
  | none=>none
  | some q=>preC q (goC ps r):=by
 unfold goC
 cases stopB r with
 | false =>
   simp only [Bool.false_eq_true,if_false]
   cases allO (fS parseZ) ls <;> rfl
 | true =>
   simp only [if_true]
   rw [allO_app]
   cases allO (fS parseZ) ls with
   | none=>rfl
   | some q =>
     simp only []
     cases allO (fS parseZ) ps with
     | none=>rfl
     | some y=>rfl
theorem cmF_go:∀ (f:Nat) (us:List V),us.length≤f→cmF f us=goC (othZ us).1 (othZ us).2
 | 0,us,h=>by
   have:us=[]:=List.length_eq_zero_iff.1 (by omega)
   subst this
   rfl
 | f+1,us,h=>by
   by_cases h0:us=[]
   ·subst h0
    rfl
   rw [cmF_step h0,ot_main us h0]
   unfold otY
   cases ho:otherR us with
   | none =>
     rw [othZ_none ho]
     unfold goC
     simp only []
     cases stopB us with
     | true=>rfl
     | false=>rfl
   | some x =>
     obtain ⟨ls,n⟩:=x
     obtain ⟨_,_,h1,h2,_⟩:=otherR_ok us ls n ho
     rw [othZ_some ho]
     simp only []
     rw [goC_app]
     cases allO (fS parseZ) ls with
     | none=>rfl
     | some q =>
       simp only [stC]
       rw [if_neg (by omega),cmF_go f (us.drop n) (by rw [List.length_drop];omega)]
theorem ba_star {s:ByteArray} (h:(s.toList == [42])=true):s=⟨#[42]⟩:=by
 have h:s.toList=[42]:=by simpa using h
 rw [ByteArray.toList_eq] at h
 obtain ⟨d⟩:=s
 have e:d=#[42]:=by
  cases d with
  | mk l =>
    have:l=[42]:=h
    rw [this]
 rw [e]
theorem fold_star:foldS ⟨#[42]⟩=⟨#[42]⟩:=by kernel_rfl
theorem starB_l:starB.toList=[42]:=by kernel_rfl
theorem goC_tag (s:S6) (hs:s.k=1) (ps:List Sv) (r:List V):goC ((s,[])::ps) r=preC [(s,[])] (goC ps r):=by
 have h:=goC_app [(s,[])] ps r
 rw [List.singleton_append] at h
 rw [h,allO_one]
 have e:fS parseZ (s,[])=some (s,[]):=by
  show (if lstB s.k=true then _ else _)=_
  rw [hs]
  rfl
 rw [e]
theorem cmX_go (l:List V):cmX l=match compR l with
  | ([],_)=>none
  | (p::ps,r)=>goC (p::ps) r:=by
 have key:preC (tgX l).1 (cmF l.length (tgX l).2)=goC (compR l).1 (compR l).2:=by
  unfold compR tgX
  cases l with
  | nil=>rfl
  | cons v r =>
    have ht:tagR (v::r)=if (v.tok.k == 1 || (v.tok.k == 9 && (v.tok.tx.toList == [42])))=true then some ([⟨1,foldS v.tok.tx,0,⟨#[]⟩,0,0⟩],1) else none:=by
     rw [← starB_l]
     rfl
    rw [ht]
    simp only []
    rw [dl_is]
    cases h1:(v.tok.k == 1) with
    | true =>
      simp only [Bool.true_or,if_true]
      rw [cmF_go _ r (by simp)]
      exact (goC_tag ⟨1,foldS v.tok.tx,0,⟨#[]⟩,0,0⟩ rfl _ _).symm
    | false =>
      simp only [Bool.false_or,Bool.false_eq_true,if_false]
      cases h2:(v.tok.k == 9 && (v.tok.tx.toList == [42])) with
      | true =>
        rw [Bool.and_eq_true] at h2
        simp only [if_true]
        rw [cmF_go _ r (by simp),ba_star h2.2,fold_star]
        exact (goC_tag ⟨1,⟨#[42]⟩,0,⟨#[]⟩,0,0⟩ rfl _ _).symm
      | false =>
        simp only [Bool.false_eq_true,if_false]
        rw [cmF_go _ (v::r) (Nat.le_refl _)]
        show preC [] (goC (othZ (v::r)).1 (othZ (v::r)).2)=goC (othZ (v::r)).1 (othZ (v::r)).2
        cases goC (othZ (v::r)).1 (othZ (v::r)).2 <;> rfl
 unfold cmX
 rw [key]
 obtain ⟨ps,r⟩:=compR l
 cases ps with
 | nil =>
   simp only [goC]
   split <;> rfl
 | cons p ps =>
   simp only []
   unfold goC
   cases stopB r with
   | false=>rfl
   | true =>
     simp only [if_true]
     cases ha:allO (fS parseZ) (p::ps) with
     | none=>rfl
     | some q =>
       have:=allO_len ha
       cases q with
       | nil=>simp at this
       | cons x q=>rfl
abbrev CK:=List (List SX)×List Int
def preK (p:List SX) (k:Int):Option CK→Option CK
 | none=>none
 | some (qs,ks)=>some (p::qs,k::ks)
def cxKW (f:List V→Option CK) (p:List SX) (sp:Bool):List V→Option CK
 | []=>none
 | u::us=>if cmbV u≠0 then preK p (cmbV u) (f (trm us)) else if sp=true then preK p 1 (f (u::us)) else none
def cxKV (f:List V→Option CK) (p:List SX) (r:List V):Option CK:=match r with
 | []=>some ([p],[])
 | v::_=>cxKW f p (spB v) (trm r)
def cxKC (f:List V→Option CK):Option (List SX×List V)→Option CK
 | none=>none
 | some (p,r)=>cxKV f p r
def cxK:Nat→List V→Option CK
 | 0,_=>none
 | n+1,l=>cxKC (cxK n) (cmX l)
def rdC:Option Cv→Option CK
 | none=>none
 | some c=>match allO (allO (fS parseZ)) c.1 with
   | none=>none
   | some ps=>some (ps,c.2)
theorem rd_pre (p:List Sv) (k:Int) (o:Option Cv):rdC (pre p k o)=match allO (fS parseZ) p with
  | none=>none
  | some q=>preK q k (rdC o):=by
 cases o with
 | none=>cases allO (fS parseZ) p <;> rfl
 | some c =>
   obtain ⟨qs,ks⟩:=c
   show (match allO (allO (fS parseZ)) (p::qs) with | none=>none | some ps=>some (ps,k::ks))=_
   rw [allO_cons]
   cases allO (fS parseZ) p with
   | none=>rfl
   | some q =>
     simp only [rdC]
     cases allO (allO (fS parseZ)) qs with
     | none=>rfl
     | some x=>rfl
theorem cxK_rd:∀ (n:Nat) (l:List V),cxK n l=rdC (cxU n l)
 | 0,_=>rfl
 | n+1,l=>by
   have ih:=cxK_rd n
   unfold cxK cxU
   rw [cmX_go]
   obtain ⟨ps,r⟩:=compR l
   cases ps with
   | nil=>rfl
   | cons p ps =>
     simp only []
     unfold goC
     cases stopB r with
     | false=>rfl
     | true =>
       simp only [if_true,Bool.true_eq_false,if_false]
       cases ha:allO (fS parseZ) (p::ps) with
       | none =>
         show none=_
         cases r with
         | nil =>
           show none=rdC (some ([p::ps],[]))
           simp only [rdC]
           rw [allO_cons,ha]
         | cons v r =>
           show none=rdC (cxW (cxU n) (p::ps) (spB v) (trm (v::r)))
           cases trm (v::r) with
           | nil=>rfl
           | cons u us =>
             show none=rdC (if cmbV u≠0 then pre (p::ps) (cmbV u) (cxU n (trm us)) else if spB v=true then pre (p::ps) 1 (cxU n (u::us)) else none)
             split
             ·rw [rd_pre,ha]
             ·split
              ·rw [rd_pre,ha]
              ·rfl
       | some q =>
         show cxKV (cxK n) q r=_
         cases r with
         | nil =>
           show some ([q],[])=rdC (some ([p::ps],[]))
           simp only [rdC]
           rw [allO_cons,ha]
           rfl
         | cons v r =>
           show cxKW (cxK n) q (spB v) (trm (v::r))=rdC (cxW (cxU n) (p::ps) (spB v) (trm (v::r)))
           cases trm (v::r) with
           | nil=>rfl
           | cons u us =>
             show (if cmbV u≠0 then preK q (cmbV u) (cxK n (trm us)) else if spB v=true then preK q 1 (cxK n (u::us)) else none)=rdC (if cmbV u≠0 then pre (p::ps) (cmbV u) (cxU n (trm us)) else if spB v=true then pre (p::ps) 1 (cxU n (u::us)) else none)
             split
             ·rw [rd_pre,ha,ih]
             ·split
              ·rw [rd_pre,ha,ih]
              ·rfl
theorem own_typ {w:World} {B n s g:Nat} {T:TypeId} {v:Value} {xs:List Value} (h:w.ownsRow B T s v n xs) (e:v.ownBlock=some g):∃ c,w.heap[g]? = some (.cells c T (0,0)):=by
 rcases h.2 with ⟨rfl,_⟩ | ⟨g',cap,cur,rfl,h1,h2,_⟩
 ·cases e
 ·cases e
  exact ⟨cur,h2⟩
abbrev PX:=Value×List SX×(Nat→Value)
structure CxI (B:Nat) (w:World) (pv cv:Value) (ps:List PX) (ks:List Int):Prop where
 po:w.ownsRow B 40 1 pv ps.length (ps.map (·.1))
 ko:w.ownsRow B 3 1 cv ks.length (ks.map (Value.int .i64))
 ls:∀ x∈ps,(∃ a n c,x.1=.slice a n c)∧∃ lo hi,B≤lo∧hi≤w.heap.size∧Rob lo hi w (fun w2=>PtL w2 x.1 x.2.1 x.2.2)∧(∀ g,pv.ownBlock=some g→g<lo∨hi≤g)∧∀ g,cv.ownBlock=some g→g<lo∨hi≤g
theorem CxI.nil (B:Nat) (w:World):CxI B w (.slice none 0 0) (.slice none 0 0) [] []:=⟨World.ownsRow_nil _ _ _ _,World.ownsRow_nil _ _ _ _,fun x hx=>absurd hx (by simp)⟩
theorem CxI.stay {B:Nat} {w w':World} {pv cv:Value} {ps:List PX} {ks:List Int} (h:CxI B w pv cv ps ks) (hs:w.heap.size≤w'.heap.size) (hk:∀ k,B≤k→k<w.heap.size→w'.heap[k]? = w.heap[k]?):CxI B w' pv cv ps ks:=by
 refine ⟨own_stay h.po fun g hg hB _=>hk g hB hg,own_stay h.ko fun g hg hB _=>hk g hB hg,fun x hx=>?_⟩
 obtain ⟨h1,lo,hi,h2,h3,h4,h5,h6⟩:=h.ls x hx
 exact ⟨h1,lo,hi,h2,Nat.le_trans h3 hs,h4.to fun k hk1 hk2=>hk k (by omega) (by omega),h5,h6⟩
theorem CxI.keep {B:Nat} {w w':World} {pv cv:Value} {ps:List PX} {ks:List Int} (h:CxI B w pv cv ps ks) (hb:Below w.heap.size w w'):CxI B w' pv cv ps ks:=h.stay hb.size fun k _ hk=>hb.block k hk
theorem CxI.set {B:Nat} {w:World} {pv cv:Value} {ps:List PX} {ks:List Int} (h:CxI B w pv cv ps ks) {o:Nat} (i:Nat) (x:Value) (ho:o<B):CxI B (w.setCell ⟨o,i,none⟩ x) pv cv ps ks:=h.stay (by simp) fun k hk _=>heap_ne (by omega)
theorem rows_ne {B:Nat} {w:World} {pv cv:Value} {ps:List PX} {ks:List Int} (h:CxI B w pv cv ps ks) {g:Nat} (hp:pv.ownBlock=some g) (hc:cv.ownBlock=some g):False:=by
 obtain ⟨c,h1⟩:=own_typ h.po hp
 obtain ⟨d,h2⟩:=own_typ h.ko hc
 rw [h1] at h2
 injection h2 with h2
 injection h2 with _ h2
 cases h2
theorem CxI.part {B:Nat} {w0 w w2:World} {pv cv pv2 u:Value} {o:Obj} {ps:List PX} {ks:List Int} {p:List SX} {lv:Nat→Value} (h:CxI B w0 pv cv ps ks) (hb:Below w0.heap.size w0 w) (hB:B≤w0.heap.size) (hu:∃ a n c,u=.slice a n c) (hr:Rob w0.heap.size w.heap.size w fun w2=>PtL w2 u p lv)
  (ho:w2.ownsRow B 40 1 pv2 (ps.length+1) (ps.map (·.1)++[u])) (hg:(w.alloc o).grownBy w2 pv.ownBlock) (hat:pv2.ownBlock=pv.ownBlock∨pv2.ownBlock=some (w.heap.size+1)):CxI B w2 pv2 cv (ps++[(u,p,lv)]) ks:=by
 have hk:=(h.keep hb).keep ((Below.refl w.heap.size w).alloc (Nat.le_refl _) o)
 have hsz:(w.alloc o).heap.size=w.heap.size+1:=by simp
 have hsz2:w.heap.size+1≤w2.heap.size:=by have:=hg.size;omega
 have hst:∀ k,k<w.heap.size+1→pv.ownBlock≠some k→w2.heap[k]? = (w.alloc o).heap[k]?:=fun k h1 h2=>hg.block k (by omega) (fun e=>h2 e.symm)
 refine ⟨by rw [List.length_append,List.map_append];exact ho,?_,fun x hx=>?_⟩
 ·refine own_stay hk.ko fun g hgl hBg he=>hst g (by omega) fun e=>rows_ne hk e he
 ·rcases List.mem_append.1 hx with hx | hx
  ·obtain ⟨h1,lo,hi,h2,h3,h4,h5,h6⟩:=hk.ls x hx
   refine ⟨h1,lo,hi,h2,Nat.le_trans h3 (by omega),h4.to fun k hk1 hk2=>hst k (by omega) fun e=>?_,fun g e=>?_,h6⟩
   ·have:=h5 k e
    omega
   ·rcases hat with e2 | e2
    ·exact h5 g (e2.symm.trans e)
    ·rw [e2] at e
     cases e
     have h3':hi≤w.heap.size∨hi=w.heap.size+1:=by omega
     rcases h3' with q | q
     ·exact .inr (by omega)
     ·exact .inr (by omega)
  ·rw [List.mem_singleton.1 hx]
   refine ⟨hu,w0.heap.size,w.heap.size,hB,by omega,?_,fun g e=>?_,fun g e=>?_⟩
   ·refine hr.to fun k hk1 hk2=>?_
    rw [hst k (by omega) fun e=>?_]
    ·exact Below.heap_alloc w o k hk2
    ·have:=(own_blk h.po k e).2
     omega
   ·rcases hat with e2 | e2
    ·exact .inl (own_blk h.po g (e2.symm.trans e)).2
    ·rw [e2] at e
     cases e
     exact .inr (by omega)
   ·exact .inl (own_blk h.ko g e).2
theorem CxI.comb {B:Nat} {w w2:World} {pv cv cv2:Value} {o:Obj} {ps:List PX} {ks:List Int} {k0:Int} (h:CxI B w pv cv ps ks)
  (ho:w2.ownsRow B 3 1 cv2 (ks.length+1) (ks.map (Value.int .i64)++[.int .i64 k0])) (hg:(w.alloc o).grownBy w2 cv.ownBlock) (hat:cv2.ownBlock=cv.ownBlock∨cv2.ownBlock=some (w.heap.size+1)):CxI B w2 pv cv2 ps (ks++[k0]):=by
 have hk:=h.keep ((Below.refl w.heap.size w).alloc (Nat.le_refl _) o)
 have hsz:(w.alloc o).heap.size=w.heap.size+1:=by simp
 have hsz2:w.heap.size+1≤w2.heap.size:=by have:=hg.size;omega
 have hst:∀ k,k<w.heap.size+1→cv.ownBlock≠some k→w2.heap[k]? = (w.alloc o).heap[k]?:=fun k h1 h2=>hg.block k (by omega) (fun e=>h2 e.symm)
 refine ⟨?_,by rw [List.length_append,List.map_append];exact ho,fun x hx=>?_⟩
 ·refine own_stay hk.po fun g hgl hBg he=>hst g (by omega) fun e=>rows_ne hk he e
 ·obtain ⟨h1,lo,hi,h2,h3,h4,h5,h6⟩:=h.ls x hx
  refine ⟨h1,lo,hi,h2,by omega,h4.to fun k hk1 hk2=>?_,h5,fun g e=>?_⟩
  ·rw [hst k (by omega) fun e=>?_]
   ·exact Below.heap_alloc w o k (by omega)
   ·have:=h6 k e
    omega
  ·rcases hat with e2 | e2
   ·exact h6 g (e2.symm.trans e)
   ·rw [e2] at e
    cases e
    exact .inr (by omega)
def blkV (v:Value):Nat:=match v.ownBlock with
 | some g=>g
 | none=>0
theorem row_in {B:Nat} {w w2:World} {T:TypeId} {v:Value} {n:Nat} {xs:List Value} (h:w.ownsRow B T 1 v n xs) (ha:∀ k,B≤k→k<w.heap.size→w2.heap[k]? = w.heap[k]?):Sl w2 v n (blkV v) 0∧∀ j u,xs[j]? = some u→w2.cell? ⟨blkV v,0+j,none⟩=some u:=by
 have hl:=h.1
 rcases h.2 with ⟨rfl,rfl⟩ | ⟨g,cap,cur,rfl,hB,hg,hc,hm,hs,ht⟩
 ·refine ⟨⟨none,0,rfl,Nat.le_refl _,by decide,fun h=>absurd h (by simp)⟩,fun j u hu=>?_⟩
  have:=(List.getElem?_eq_some_iff.1 hu).1
  omega
 ·have hgl:=(Array.getElem?_eq_some_iff.1 hg).1
  have hg2:=(ha g hB hgl).trans hg
  refine ⟨⟨_,cap,rfl,hc,Nat.le_trans hm (by decide),fun _=>⟨rfl,(Array.getElem?_eq_some_iff.1 hg2).1⟩⟩,fun j u hu=>?_⟩
  show w2.cell? ⟨g,0+j,none⟩=some u
  have hj:=(List.getElem?_eq_some_iff.1 hu).1
  rw [cellAt hg2,Nat.zero_add,← Array.getElem?_toList]
  rw [← ht] at hu
  rwa [List.getElem?_take_of_lt (by omega)] at hu
def CxS (w:World) (pv cv:Value) (c:Cx):Prop:=∃ bc oc bp op qv bq oq lv,CxAt (ClAt w) w pv cv c bc oc bp op qv bq oq lv
theorem CxI.rob {B:Nat} {w:World} {pv cv:Value} {ps:List PX} {ks:List Int} (h:CxI B w pv cv ps ks):Rob B w.heap.size w fun w2=>CxS w2 pv cv (.mk (ps.map (·.2.1)) ks):=fun w2 ha=>by
 obtain ⟨p1,p2⟩:=row_in h.po ha
 obtain ⟨k1,k2⟩:=row_in h.ko ha
 have hpt:∀ j,∃ q:Nat×Nat,∀ (hj:j<ps.length),Sl w2 (ps[j]'hj).1 (ps[j]'hj).2.1.length q.1 q.2∧(∀ t (h':t<(ps[j]'hj).2.1.length),∀ y u,(s7 ((ps[j]'hj).2.1[t]'h').1 ((ps[j]'hj).2.2 t))[y]? = some u→w2.cell? ⟨q.1,q.2+t * 7+y,none⟩=some u)∧∀ t (h':t<(ps[j]'hj).2.1.length),ClAt w2 ((ps[j]'hj).2.2 t) ((ps[j]'hj).2.1[t]'h').2:=fun j=>by
  by_cases hj:j<ps.length
  ·obtain ⟨_,lo,hi,g1,g2,g3,_,_⟩:=h.ls _ (List.getElem_mem hj)
   obtain ⟨b,off,f1,f2,f3⟩:=g3 w2 fun k hk1 hk2=>ha k (by omega) (by omega)
   exact ⟨(b,off),fun _=>⟨f1,f2,fun t ht=>(f3 t ht).2⟩⟩
  ·exact ⟨(0,0),fun h'=>absurd h' hj⟩
 obtain ⟨q,hq⟩:=Classical.axiomOfChoice hpt
 have hl:(ps.map (·.2.1)).length=ps.length:=List.length_map ..
 have hat:∀ j (hj:j<ps.length) (hj':j<(ps.map (·.2.1)).length),(ps.map (·.2.1))[j]'hj'=(ps[j]'hj).2.1:=fun j hj hj'=>List.getElem_map ..
 refine ⟨blkV cv,0,blkV pv,0,fun j=>match ps[j]? with | some x=>x.1 | none=>.slice none 0 0,fun j=>(q j).1,fun j=>(q j).2,fun j t=>match ps[j]? with | some x=>x.2.2 t | none=>.slice none 0 0,?_⟩
 have hv:∀ j (hj:j<ps.length),(match ps[j]? with | some x=>x.1 | none=>.slice none 0 0)=(ps[j]'hj).1:=fun j hj=>by rw [List.getElem?_eq_getElem hj]
 have hlv:∀ j (hj:j<ps.length) t,(match ps[j]? with | some x=>x.2.2 t | none=>.slice none 0 0)=(ps[j]'hj).2.2 t:=fun j hj t=>by rw [List.getElem?_eq_getElem hj]
 refine ⟨k1,fun t ht=>k2 t _ ?_,?_,fun j hj=>p2 j _ ?_,fun j hj=>?_,fun j hj t ht y u hu=>?_,fun j hj t ht=>?_⟩
 ·have ht':t<ks.length:=ht
  rw [List.getElem?_map,List.getElem?_eq_getElem ht']
  rfl
 ·show Sl w2 pv (ps.map (·.2.1)).length (blkV pv) 0
  rw [hl]
  exact p1
 ·have hj':j<ps.length:=by rw [← hl];exact hj
  rw [List.getElem?_map,List.getElem?_eq_getElem hj']
  rfl
 ·have hj':j<ps.length:=by rw [← hl];exact hj
  simp only [hv j hj']
  have:=(hq j hj').1
  rw [← hat j hj' hj] at this
  exact this
 ·have hj':j<ps.length:=by rw [← hl];exact hj
  simp only [hlv j hj'] at hu
  have e:(Cx.mk (ps.map (·.2.1)) ks).parts[j]'hj=(ps[j]'hj').2.1:=hat j hj' hj
  have ht':t<(ps[j]'hj').2.1.length:=by rw [← e];exact ht
  have e2:((Cx.mk (ps.map (·.2.1)) ks).parts[j]'hj)[t]'ht=(ps[j]'hj').2.1[t]'ht':=by simp only [e]
  rw [e2] at hu
  exact (hq j hj').2.1 t ht' y u hu
 ·have hj':j<ps.length:=by rw [← hl];exact hj
  have e:(Cx.mk (ps.map (·.2.1)) ks).parts[j]'hj=(ps[j]'hj').2.1:=hat j hj' hj
  have ht':t<(ps[j]'hj').2.1.length:=by rw [← e];exact ht
  have e2:((Cx.mk (ps.map (·.2.1)) ks).parts[j]'hj)[t]'ht=(ps[j]'hj').2.1[t]'ht':=by simp only [e]
  simp only [hlv j hj']
  rw [e2]
  exact (hq j hj').2.2 t ht'
def CxO (W:World) (r:Option CK) (e:Ending) (w':World):Prop:=Below W.heap.size W w'∧match r with
 | none=>∃ xa xn xc ya yn yc,e=.returned (.tuple #[.agg #[.slice xa xn xc,.slice ya yn yc],.bool false])
 | some (ps,ks)=>∃ xa xn xc ya yn yc,e=.returned (.tuple #[.agg #[.slice xa xn xc,.slice ya yn yc],.bool true])∧Rob W.heap.size w'.heap.size w' fun w2=>CxS w2 (.slice xa xn xc) (.slice ya yn yc) (.mk ps ks)
def preL (ps:List (List SX)) (ks:List Int):Option CK→Option CK
 | none=>none
 | some (qs,js)=>some (ps++qs,ks++js)
theorem preL_nil (o:Option CK):preL [] [] o=o:=by
 cases o with
 | none=>rfl
 | some x=>rfl
theorem preL_pre (ps:List (List SX)) (ks:List Int) (p:List SX) (k:Int) (o:Option CK):preL ps ks (preK p k o)=preL (ps++[p]) (ks++[k]) o:=by
 cases o with
 | none=>rfl
 | some x =>
   obtain ⟨qs,js⟩:=x
   show some (_,_)=some (_,_)
   simp
theorem cmX_ok {l:List V} {p:List SX} {r:List V} (h:cmX l=some (p,r)):r.length<l.length∧(∀ u∈r,u∈l)∧(NE l→NE r):=by
 rw [cmX_go] at h
 have hok:=compR_ok l
 obtain ⟨a,hs⟩:=compR_suf l
 rcases hc:compR l with ⟨ps,r'⟩
 rw [hc] at h hok hs
 simp only [] at h hok hs
 cases ps with
 | nil=>cases h
 | cons q qs =>
   have:r'=r:=by
    simp only [goC] at h
    split at h
    ·split at h
     ·cases h
     ·injection h with h
      injection h
    ·cases h
   subst this
   exact ⟨hok.2.1 (by simp),hok.2.2.2,fun hn=>by rw [hs] at hn;exact hn.suf⟩
theorem cmb_eq (v:V):cmbV v=cbT (dlT v.tok):=by
 unfold cmbV dlT
 cases v.tok.k == 9
 ·exact cb_0.symm
 ·exact num0 _
theorem cbT_cases (s:ByteArray):cbT s=0∨0<cbT s:=by
 unfold cbT
 repeat' split
 all_goals first | exact .inl rfl | exact .inr (by decide)
theorem trm_NE (l:List V):NE (trm l):=by
 obtain ⟨_,_,_,h⟩:=trm_split l
 exact h
structure XB (W:World) (v pv cv:Value) (ps:List PX) (ks:List Int) (us:List V) (P:Nat→Prop) (w:World):Prop where
 out:w.heap[W.heap.size+1]? = some (.cells #[pv,cv] 37 (0,0))
 res:w.heap[W.heap.size]? = some (.cells #[.slice none 0 0,.slice none 0 0] 37 (0,0))
 cx:CxI (W.heap.size+2) w pv cv ps ks
 vs:VsAt P w v us
 pl:∀ b,P b→b<w.heap.size∧b≠W.heap.size∧b≠W.heap.size+1∧pv.ownBlock≠some b∧cv.ownBlock≠some b
 bel:Below W.heap.size W w
theorem XB.keep {W:World} {v pv cv:Value} {ps:List PX} {ks:List Int} {us:List V} {P:Nat→Prop} {w w':World} (h:XB W v pv cv ps ks us P w) (hb:Below w.heap.size w w'):XB W v pv cv ps ks us P w' :=
 ⟨(hb.block _ (Array.getElem?_eq_some_iff.1 h.out).1).trans h.out,(hb.block _ (Array.getElem?_eq_some_iff.1 h.res).1).trans h.res,h.cx.keep hb,h.vs.keep hb,fun b hP=>by have hp:=h.pl b hP;have:=hb.size;exact ⟨by omega,hp.2.1,hp.2.2.1,hp.2.2.2⟩,h.bel.trans (hb.mono h.bel.size)⟩
theorem two_cells {w:World} {b:Nat} {x0 x1:Value} {T:TypeId} (h:w.heap[b]? = some (.cells #[x0,x1] T (0,0))):w.cell? ⟨b,0,none⟩=some x0∧w.cell? ⟨b,1,none⟩=some x1∧w.frozen? ⟨b,0,none⟩=false∧w.frozen? ⟨b,1,none⟩=false:=⟨cellAt h 0,cellAt h 1,by simp [World.frozen?,h],by simp [World.frozen?,h]⟩
theorem XB.list {W:World} {v pv cv v':Value} {ps:List PX} {ks:List Int} {us us':List V} {P Q:Nat→Prop} {w:World} (h:XB W v pv cv ps ks us P w) (hv:VsAt Q w v' us') (hq:∀ b,Q b→b<w.heap.size∧b≠W.heap.size∧b≠W.heap.size+1∧pv.ownBlock≠some b∧cv.ownBlock≠some b):XB W v' pv cv ps ks us' Q w:=⟨h.out,h.res,h.cx,hv,hq,h.bel⟩
theorem XB.szl {W:World} {v pv cv:Value} {ps:List PX} {ks:List Int} {us:List V} {P:Nat→Prop} {w:World} (h:XB W v pv cv ps ks us P w):W.heap.size+2≤w.heap.size:=(Array.getElem?_eq_some_iff.1 h.out).1
theorem XB.trim {W:World} {v pv cv v':Value} {ps:List PX} {ks:List Int} {us us':List V} {P:Nat→Prop} {w w':World} (h:XB W v pv cv ps ks us P w) (hb:Below w.heap.size w w') (hv:VsAt (fun b=>P b∨w.heap.size≤b) w' v' us'):XB W v' pv cv ps ks us' (fun b=>(P b∨w.heap.size≤b)∧b<w'.heap.size) w':=by
 refine (h.keep hb).list (hv.wider fun b h1 h2=>⟨h1,h2⟩) fun b hQ=>?_
 have hsz:=h.szl
 rcases hQ.1 with hP | hge
 ·have:=h.pl b hP
  exact ⟨hQ.2,this.2.1,this.2.2.1,this.2.2.2⟩
 ·refine ⟨hQ.2,by omega,by omega,fun e=>?_,fun e=>?_⟩
  ·have:=(own_blk h.cx.po b e).2
   omega
  ·have:=(own_blk h.cx.ko b e).2
   omega
theorem grown_low {W w w2:World} {o:Obj} {v:Value} {B:Nat} (hb:Below W.heap.size W w) (hB:W.heap.size≤B) (hlow:∀ g,v.ownBlock=some g→B≤g) (hg:(w.alloc o).grownBy w2 v.ownBlock):Below W.heap.size W w2:=by
 have h1:Below W.heap.size W (w.alloc o):=hb.alloc hb.size o
 exact h1.grown hg h1.size (fun k e=>Nat.le_trans hB (hlow k e))
theorem setB {W w:World} (hb:Below W.heap.size W w) (o i:Nat) (x:Value) (ho:W.heap.size≤o):Below W.heap.size W (w.setCell ⟨o,i,none⟩ x):=hb.setCell (p:=⟨o,i,none⟩) (by simpa using ho) x
theorem XB.part {W:World} {v pv cv pv2 u rv:Value} {o:Obj} {ps:List PX} {ks:List Int} {us r:List V} {P:Nat→Prop} {w0 w w2:World} {p:List SX} {lv:Nat→Value} (h:XB W v pv cv ps ks us P w0) (hb:Below w0.heap.size w0 w) (hu:∃ a n c,u=.slice a n c) (hr:Rob w0.heap.size w.heap.size w fun w2=>PtL w2 u p lv) (hv:VsAt P w0 rv r)
  (ho:w2.ownsRow (W.heap.size+2) 40 1 pv2 (ps.length+1) (ps.map (·.1)++[u])) (hg:(w.alloc o).grownBy w2 pv.ownBlock) (hat:pv2.ownBlock=pv.ownBlock∨pv2.ownBlock=some (w.heap.size+1)) :
  w2.heap[W.heap.size+1]? = some (.cells #[pv,cv] 37 (0,0))∧XB W rv pv2 cv (ps++[(u,p,lv)]) ks r P (w2.setCell ⟨W.heap.size+1,0,none⟩ pv2):=by
 have hk:=h.keep hb
 have hsz0:=h.szl
 have hsz:(w.alloc o).heap.size=w.heap.size+1:=by simp
 have hsz2:w.heap.size+1≤w2.heap.size:=by have:=hg.size;omega
 have hbw:=hb.size
 have hlow:∀ g,pv.ownBlock=some g→W.heap.size+2≤g:=fun g e=>(own_blk h.cx.po g e).1
 have hst:∀ k,k<w.heap.size→pv.ownBlock≠some k→w2.heap[k]? = w.heap[k]?:=fun k h1 h2=>(hg.block k (by omega) (fun e=>h2 e.symm)).trans (Below.heap_alloc w o k h1)
 have o2:w2.heap[W.heap.size+1]? = some (.cells #[pv,cv] 37 (0,0)):=(hst _ (by omega) fun e=>by have:=hlow _ e;omega).trans hk.out
 have r2:w2.heap[W.heap.size]? = some (.cells #[.slice none 0 0,.slice none 0 0] 37 (0,0)):=(hst _ (by omega) fun e=>by have:=hlow _ e;omega).trans hk.res
 refine ⟨o2,by rw [set_at 0 _ _ o2];rfl,(heap_ne (by omega)).trans r2,(h.cx.part hb (by omega) hu hr ho hg hat).set 0 _ (by omega),?_,fun b hP=>?_,setB (grown_low hk.bel (by omega) hlow hg) _ _ _ (by omega)⟩
 ·refine (hv.stay (W':=w2) (by omega) fun b hP hlt=>?_).stay (by simp) fun b hP _=>heap_ne (h.pl b hP).2.2.1
  rw [hst b (by omega) (h.pl b hP).2.2.2.1]
  exact hb.block b hlt
 ·have hp:=h.pl b hP
  refine ⟨by simp;omega,hp.2.1,hp.2.2.1,fun e=>?_,hp.2.2.2.2⟩
  rcases hat with e2 | e2
  ·exact hp.2.2.2.1 (e2.symm.trans e)
  ·rw [e2] at e
   cases e
   omega
theorem XB.comb {W:World} {v pv cv cv2:Value} {o:Obj} {ps:List PX} {ks:List Int} {us:List V} {P:Nat→Prop} {w w2:World} {k0:Int} (h:XB W v pv cv ps ks us P w)
  (ho:w2.ownsRow (W.heap.size+2) 3 1 cv2 (ks.length+1) (ks.map (Value.int .i64)++[.int .i64 k0])) (hg:(w.alloc o).grownBy w2 cv.ownBlock) (hat:cv2.ownBlock=cv.ownBlock∨cv2.ownBlock=some (w.heap.size+1)) :
  w2.heap[W.heap.size+1]? = some (.cells #[pv,cv] 37 (0,0))∧XB W v pv cv2 ps (ks++[k0]) us P (w2.setCell ⟨W.heap.size+1,1,none⟩ cv2):=by
 have hsz0:=h.szl
 have hsz:(w.alloc o).heap.size=w.heap.size+1:=by simp
 have hsz2:w.heap.size+1≤w2.heap.size:=by have:=hg.size;omega
 have hlow:∀ g,cv.ownBlock=some g→W.heap.size+2≤g:=fun g e=>(own_blk h.cx.ko g e).1
 have hst:∀ k,k<w.heap.size→cv.ownBlock≠some k→w2.heap[k]? = w.heap[k]?:=fun k h1 h2=>(hg.block k (by omega) (fun e=>h2 e.symm)).trans (Below.heap_alloc w o k h1)
 have o2:w2.heap[W.heap.size+1]? = some (.cells #[pv,cv] 37 (0,0)):=(hst _ (by omega) fun e=>by have:=hlow _ e;omega).trans h.out
 have r2:w2.heap[W.heap.size]? = some (.cells #[.slice none 0 0,.slice none 0 0] 37 (0,0)):=(hst _ (by omega) fun e=>by have:=hlow _ e;omega).trans h.res
 refine ⟨o2,by rw [set_at 1 _ _ o2];rfl,(heap_ne (by omega)).trans r2,(h.cx.comb ho hg hat).set 1 _ (by omega),?_,fun b hP=>?_,setB (grown_low h.bel (by omega) hlow hg) _ _ _ (by omega)⟩
 ·refine (h.vs.stay (W':=w2) (by omega) fun b hP hlt=>hst b hlt (h.pl b hP).2.2.2.2).stay (by simp) fun b hP _=>heap_ne (h.pl b hP).2.2.1
 ·have hp:=h.pl b hP
  refine ⟨by simp;omega,hp.2.1,hp.2.2.1,hp.2.2.2.1,fun e=>?_⟩
  rcases hat with e2 | e2
  ·exact hp.2.2.2.2 (e2.symm.trans e)
  ·rw [e2] at e
   cases e
   omega
theorem XB.end {W:World} {v pv cv:Value} {ps:List PX} {ks:List Int} {us:List V} {P:Nat→Prop} {w:World} (h:XB W v pv cv ps ks us P w) (w':World) (hw:w'=(w.setCell ⟨W.heap.size,0,none⟩ pv).setCell ⟨W.heap.size,1,none⟩ cv) :
  Below W.heap.size W w'∧Rob W.heap.size w'.heap.size w' (fun w2=>CxS w2 pv cv (.mk (ps.map (·.2.1)) ks))∧w'.cell? ⟨W.heap.size,0,none⟩=some pv∧w'.cell? ⟨W.heap.size,1,none⟩=some cv:=by
 subst hw
 have e1:(w.setCell ⟨W.heap.size,0,none⟩ pv).heap[W.heap.size]? = some (.cells #[pv,.slice none 0 0] 37 (0,0)):=by rw [set_at 0 _ _ h.res];rfl
 have e2:((w.setCell ⟨W.heap.size,0,none⟩ pv).setCell ⟨W.heap.size,1,none⟩ cv).heap[W.heap.size]? = some (.cells #[pv,cv] 37 (0,0)):=by rw [set_at 1 _ _ e1];rfl
 refine ⟨setB (setB h.bel _ _ _ (Nat.le_refl _)) _ _ _ (Nat.le_refl _),(((h.cx.set 0 pv (by omega)).set 1 cv (by omega)).rob).wide (by omega) (Nat.le_refl _),cellAt e2 0,cellAt e2 1⟩
theorem XB.no {W:World} {v pv cv:Value} {ps:List PX} {ks:List Int} {us:List V} {P:Nat→Prop} {w:World} (h:XB W v pv cv ps ks us P w) (w':World) (hw:w'=(w.setCell ⟨W.heap.size,0,none⟩ (.slice none 0 0)).setCell ⟨W.heap.size,1,none⟩ (.slice none 0 0)) :
  Below W.heap.size W w'∧w'.cell? ⟨W.heap.size,0,none⟩=some (.slice none 0 0)∧w'.cell? ⟨W.heap.size,1,none⟩=some (.slice none 0 0):=by
 subst hw
 have e1:(w.setCell ⟨W.heap.size,0,none⟩ (.slice none 0 0)).heap[W.heap.size]? = some (.cells #[.slice none 0 0,.slice none 0 0] 37 (0,0)):=by rw [set_at 0 _ _ h.res];rfl
 have e2:((w.setCell ⟨W.heap.size,0,none⟩ (.slice none 0 0)).setCell ⟨W.heap.size,1,none⟩ (.slice none 0 0)).heap[W.heap.size]? = some (.cells #[.slice none 0 0,.slice none 0 0] 37 (0,0)):=by rw [set_at 1 _ _ e1];rfl
 exact ⟨setB (setB h.bel _ _ _ (Nat.le_refl _)) _ _ _ (Nat.le_refl _),cellAt e2 0,cellAt e2 1⟩
theorem results37 (tmps:Array Value) (w:World) (b:Nat) (r:Bool) (x y:Value) (h2:tmps[2]? = some (.pointer (some ⟨b,0,none⟩))) (h3:tmps[3]? = some (.bool r)) (r1:w.cell? ⟨b,0,none⟩=some x) (r2:w.cell? ⟨b,1,none⟩=some y) :
  (results Tryz.f37 tmps).run Tryz.prog w=.ok (.tuple #[.agg #[x,y],.bool r]) w:=by
 simp [results,Tryz.f37,go_sem,h2,h3,r1,r2]
theorem rcompound_any (hatt:AttrC) {P:Nat→Prop} {W:World} {val:Value} {l:List V} (hv:VsAt P W val l) (hf:Fit l)
  (hp:∀ u∈l,∀ (w:World) (kv:Value),Below W.heap.size W w→VsAt P w kv u.kids→Calls Tryz.prog 13 #[kv] w (PaP w (parseZ u.kids))):Calls Tryz.prog 76 #[val] W (CoP P W (cmX l)):=by
 obtain ⟨i0,z0,hi,hz0,hz1,hz2,hz3⟩:=info51
 have HI0:=hid_mk hi
 have HZ0:=hid_mk hz0
 have HZ1:=hid_mk hz1
 have HZ2:=hid_mk hz2
 have HZ3:=hid_mk hz3
 clear hi hz0 hz1 hz2 hz3
 have hn:l.length≤100000:=hf.len
 obtain ⟨a,cap,rfl,hc1,hc2⟩:=hv.slice
 have HV:=hid_mk hv
 have HF:=hid_mk hf
 have HP:=hid_mk hp
 have HX:Hid (cmX l=neC (preC (tgX l).1 (cmF l.length (tgX l).2))):=rfl
 generalize cmX l=R at *
 have HB0:=hid_mk (Below.refl W.heap.size W)
 cases l with
 | nil =>
   have HE:Hid (R=none):=HX.out
   rw [List.length_nil] at *
   clear HX hv hf hp HP HF
   go_enter Tryz.func76,Tryz.ntmps76
   go_wp2
   go_loopw [0,5] (fun a0 a5 wq=>a0=.slice a 0 cap∧a5=.slice none 0 0∧Hid (Below W.heap.size W wq)) (fun _ _ _=>0)
   case atStart=>exact ⟨rfl,rfl,HB0⟩
   case round =>
    obtain ⟨rfl,rfl,HB⟩:=hrel
    clear HV HB0
    go_wp2
    go_ret3
    rw [HE.out]
    exact ⟨HB.out,_,_,_,_,_,_,rfl⟩
 | cons x r =>
 obtain ⟨xb,xo,xc,ka,kn,kc,e1,hx1,hx2,hxc,_,htl⟩:=hv.item
 injection e1 with ea en ec
 subst ea ec
 obtain ⟨q0,q1,q2,q3,q4,q5⟩:=hxc W (Below.refl _ _)
 have HXC:=hid_mk hxc
 have HTL:=hid_mk htl
 have HTG:Hid (tgX (x::r)=if (x.tok.k == 1)=true then ([(⟨1,foldS x.tok.tx,0,⟨#[]⟩,0,0⟩,[])],r) else if ((dlT x.tok).toList == [42])=true then ([(⟨1,⟨#[42]⟩,0,⟨#[]⟩,0,0⟩,[])],r) else ([],x::r)):=rfl
 have hxs:x.tok.tx.size≤1000000000000:=hf.tx' x (by simp)
 obtain ⟨N,hN⟩:∃ N,N=(x::r).length:=⟨_,rfl⟩
 have HN:Hid (N=r.length+1):=hN
 rw [← hN] at hc1 hn HV ⊢
 have h0N:0<N:=by rw [hN];simp
 generalize x.tok=t at *
 obtain ⟨tk,tx,un,wh,fl⟩:=t
 have hi1:=ris_any W ⟨tk,tx,un,wh,fl⟩ ka kn kc 1
 unfold vAg at hi1
 dsimp only at q0 q1 q2 q3 q4 q5 hi1 hxs HTG
 clear hv hf hp hN en hxc htl
 go_enter Tryz.func76,Tryz.ntmps76
 go_wp2_with (go_at_call 75;fail)
 refine hi1.mono ?_
 rintro e w1 ⟨rfl,hb1⟩
 have HB1:=hid_mk hb1
 clear hi1 hb1 q0 q1 q2 q3 q4 q5
 go_upto_if 17 with (fail)
 go_cut [0,5] (fun a0 a5 wx=>∃ (ps:List TX) (us:List V) (va:Option Addr) (vn vc:Nat) (oa:Option Addr) (on oc:Nat),a0=.slice va vn vc∧a5=.slice oa on oc∧Hid (tgX (x::r)=(ps.map prT,us))∧Hid (us.length≤r.length+1∧(∀ u∈us,u∈x::r)∧ps.length≤1)∧Hid (VsAt P W (.slice va vn vc) us)∧Hid (CoI W.heap.size wx (.slice oa on oc) ps)∧Hid (Below W.heap.size W wx))
 case first =>
  cases hk:(tk == 1) with
  | true =>
    have HT:Hid (tgX (x::r)=([(⟨1,foldS tx,0,⟨#[]⟩,0,0⟩,[])],r)):=by rw [Hid,HTG.out,hk];rfl
    obtain ⟨q0,q1,q2,q3,q4,q5⟩:=HXC.out w1 HB1.out
    have hfo:=rfold2_any tx w1 hxs
    dsimp only at q0 q1 q2 q3 q4 q5
    clear HTG HXC HX HF HP
    go_wp2_with (go_at_call 117;fail)
    refine hfo.mono ?_
    rintro e w2 ⟨rfl,hb2⟩
    generalize foldS tx=nm at *
    have HB2:Hid (Below W.heap.size W w2):=HB1.out.trans (hb2.mono HB1.out.size)
    have HC0:=hid_mk (CoI.nil W.heap.size w2)
    have HOW:Hid ((w2.alloc (.cells (s7a ⟨1,nm,0,⟨#[]⟩,0,0⟩ (.slice none 0 0)) 39)).ownsRow W.heap.size 39 7 (.slice none 0 0) 0 []):=World.ownsRow_nil _ _ _ _
    have HBa:Hid (Below w2.heap.size w2 (w2.alloc (.cells (s7a ⟨1,nm,0,⟨#[]⟩,0,0⟩ (.slice none 0 0)) 39))):=(Below.refl _ _).alloc (Nat.le_refl _) _
    obtain ⟨hlit,hnews,hone⟩:=(rob_lit (w:=w2) (s:=⟨1,nm,0,⟨#[]⟩,0,0⟩)).here.news (by simp)
    obtain ⟨NW,hNW⟩:∃ NW,NW=rowS (trip [((⟨1,nm,0,⟨#[]⟩,0,0⟩:S6),([]:List Cx))] (fun _=>.slice none 0 0)):=⟨_,rfl⟩
    have hll:NW.length=1 * 7:=by rw [hNW,rowS_len,trip_len];rfl
    rw [← hNW] at hnews hone
    have HNW:=hid_mk hnews
    have HO1:=hid_mk hone
    have HNE:=hid_mk hNW
    have HLL:=hid_mk hll
    have hsz:W.heap.size≤(w2.alloc (.cells (s7a ⟨1,nm,0,⟨#[]⟩,0,0⟩ (.slice none 0 0)) 39)).heap.size:=by have:=HB2.out.size;simp;omega
    have HSZ:=hid_mk hsz
    clear hfo hb2 q0 q1 q2 q3 q4 q5 HB1 hnews hone hsz hNW hll hlit
    unfold s7a at HOW HBa HNW HSZ
    dsimp only at HOW HBa HNW HSZ
    go_wp2_with (at_builtin;with_reducible refine wpList_append_own_at _ rfl _ _ 40 rfl W.heap.size 39 i0 z0 7 88 Tryz.underlying40 HI0.out HZ0.out HZ1.out HZ2.out HZ3.out (by decide) (.slice none 0 0) 0 [] rfl HOW.out ⟨w2.heap.size,0,none⟩ 1 1 NW rfl HLL.out HNW.out HO1.out ?c1 ?c2 ?c3 ?_)
    case c1=>unfold maxLen;omega
    case c2=>omega
    case c3=>exact HSZ.out
    intro v3 w3 ho3 hg3 _ hat3
    have hco:CoI W.heap.size w3 v3 [(⟨1,nm,0,⟨#[]⟩,0,0⟩,.slice none 0 0,[])]:=by
     refine HC0.out.add (u:=.slice (some ⟨w2.heap.size,0,none⟩) 1 1) (p:=[(⟨1,nm,0,⟨#[]⟩,0,0⟩,[])]) (lv:=fun _=>.slice none 0 0) HBa.out HB2.out.size (rob_lit (w:=w2) (s:=⟨1,nm,0,⟨#[]⟩,0,0⟩)) ?_ hg3 (hat3.imp id fun e=>e.trans (by simp))
     rw [← HNE.out]
     exact ho3
    have hB3:Below W.heap.size W w3:=(HB2.out.trans (HBa.out.mono HB2.out.size)).grown hg3 HSZ.out fun k e=>by cases e
    obtain ⟨oa,oc,rfl⟩:=hco.sl
    have HCO:=hid_mk hco
    have HB3:=hid_mk hB3
    have HRS:Hid (r.length≤r.length+1∧(∀ u∈r,u∈x::r)∧[((⟨1,nm,0,⟨#[]⟩,0,0⟩:S6),(Value.slice none 0 0),([]:List Cx))].length≤1):=⟨by omega,fun u hu=>by simp [hu],by simp⟩
    clear ho3 hg3 hat3 hco hB3 HC0 HOW HBa HNW HO1 HNE HLL HSZ HB2
    go_wp2
    all_goals go_meet
    ·exact ⟨[(⟨1,nm,0,⟨#[]⟩,0,0⟩,.slice none 0 0,[])],r,_,_,_,_,_,_,rfl,rfl,HT,HRS,HTL.out _ _ _ (by have:=HN.out;omega) (by omega) (fun h=>by have:=HN.out;omega),HCO,HB3⟩
    ·exact ⟨[(⟨1,nm,0,⟨#[]⟩,0,0⟩,.slice none 0 0,[])],r,_,_,_,_,_,_,rfl,rfl,HT,HRS,HTL.out _ _ _ (by have:=HN.out;omega) (by omega) (fun h=>rfl),HCO,HB3⟩
  | false =>
    obtain ⟨q0,q1,q2,q3,q4,q5⟩:=HXC.out w1 HB1.out
    have hde:=rdelim_any w1 ⟨tk,tx,un,wh,fl⟩ ka kn kc
    have HT1:Hid (tgX (x::r)=if ((dlT ⟨tk,tx,un,wh,fl⟩).toList == [42])=true then ([(⟨1,⟨#[42]⟩,0,⟨#[]⟩,0,0⟩,[])],r) else ([],x::r)):=by rw [Hid,HTG.out,hk];rfl
    unfold vAg at hde
    dsimp only at q0 q1 q2 q3 q4 q5 hde
    generalize dlT ⟨tk,tx,un,wh,fl⟩=D at *
    clear HTG HXC HX HF HP
    go_wp2_with (go_at_call 78;fail)
    refine hde.mono ?_
    rintro e w2 ⟨rfl,hb2⟩
    have HB2:Hid (Below W.heap.size W w2):=HB1.out.trans (hb2.mono HB1.out.size)
    clear hde hb2 q0 q1 q2 q3 q4 q5 HB1
    cases hd:(D.toList == [42]) with
    | true =>
      have HT:Hid (tgX (x::r)=([(⟨1,⟨#[42]⟩,0,⟨#[]⟩,0,0⟩,[])],r)):=by rw [Hid,HT1.out,hd];rfl
      clear HT1
      have HC0:=hid_mk (CoI.nil W.heap.size w2)
      have HOW:Hid ((w2.alloc (.cells (s7a ⟨1,⟨#[42]⟩,0,⟨#[]⟩,0,0⟩ (.slice none 0 0)) 39)).ownsRow W.heap.size 39 7 (.slice none 0 0) 0 []):=World.ownsRow_nil _ _ _ _
      have HBa:Hid (Below w2.heap.size w2 (w2.alloc (.cells (s7a ⟨1,⟨#[42]⟩,0,⟨#[]⟩,0,0⟩ (.slice none 0 0)) 39))):=(Below.refl _ _).alloc (Nat.le_refl _) _
      obtain ⟨hlit,hnews,hone⟩:=(rob_lit (w:=w2) (s:=⟨1,⟨#[42]⟩,0,⟨#[]⟩,0,0⟩)).here.news (by simp)
      obtain ⟨NW,hNW⟩:∃ NW,NW=rowS (trip [((⟨1,⟨#[42]⟩,0,⟨#[]⟩,0,0⟩:S6),([]:List Cx))] (fun _=>.slice none 0 0)):=⟨_,rfl⟩
      have hll:NW.length=1 * 7:=by rw [hNW,rowS_len,trip_len];rfl
      rw [← hNW] at hnews hone
      have HNW:=hid_mk hnews
      have HO1:=hid_mk hone
      have HNE:=hid_mk hNW
      have HLL:=hid_mk hll
      have hsz:W.heap.size≤(w2.alloc (.cells (s7a ⟨1,⟨#[42]⟩,0,⟨#[]⟩,0,0⟩ (.slice none 0 0)) 39)).heap.size:=by have:=HB2.out.size;simp;omega
      have HSZ:=hid_mk hsz
      clear hnews hone hsz hNW hll hlit
      unfold s7a at HOW HBa HNW HSZ
      dsimp only at HOW HBa HNW HSZ
      go_wp2_with (at_builtin;with_reducible refine wpList_append_own_at _ rfl _ _ 40 rfl W.heap.size 39 i0 z0 7 88 Tryz.underlying40 HI0.out HZ0.out HZ1.out HZ2.out HZ3.out (by decide) (.slice none 0 0) 0 [] rfl HOW.out ⟨w2.heap.size,0,none⟩ 1 1 NW rfl HLL.out HNW.out HO1.out ?c1 ?c2 ?c3 ?_)
      case c1=>unfold maxLen;omega
      case c2=>omega
      case c3=>exact HSZ.out
      intro v3 w3 ho3 hg3 _ hat3
      have hco:CoI W.heap.size w3 v3 [(⟨1,⟨#[42]⟩,0,⟨#[]⟩,0,0⟩,.slice none 0 0,[])]:=by
       refine HC0.out.add (u:=.slice (some ⟨w2.heap.size,0,none⟩) 1 1) (p:=[(⟨1,⟨#[42]⟩,0,⟨#[]⟩,0,0⟩,[])]) (lv:=fun _=>.slice none 0 0) HBa.out HB2.out.size (rob_lit (w:=w2) (s:=⟨1,⟨#[42]⟩,0,⟨#[]⟩,0,0⟩)) ?_ hg3 (hat3.imp id fun e=>e.trans (by simp))
       rw [← HNE.out]
       exact ho3
      have hB3:Below W.heap.size W w3:=(HB2.out.trans (HBa.out.mono HB2.out.size)).grown hg3 HSZ.out fun k e=>by cases e
      obtain ⟨oa,oc,rfl⟩:=hco.sl
      have HCO:=hid_mk hco
      have HB3:=hid_mk hB3
      have HRS:Hid (r.length≤r.length+1∧(∀ u∈r,u∈x::r)∧[((⟨1,⟨#[42]⟩,0,⟨#[]⟩,0,0⟩:S6),(Value.slice none 0 0),([]:List Cx))].length≤1):=⟨by omega,fun u hu=>by simp [hu],by simp⟩
      clear ho3 hg3 hat3 hco hB3 HC0 HOW HBa HNW HO1 HNE HLL HSZ HB2
      go_wp2
      all_goals go_meet
      ·exact ⟨[(⟨1,⟨#[42]⟩,0,⟨#[]⟩,0,0⟩,.slice none 0 0,[])],r,_,_,_,_,_,_,rfl,rfl,HT,HRS,HTL.out _ _ _ (by have:=HN.out;omega) (by omega) (fun h=>by have:=HN.out;omega),HCO,HB3⟩
      ·exact ⟨[(⟨1,⟨#[42]⟩,0,⟨#[]⟩,0,0⟩,.slice none 0 0,[])],r,_,_,_,_,_,_,rfl,rfl,HT,HRS,HTL.out _ _ _ (by have:=HN.out;omega) (by omega) (fun h=>rfl),HCO,HB3⟩
    | false =>
      have HT:Hid (tgX (x::r)=(([]:List TX).map prT,x::r)):=by rw [Hid,HT1.out,hd];rfl
      have HCO:=hid_mk (CoI.nil W.heap.size w2)
      have HRS:Hid ((x::r).length≤r.length+1∧(∀ u∈x::r,u∈x::r)∧([]:List TX).length≤1):=⟨by simp,fun u hu=>hu,by simp⟩
      clear HT1
      go_wp2
      go_meet
      exact ⟨_,x::r,_,_,_,_,_,_,rfl,rfl,HT,HRS,HV,HCO,HB2⟩
 case rest =>
 obtain ⟨ps0,us0,va,vn,vc,oa,on,oc,rfl,rfl,HT0,HR0,HV0,HC0,HBx⟩:=hcut
 have HX2:Hid (R=neC (preC (ps0.map prT) (cmF (r.length+1) us0))):=by
  rw [Hid,HX.out,HT0.out]
  rfl
 have hM:r.length+1≤100000:=by have:=HN.out;omega
 clear HX HTG HT0 HTL HXC HV hxs
 go_upto_block 0 with fail
 go_cut [0,5] (fun a0 a5 wx=>∃ (ps:List TX) (us:List V) (va:Option Addr) (vn vc:Nat) (oa:Option Addr) (on oc:Nat),a0=.slice va vn vc∧a5=.slice oa on oc∧Hid (R=neC (some (ps.map prT,us)))∧Hid (VsAt P W (.slice va vn vc) us)∧Hid (CoI W.heap.size wx (.slice oa on oc) ps)∧Hid (Below W.heap.size W wx))
 case first =>
  go_wp2
  go_loopw [0,5] (fun a0 a5 wq=>∃ (F:Nat) (ps:List TX) (us:List V) (va:Option Addr) (vn vc:Nat) (oa:Option Addr) (on oc:Nat),a0=.slice va vn vc∧a5=.slice oa on oc∧Hid (R=neC (preC (ps.map prT) (cmF F us)))∧Hid (us.length≤F∧(∀ u∈us,u∈x::r)∧us.length≤r.length+1∧ps.length+10 * us.length≤10 * (r.length+1)+1∧vn=us.length)∧Hid (VsAt P W (.slice va vn vc) us)∧Hid (CoI W.heap.size wq (.slice oa on oc) ps)∧Hid (Below W.heap.size W wq)) (fun a0 _ _=>Y.sliceLen a0)
  case atStart =>
   refine ⟨r.length+1,ps0,us0,va,vn,vc,oa,on,oc,rfl,rfl,HX2,?_,HV0,HC0,HBx⟩
   obtain ⟨h1,h2,h3⟩:=HR0.out
   obtain ⟨a',c',e,_⟩:=HV0.out.slice
   injection e with _ e2 _
   exact ⟨h1,h2,h1,by omega,e2⟩
  case round =>
   obtain ⟨F,ps,us,va,vn,vc,oa,on,oc,rfl,rfl,HR,HQ,HVu,HC,HB⟩:=hrel
   obtain ⟨sa,sc,hse,hcn,hcm⟩:=HVu.out.slice
   injection hse with hse1 hse2 hse3
   subst hse1 hse3
   clear hse2
   cases us with
   | nil =>
     have hvn:vn=0:=HQ.out.2.2.2.2
     subst hvn
     have HE:Hid (R=neC (some (ps.map prT,[]))):=by
      rw [Hid,HR.out,cmF_nil]
      simp only [preC,List.append_nil]
     clear HQ HR HX2 HR0 HV0 HC0 HBx HP HF
     go_wp2
     go_meet
     exact ⟨ps,[],_,_,_,_,_,_,rfl,rfl,HE,HVu,HC,HB⟩
   | cons y ys =>
     obtain ⟨hF,hmem,hle,hpl,hvn⟩:=HQ.out
     obtain ⟨F',rfl⟩:∃ F',F=F'+1:=⟨F - 1,by simp only [List.length_cons] at hF;omega⟩
     have hfu:Fit (y::ys):=HF.out.sub hle hmem
     have hot:=rother_any hatt (HVu.out.keep HB.out) hfu (fun u hu kv hk w hb=>HP.out u (hmem u hu) w kv (HB.out.trans (hb.mono HB.out.size)) (hk.keep hb))
     have HST:Hid (R=neC (preC (ps.map prT) (stC F' (y::ys) (otX (y::ys))))):=by rw [Hid,HR.out,cmF_step (by simp)]
     have HOK:Hid (∀ p n,otX (y::ys)=some (p,n)→(n=0∧p=[])∨(1≤n∧n≤(y::ys).length∧0<p.length∧p.length≤10)):=fun p n h=>otX_ok (by simp) h
     have h0v:0<vn:=by rw [hvn];simp
     have HQ2:Hid ((y::ys).length≤F'+1∧(∀ u∈y::ys,u∈x::r)∧(y::ys).length≤r.length+1∧ps.length+10 * (y::ys).length≤10 * (r.length+1)+1∧vn=(y::ys).length):=⟨hF,hmem,hle,hpl,hvn⟩
     have hpb:ps.length≤1000001:=by simp only [List.length_cons] at hpl;omega
     have hvb:vn≤100000:=by rw [hvn];omega
     generalize otX (y::ys)=OX at *
     generalize y::ys=us at *
     clear hF hmem hle hpl hvn hfu HQ HR HX2 HR0 HV0 HC0 HBx HP HF
     go_wp2_with (go_at_call 118;fail)
     refine hot.mono ?_
     rintro e w2 ⟨hb2,hq⟩
     have HB2:Hid (Below W.heap.size W w2):=HB.out.trans (hb2.mono HB.out.size)
     cases OX with
     | none =>
       obtain ⟨ta,tn,tc,n,rfl⟩:=hq
       have HE:Hid (R=none):=HST.out
       clear HST hb2 HC HB hot HOK HQ2
       go_wp2
       go_ret3
       rw [HE.out]
       exact ⟨HB2.out,_,_,_,_,_,_,rfl⟩
     | some z =>
       obtain ⟨p,n⟩:=z
       obtain ⟨ta,tn,tc,rfl,lv,hrob⟩:=hq
       rcases HOK.out p n rfl with ⟨rfl,rfl⟩ | ⟨hn1,hn2,hp1,hp2⟩
       ·have HE:Hid (R=neC (some (ps.map prT,us))):=by
         rw [Hid,HST.out]
         simp only [stC,if_true,preC,List.append_nil]
        have HC2:=hid_mk (HC.out.keep hb2)
        clear HST hb2 HC HB hot HOK HQ2 hrob
        go_wp2
        go_meet
        exact ⟨ps,us,_,_,_,_,_,_,rfl,rfl,HE,HVu,HC2,HB2⟩
       ·have hn0:n≠0:=by omega
        have HE:Hid (R=neC (preC ((ps++trip p lv).map prT) (cmF F' (us.drop n)))):=by
         rw [Hid,HST.out]
         simp only [stC,if_neg hn0]
         rw [preC_app,List.map_append,trip_pr]
        obtain ⟨tb,tof,⟨ta',tc',et,_,_,hta⟩,_⟩:=hrob.here
        injection et with et1 et2 et3
        subst et1 et3
        obtain ⟨rfl,htl⟩:=hta hp1
        obtain ⟨htp,hnews,hone⟩:=hrob.here.news hp1
        have HNW:=hid_mk hnews
        have HO1:=hid_mk hone
        have HLL:Hid ((rowS (trip p lv)).length=tn * 7):=by rw [Hid,rowS_len,trip_len,et2]
        have HOW:=hid_mk (HC.out.keep hb2).own
        have HADD:Hid (∀ v2 w3,w3.ownsRow W.heap.size 39 7 v2 (ps.length+tn) (rowS ps++rowS (trip p lv))→w2.grownBy w3 (Value.slice oa on oc).ownBlock→(v2.ownBlock=(Value.slice oa on oc).ownBlock∨v2.ownBlock=some w2.heap.size)→CoI W.heap.size w3 v2 (ps++trip p lv)∧Below W.heap.size W w3):=fun v2 w3 h1 h2 h3=>⟨HC.out.add hb2 HB.out.size hrob (by rw [← et2];exact h1) h2 h3,HB2.out.grown h2 HB2.out.size fun k e=>(own_blk HC.out.own k e).1⟩
        have HSZ:=hid_mk HB2.out.size
        have htn:tn≤10:=by omega
        have hnn:n≤vn:=by have:=HQ2.out.2.2.2.2;omega
        have HVN:Hid (∀ a' n' c',n'=vn - n→c'=vc - n→(n<us.length→∃ b off,va=some ⟨b,off,none⟩∧a'=some ⟨b,off+n * 6,none⟩)→VsAt P W (.slice a' n' c') (us.drop n)):=fun a' n' c' h1 h2 h3=>by
         subst h1 h2
         exact HVu.out.drop n hn2 a' h3
        have HVA:Hid (0<us.length→∃ b off,va=some ⟨b,off,none⟩):=fun h=>by
         obtain ⟨b,off,kv,e,_⟩:=HVu.out.cells.2.2.2 0 h
         exact ⟨b,off,e⟩
        have HQ3:Hid ((us.drop n).length≤F'∧(∀ u∈us.drop n,u∈x::r)∧(us.drop n).length≤r.length+1∧(ps++trip p lv).length+10 * (us.drop n).length≤10 * (r.length+1)+1∧vn - n=(us.drop n).length):=by
         obtain ⟨g1,g2,g3,g4,g5⟩:=HQ2.out
         have hd:(us.drop n).length=us.length - n:=List.length_drop
         refine ⟨by omega,fun u hu=>g2 u (List.mem_of_mem_drop hu),by omega,?_,by omega⟩
         rw [List.length_append,trip_len,hd]
         omega
        obtain ⟨NW,hNW⟩:∃ NW,NW=rowS (trip p lv):=⟨_,rfl⟩
        rw [← hNW] at HNW HO1 HLL HADD
        obtain ⟨us2,hus2⟩:∃ us2,us2=us.drop n:=⟨_,rfl⟩
        have hul:us.length=vn:=HQ2.out.2.2.2.2.symm
        have HUL:=hid_mk hul
        rw [← hus2] at HE HVN HQ3
        clear hnews hone hrob HST hb2 HC HB hot HOK HQ2 et2 hNW hus2 hul hn2 HVu htp
        go_wp2_with (at_builtin;with_reducible refine wpList_append_own_at _ rfl _ _ 40 rfl W.heap.size 39 i0 z0 7 88 Tryz.underlying40 HI0.out HZ0.out HZ1.out HZ2.out HZ3.out (by decide) (.slice oa on oc) ps.length (rowS ps) rfl HOW.out ⟨tb,tof,none⟩ tn tc NW rfl HLL.out HNW.out HO1.out ?c1 ?c2 ?c3 ?_)
        case c1=>unfold maxLen;omega
        case c2=>omega
        case c3=>exact HSZ.out
        intro v3 w3 ho3 hg3 _ hat3
        obtain ⟨hco,hB3⟩:=HADD.out v3 w3 ho3 hg3 hat3
        obtain ⟨xa,xc',rfl⟩:=hco.sl
        have HCO:=hid_mk hco
        have HB3:=hid_mk hB3
        generalize (ps++trip p lv).length=on2 at HCO ⊢
        clear ho3 hg3 hat3 hco hB3 HADD HNW HO1 HLL HOW HSZ HB2
        go_wp2
        refine ⟨⟨F',ps++trip p lv,us2,_,_,_,_,_,_,rfl,rfl,HE,HQ3,HVN.out _ _ _ rfl rfl fun hlt=>?_,HCO,HB3⟩,?_⟩
        ·have hul:=HUL.out
         obtain ⟨b,off,e⟩:=HVA.out (by omega)
         refine ⟨b,off,e,?_⟩
         rw [if_neg (by omega),e]
         show some (Addr.add ⟨b,off,none⟩ (n * 6))=_
         rw [Addr.add_mid]
        ·simp only [Y.sliceLen]
         omega
 case rest =>
 obtain ⟨ps,us,va,vn,vc,oa,on,oc,rfl,rfl,HE,HVu,HC,HB⟩:=hcut
 obtain ⟨oa',oc',ho⟩:=HC.out.sl
 injection ho with ho1 ho2 ho3
 have HON:=hid_mk ho2
 clear ho1 ho2 ho3 HX2 HR0 HV0 HC0 HBx HP HF
 cases ps with
 | nil =>
   have hon:on=0:=HON.out
   subst hon
   have HE2:Hid (R=none):=HE.out
   clear HE HON
   go_wp2
   go_ret3
   rw [HE2.out]
   exact ⟨HB.out,_,_,_,_,_,_,rfl⟩
 | cons q qs =>
   have hon:decide (0<on)=true:=decide_eq_true (by have:=HON.out;simp only [List.length_cons] at this;omega)
   have HE2:Hid (R=some ((q::qs).map prT,us)):=HE.out
   clear HE HON
   go_wp2
   go_ret3
   rw [HE2.out]
   exact ⟨HB.out,_,_,_,_,_,_,rfl,HC.out.rob,HVu.out⟩
end Go.Proofs.YtemlnblifkdenaaGreatDoor.L
