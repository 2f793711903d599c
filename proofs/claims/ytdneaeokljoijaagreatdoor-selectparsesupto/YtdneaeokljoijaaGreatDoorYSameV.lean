/- gouacheref03.Same of two slices that hold the same tree. -/
import Derived.Test.YtdneaeokljoijaaGreatDoorLMo
import Derived.Test.YtdneaeokljoijaaGreatDoorNFoldN
import Derived.Test.YtdneaeokljoijaaGreatDoorLId
import Derived.BigQuiet
import Derived.Deep.QuietTactic
set_option maxRecDepth 100000
set_option maxHeartbeats 8000000
namespace Go.Proofs.YtdneaeokljoijaaGreatDoor.L
open Go.RowKit
def SvOk (vs:List V) (s:Sv):Prop:=lstB s.1.k=false∨(lstB s.1.k=true∧∃ u∈vs,s.2=u.kids)
theorem SvOk.more {vs us:List V} (h:∀ u∈vs,u∈us) {s:Sv} (k:SvOk vs s):SvOk us s:=k.imp id fun ⟨a,u,hu,e⟩=>⟨a,u,h u hu,e⟩
def kidsOf (l:List Sv):List (List V):=(l.filter fun s=>lstB s.1.k).map Prod.snd
theorem kidsOf_append (a b:List Sv):kidsOf (a++b)=kidsOf a++kidsOf b:=by simp [kidsOf]
def WayOk (vs:List V) (r:Option (List S6×Nat)):Prop:=∀ l n,r=some (l,n)→l≠[]∧l.length≤10∧1≤n∧n≤vs.length∧∀ s∈l,lstB s.k=false
theorem idR_ok (vs:List V):WayOk vs (idR vs):=by
 intro l n h
 unfold idR at h
 repeat' split at h
 all_goals first | (cases h;done) | skip
 cases h
 simp [lstB]
theorem classR_ok (vs:List V):WayOk vs (classR vs):=by
 intro l n h
 unfold classR at h
 repeat' split at h
 all_goals first | (cases h;done) | skip
 cases h
 simp [lstB]
theorem tagR_ok (vs:List V):WayOk vs (tagR vs):=by
 intro l n h
 unfold tagR at h
 repeat' split at h
 all_goals first | (cases h;done) | skip
 cases h
 simp [lstB]
theorem sqV_k {nm:ByteArray} {op:Int} {us:List V} {s:S6} (h:sqV nm op us=some s):s.k=4:=by
 unfold sqV at h
 repeat' split at h
 all_goals first | (cases h;done) | skip
 cases h
 rfl
theorem inSqR_k {vs:List V} {s:S6} (h:inSqR vs=some s):s.k=4:=by
 unfold inSqR at h
 split at h
 ·split at h
  ·unfold sqO at h
   split at h
   ·cases h;rfl
   ·exact sqV_k h
  ·cases h
 ·cases h
theorem attrR_ok (vs:List V):WayOk vs (attrR vs):=by
 intro l n h
 unfold attrR at h
 split at h
 ·split at h
  ·split at h
   ·rename_i s hs
    cases h
    have:=inSqR_k hs
    simp [lstB,this]
   ·cases h
  ·cases h
 ·cases h
theorem stL_ok {nm:ByteArray} {l:List S6} {n:Nat} (h:stL nm=some (l,n)):l≠[]∧l.length≤10∧n=2∧∀ s∈l,lstB s.k=false:=by
 unfold stL at h
 repeat' split at h
 all_goals first | (cases h;done) | skip
 ·cases h;simp [lstB,nthS]
 ·cases h;simp [lstB,nthS]
 ·cases h;simp [lstB,nthS]
 ·rename_i hz
  cases h
  rcases hz with hz | hz <;> simp [lstB,hz]
theorem stateR_ok (vs:List V):WayOk vs (stateR vs):=by
 intro l n h
 unfold stateR at h
 split at h
 ·rename_i u hu
  have hl:=(List.getElem?_eq_some_iff.1 hu).1
  split at h
  ·obtain ⟨h1,h2,rfl,h4⟩:=stL_ok h
   exact ⟨h1,h2,by omega,hl,h4⟩
  ·cases h
 ·cases h
theorem placeR_ok (vs:List V):WayOk vs (placeR vs):=by
 intro l n h
 unfold placeR at h
 split at h
 ·rename_i u hu
  have hl:=(List.getElem?_eq_some_iff.1 hu).1
  split at h
  ·rename_i hc
   rw [Bool.and_eq_true] at hc
   cases h
   refine ⟨by simp,by simp,by omega,hl,fun s hs=>?_⟩
   rw [List.mem_singleton.1 hs]
   have:=hc.1
   simp only [plcB,Bool.or_eq_true,beq_iff_eq] at this
   rcases this with e | e <;> simp [lstB,e]
  ·cases h
 ·cases h
def OthOk (vs:List V) (r:Option (List Sv×Nat)):Prop:=∀ l n,r=some (l,n)→l≠[]∧l.length≤10∧1≤n∧n≤vs.length∧∀ s∈l,SvOk vs s
theorem choiceR_ok (vs:List V):OthOk vs (choiceR vs):=by
 intro l n h
 unfold choiceR at h
 split at h
 ·rename_i u hu
  have hl:=(List.getElem?_eq_some_iff.1 hu).1
  split at h
  ·rename_i hc
   cases h
   refine ⟨by simp,by simp,by omega,hl,fun s hs=>?_⟩
   rw [List.mem_singleton.1 hs]
   exact .inr ⟨hc,u,List.mem_of_getElem? hu,rfl⟩
  ·cases h
 ·cases h
theorem bare_ok {vs:List V} {r:Option (List S6×Nat)} (h:WayOk vs r):OthOk vs (bare r):=by
 intro l n e
 cases r with
 | none=>cases e
 | some x =>
   obtain ⟨l',n'⟩:=x
   obtain ⟨h1,h2,h3,h4,h5⟩:=h l' n' rfl
   cases e
   refine ⟨by simpa using h1,by simpa using h2,h3,h4,fun s hs=>?_⟩
   obtain ⟨x,hx,rfl⟩:=List.mem_map.1 hs
   exact .inl (h5 x hx)
theorem orR_ok {vs:List V} {a b:Option (List Sv×Nat)} (ha:OthOk vs a) (hb:OthOk vs b):OthOk vs (orR a b):=by
 unfold orR
 split
 ·exact ha
 ·exact hb
theorem otherR_ok (vs:List V):OthOk vs (otherR vs) :=
 orR_ok (bare_ok (idR_ok vs)) (orR_ok (bare_ok (classR_ok vs)) (orR_ok (bare_ok (attrR_ok vs)) (orR_ok (bare_ok (stateR_ok vs)) (orR_ok (bare_ok (placeR_ok vs)) (choiceR_ok vs)))))
theorem otherR_nil:otherR []=none:=rfl
theorem othF_same:∀ (f g:Nat) (vs:List V),vs.length≤f→vs.length≤g→othF f vs=othF g vs
 | 0,0,_,_,_=>rfl
 | 0,g+1,vs,h,_=>by
   have e:vs=[]:=List.length_eq_zero_iff.1 (by omega)
   subst e
   rfl
 | f+1,0,vs,_,h=>by
   have e:vs=[]:=List.length_eq_zero_iff.1 (by omega)
   subst e
   rfl
 | f+1,g+1,vs,hf,hg=>by
   unfold othF
   cases ho:otherR vs with
   | none=>rfl
   | some x =>
     obtain ⟨l,n⟩:=x
     obtain ⟨_,_,h1,h2,_⟩:=otherR_ok vs l n ho
     have hl:(vs.drop n).length=vs.length - n:=List.length_drop
     simp only []
     rw [othF_same f g (vs.drop n) (by omega) (by omega)]
theorem othZ_none {vs:List V} (h:otherR vs=none):othZ vs=([],vs):=by
 unfold othZ
 cases hl:vs.length with
 | zero=>rfl
 | succ f=>unfold othF;rw [h]
theorem othZ_some {vs:List V} {l:List Sv} {n:Nat} (h:otherR vs=some (l,n)):othZ vs=(l++(othZ (vs.drop n)).1,(othZ (vs.drop n)).2):=by
 obtain ⟨_,_,h1,h2,_⟩:=otherR_ok vs l n h
 have hl:(vs.drop n).length=vs.length - n:=List.length_drop
 unfold othZ
 obtain ⟨f,hf⟩:∃ f,vs.length=f+1:=⟨vs.length - 1,by omega⟩
 rw [hf]
 conv=>lhs;unfold othF
 rw [h]
 simp only []
 rw [othF_same f (vs.drop n).length (vs.drop n) (by omega) (Nat.le_refl _)]
theorem othZ_ok:∀ (m:Nat) (vs:List V),vs.length≤m→(othZ vs).2.length≤vs.length∧((othZ vs).1≠[]→(othZ vs).2.length<vs.length)∧(∀ s∈(othZ vs).1,SvOk vs s)∧∀ u∈(othZ vs).2,u∈vs
 | m,vs,hm=>by
   cases ho:otherR vs with
   | none =>
     rw [othZ_none ho]
     exact ⟨Nat.le_refl _,fun h=>absurd rfl h,(fun s hs=>by cases hs),fun u hu=>hu⟩
   | some x =>
     obtain ⟨l,n⟩:=x
     obtain ⟨h0,_,h1,h2,h3⟩:=otherR_ok vs l n ho
     have hl:(vs.drop n).length=vs.length - n:=List.length_drop
     cases m with
     | zero=>omega
     | succ m =>
       obtain ⟨q1,q2,q3,q4⟩:=othZ_ok m (vs.drop n) (by omega)
       rw [othZ_some ho]
       refine ⟨by simp only [];omega,fun _=>by simp only [];omega,fun s hs=>?_,fun u hu=>List.mem_of_mem_drop (q4 u hu)⟩
       rcases List.mem_append.1 hs with h | h
       ·exact h3 s h
       ·exact (q3 s h).more fun _ hu=>List.mem_of_mem_drop hu
theorem compR_ok (vs:List V):(compR vs).2.length≤vs.length∧((compR vs).1≠[]→(compR vs).2.length<vs.length)∧(∀ s∈(compR vs).1,SvOk vs s)∧∀ u∈(compR vs).2,u∈vs:=by
 unfold compR
 split
 ·exact othZ_ok _ vs (Nat.le_refl _)
 ·rename_i l n h
  obtain ⟨h0,_,h1,h2,h3⟩:=bare_ok (tagR_ok vs) l n h
  have hl:(vs.drop n).length=vs.length - n:=List.length_drop
  obtain ⟨q1,q2,q3,q4⟩:=othZ_ok _ (vs.drop n) (Nat.le_refl _)
  refine ⟨by simp only [];omega,fun _=>by simp only [];omega,fun s hs=>?_,fun u hu=>List.mem_of_mem_drop (q4 u hu)⟩
  rcases List.mem_append.1 hs with h | h
  ·exact h3 s h
  ·exact (q3 s h).more fun _ hu=>List.mem_of_mem_drop hu
theorem spc_ok (vs:List V):(spc vs).length≤vs.length∧∀ u∈spc vs,u∈vs :=
 ⟨(List.dropWhile_suffix _).length_le,fun _ hu=>(List.dropWhile_suffix _).subset hu⟩
theorem combR_ok (vs:List V):(combR vs).2.length≤vs.length∧∀ u∈(combR vs).2,u∈vs:=by
 unfold combR
 obtain ⟨h1,h2⟩:=spc_ok vs
 split
 ·obtain ⟨h3,h4⟩:=spc_ok ((spc vs).drop 1)
  exact ⟨by simp only [List.length_drop] at h3 ⊢;omega,fun u hu=>h2 u (List.mem_of_mem_drop (h4 u hu))⟩
 ·exact ⟨h1,h2⟩
theorem cxF_same:∀ (f g:Nat) (vs:List V),vs.length<f→vs.length<g→cxF f vs=cxF g vs
 | 0,_,_,h,_=>by omega
 | _+1,0,_,_,h=>by omega
 | f+1,g+1,vs,hf,hg=>by
   have hc:=compR_ok vs
   unfold cxF
   split
   ·rfl
   ·rename_i p ps r hcr
    rw [hcr] at hc
    have h1:=hc.2.1 (by simp)
    have h2:=(combR_ok r).1
    simp only [] at h1
    rw [cxF_same f g (combR r).2 (by omega) (by omega)]
def cxStep (vs:List V):Option (Cv×List V):=match compR vs with
 | ([],_)=>none
 | (p::ps,r)=>if (combR r).1=0 then some (([p::ps],[]),(combR r).2) else match cxZ (combR r).2 with
   | none=>none
   | some ((qs,ks),r')=>some (((p::ps)::qs,(combR r).1::ks),r')
theorem cxZ_step (vs:List V):cxZ vs=cxStep vs:=by
 have hc:=compR_ok vs
 unfold cxStep
 conv=>lhs;unfold cxZ cxF
 rcases hx:compR vs with ⟨p0,r⟩
 cases p0 with
 | nil=>rfl
 | cons p ps =>
   rw [hx] at hc
   have h1:=hc.2.1 (by simp)
   have h2:=(combR_ok r).1
   simp only [] at h1
   unfold cxZ
   simp only []
   rw [cxF_same vs.length ((combR r).2.length+1) (combR r).2 (by omega) (by omega)]
   all_goals rfl
def CvOk (vs:List V) (c:Cv):Prop:=c.1≠[]∧∀ p∈c.1,p≠[]∧∀ s∈p,SvOk vs s
theorem cxZ_ok:∀ (m:Nat) (vs:List V),vs.length≤m→∀ c r,cxZ vs=some (c,r)→r.length<vs.length∧(∀ u∈r,u∈vs)∧CvOk vs c
 | m,vs,hm,c,r,h=>by
   have hc:=compR_ok vs
   rw [cxZ_step] at h
   unfold cxStep at h
   split at h
   ·cases h
   ·rename_i p ps q hcr
    rw [hcr] at hc
    obtain ⟨_,h1,h2,h3⟩:=hc
    have h1:=h1 (by simp)
    simp only [] at h1 h2 h3
    obtain ⟨k1,k2⟩:=combR_ok q
    split at h
    ·cases h
     refine ⟨by omega,fun u hu=>h3 u (k2 u hu),by simp,fun p' hp=>?_⟩
     rw [List.mem_singleton.1 hp]
     exact ⟨by simp,h2⟩
    ·cases hx:cxZ (combR q).2 with
     | none=>rw [hx] at h;cases h
     | some x =>
       obtain ⟨⟨qs,ks⟩,r'⟩:=x
       rw [hx] at h
       cases h
       cases m with
       | zero=>omega
       | succ m =>
         obtain ⟨g1,g2,g3,g4⟩:=cxZ_ok m (combR q).2 (by omega) _ _ hx
         refine ⟨by omega,fun u hu=>h3 u (k2 u (g2 u hu)),by simp,fun p' hp=>?_⟩
         rcases List.mem_cons.1 hp with rfl | hp
         ·exact ⟨by simp,h2⟩
         ·obtain ⟨e1,e2⟩:=g4 p' hp
          exact ⟨e1,fun s hs=>(e2 s hs).more fun u hu=>h3 u (k2 u hu)⟩
theorem lsF_same:∀ (f g:Nat) (vs:List V),vs.length<f→vs.length<g→lsF f vs=lsF g vs
 | 0,_,_,h,_=>by omega
 | _+1,0,_,_,h=>by omega
 | f+1,g+1,vs,hf,hg=>by
   unfold lsF
   cases hc:cxZ (spc vs) with
   | none=>rfl
   | some x =>
     obtain ⟨c,r⟩:=x
     obtain ⟨h1,_,_⟩:=cxZ_ok _ _ (Nat.le_refl _) _ _ hc
     have h2:=(spc_ok vs).1
     simp only []
     rw [lsF_same f g (r.drop 1) (by rw [List.length_drop];omega) (by rw [List.length_drop];omega)]
def lsStep (vs:List V):Option (List Cv):=match cxZ (spc vs) with
 | none=>none
 | some (c,r)=>if r.isEmpty=true then some [c] else if ahd r 0 18=true then (match lsZ (r.drop 1) with | none=>none | some l=>some (c::l)) else none
theorem lsZ_step (vs:List V):lsZ vs=lsStep vs:=by
 unfold lsStep
 conv=>lhs;unfold lsZ lsF
 cases hc:cxZ (spc vs) with
 | none=>rfl
 | some x =>
   obtain ⟨c,r⟩:=x
   obtain ⟨h1,_,_⟩:=cxZ_ok _ _ (Nat.le_refl _) _ _ hc
   have h2:=(spc_ok vs).1
   simp only []
   unfold lsZ
   rw [lsF_same vs.length ((r.drop 1).length+1) (r.drop 1) (by rw [List.length_drop];omega) (by omega)]
   all_goals rfl
theorem CvOk.more {vs us:List V} (h:∀ u∈vs,u∈us) {c:Cv} (k:CvOk vs c):CvOk us c:=⟨k.1,fun p hp=>⟨(k.2 p hp).1,fun s hs=>((k.2 p hp).2 s hs).more h⟩⟩
theorem lsZ_ok:∀ (m:Nat) (vs:List V),vs.length≤m→∀ l,lsZ vs=some l→l≠[]∧∀ c∈l,CvOk vs c
 | m,vs,hm,l,h=>by
   rw [lsZ_step] at h
   unfold lsStep at h
   cases hc:cxZ (spc vs) with
   | none=>rw [hc] at h;cases h
   | some x =>
     obtain ⟨c,r⟩:=x
     rw [hc] at h
     obtain ⟨h1,h2,h3⟩:=cxZ_ok _ _ (Nat.le_refl _) _ _ hc
     obtain ⟨k1,k2⟩:=spc_ok vs
     simp only [] at h
     split at h
     ·cases h
      refine ⟨by simp,fun c' hc'=>?_⟩
      rw [List.mem_singleton.1 hc']
      exact h3.more k2
     ·split at h
      ·cases hx:lsZ (r.drop 1) with
       | none=>rw [hx] at h;cases h
       | some l' =>
         rw [hx] at h
         cases h
         cases m with
         | zero=>omega
         | succ m =>
           obtain ⟨g1,g2⟩:=lsZ_ok m (r.drop 1) (by rw [List.length_drop];omega) _ hx
           refine ⟨by simp,fun c' hc'=>?_⟩
           rcases List.mem_cons.1 hc' with rfl | hc'
           ·exact h3.more k2
           ·exact (g2 c' hc').more fun u hu=>k2 u (h2 u (List.mem_of_mem_drop hu))
      ·cases h
theorem depL_mem:∀ {l:List V} {v:V},v∈l→v.dep≤depL l
 | a::r,v,h=>by
   rw [depL]
   rcases List.mem_cons.1 h with rfl | h
   ·omega
   ·have:=depL_mem h
    omega
theorem dep_kids (v:V):v.dep=depL v.kids+1:=by
 cases v with
 | mk t l=>rw [V.dep];rfl
theorem allO_congr {α β:Type} {f g:α→Option β}:∀ {l:List α},(∀ a∈l,f a=g a)→allO f l=allO g l
 | [],_=>rfl
 | a::r,h=>by
   unfold allO
   rw [h a (by simp),allO_congr (l:=r) fun x hx=>h x (by simp [hx])]
theorem fC_congr {f g:List V→Option (List Cx)} {vs:List V} {c:Cv} (hc:CvOk vs c) (h:∀ u∈vs,f u.kids=g u.kids):fC f c=fC g c:=by
 unfold fC
 rw [allO_congr (f:=allO (fS f)) (g:=allO (fS g)) fun p hp=>allO_congr fun s hs=>?_]
 unfold fS
 rcases (hc.2 p hp).2 s hs with h1 | ⟨h1,u,hu,e⟩
 ·simp [h1]
 ·simp only [h1,if_true,e,h u hu]
theorem parseD_same:∀ (d e:Nat) (vs:List V),depL vs<d→depL vs<e→parseD d vs=parseD e vs
 | 0,_,_,h,_=>by omega
 | _+1,0,_,_,h=>by omega
 | d+1,e+1,vs,hd,he=>by
   unfold parseD
   cases hl:lsZ vs with
   | none=>rfl
   | some l =>
     obtain ⟨_,h2⟩:=lsZ_ok _ vs (Nat.le_refl _) l hl
     exact allO_congr fun c hc=>fC_congr (h2 c hc) fun u hu=>by
      have h3:=depL_mem hu
      have h4:=dep_kids u
      exact parseD_same d e u.kids (by omega) (by omega)
theorem parseZ_step (vs:List V):parseZ vs=match lsZ vs with
  | none=>none
  | some l=>allO (fC parseZ) l:=by
 conv=>lhs;unfold parseZ parseD
 cases hl:lsZ vs with
 | none=>rfl
 | some l =>
   obtain ⟨_,h2⟩:=lsZ_ok _ vs (Nat.le_refl _) l hl
   exact allO_congr fun c hc=>fC_congr (h2 c hc) fun u hu=>by
    have h3:=depL_mem hu
    have h4:=dep_kids u
    unfold parseZ
    exact parseD_same _ _ u.kids (by omega) (by omega)
structure KeepT (b:Nat) (w w':World):Prop where
 os:w'.os=w.os
 tape:w'.tape=w.tape
 output:w'.output=w.output
 size:w.heap.size≤w'.heap.size
 typ:∀ j,j<w.heap.size→j≠b→(j<b∨∀ c fr,w.heap[j]?≠some (.cells c 22 fr))→w'.heap[j]? = w.heap[j]?
theorem KeepT.ofX {b:Nat} {w w':World} (h:KeepX b w w'):KeepT b w w':=⟨h.os,h.tape,h.output,h.size,fun j hj hn _=>h.block j hj hn⟩
theorem KeepT.of {b:Nat} {w w':World} (h:Below w.heap.size w w'):KeepT b w w':=.ofX (KeepX.of h)
theorem KeepT.refl (b:Nat) (w:World):KeepT b w w:=.of (Below.refl _ _)
theorem KeepT.trans {b:Nat} {w w1 w2:World} (h:KeepT b w w1) (k:KeepT b w1 w2):KeepT b w w2 :=
 ⟨k.os.trans h.os,k.tape.trans h.tape,k.output.trans h.output,Nat.le_trans h.size k.size,fun j hj hn ht=>by
  have e:=h.typ j hj hn ht
  rw [k.typ j (Nat.lt_of_lt_of_le hj h.size) hn (by rw [e];exact ht),e]⟩
theorem KeepT.low {b:Nat} {w w':World} (h:KeepT b w w') (hb:b≤w.heap.size):Below b w w':=⟨h.os,h.tape,h.output,h.size,fun k hk=>h.typ k (by omega) (by omega) (.inl hk)⟩
theorem KeepT.own {b B:Nat} {w w':World} {T:TypeId} {s n:Nat} {v:Value} {xs:List Value} (h:KeepT b w w') (hb:b<B) (hT:T≠22) (ho:w.ownsRow B T s v n xs):w'.ownsRow B T s v n xs:=by
 refine ⟨ho.1,ho.2.imp id ?_⟩
 rintro ⟨g,cap,cur,e,h1,h2,h3⟩
 refine ⟨g,cap,cur,e,h1,?_,h3⟩
 rw [h.typ g (Array.getElem?_eq_some_iff.1 h2).1 (by omega) (.inr fun c fr hh=>?_),h2]
 rw [h2] at hh
 cases hh
 exact hT rfl
structure Rk (lo:Nat) (W0:World) (b:Nat) (ks:List (List V)) (vs:List V) (W:World):Prop where
 rd:∃ kids cs,Rd lo W b kids vs W∧W.ownsRow (b+1) 22 1 kids ks.length cs∧∀ i (h:i<ks.length),∃ v,cs[i]? = some v∧VsAt (·<min lo b) W v (ks[i]'h)
 keep:KeepT b W0 W
theorem own_stay {W W':World} {B:Nat} {T:TypeId} {s n:Nat} {v:Value} {xs:List Value} (ho:W.ownsRow B T s v n xs) (h:∀ g,g<W.heap.size→B≤g→v.ownBlock=some g→W'.heap[g]? = W.heap[g]?):W'.ownsRow B T s v n xs:=by
 refine ⟨ho.1,ho.2.imp id ?_⟩
 rintro ⟨g,cap,cur,rfl,h1,h2,h3⟩
 exact ⟨g,cap,cur,rfl,h1,(h g (Array.getElem?_eq_some_iff.1 h2).1 h1 rfl).trans h2,h3⟩
theorem own_from {W:World} {B B':Nat} {T:TypeId} {s n:Nat} {v:Value} {xs:List Value} (ho:W.ownsRow B T s v n xs) (h:B'≤B):W.ownsRow B' T s v n xs :=
 ⟨ho.1,ho.2.imp id fun ⟨g,cap,cur,e,h1,h2⟩=>⟨g,cap,cur,e,Nat.le_trans h h1,h2⟩⟩
theorem Rk.open {W0 W:World} {lo b:Nat} {ks:List (List V)} {vs:List V} (h:Rk lo W0 b ks vs W):∃ kids,Rd lo W b kids vs W∧∀ us W',Rd lo W b kids us W'→Rk lo W0 b ks us W':=by
 obtain ⟨kids,cs,h1,h2,h3⟩:=h.rd
 refine ⟨kids,h1,fun us W' hr=>⟨⟨kids,cs,hr.self,own_stay h2 fun g hg hB _=>hr.keep.block g hg (by omega),fun i hi=>?_⟩,h.keep.trans (.ofX hr.keep)⟩⟩
 obtain ⟨v,e,hv⟩:=h3 i hi
 exact ⟨v,e,hv.stay hr.keep.size fun g hg hl=>hr.keep.block g hl (by omega)⟩
theorem Rk.then {W0 W W':World} {lo b:Nat} {ks:List (List V)} {vs:List V} (h:Rk lo W0 b ks vs W) (hb:Below W.heap.size W W'):Rk lo W0 b ks vs W':=by
 obtain ⟨kids,h1,h2⟩:=h.open
 exact h2 vs W' (h1.then hb)
theorem Rk.self {W0 W:World} {lo b:Nat} {ks:List (List V)} {vs:List V} (h:Rk lo W0 b ks vs W):Rk lo W b ks vs W:=⟨h.rd,.refl _ _⟩
theorem Rk.from {W0 W W':World} {lo b:Nat} {ks js:List (List V)} {vs us:List V} (h:Rk lo W0 b ks vs W) (k:Rk lo W b js us W'):Rk lo W0 b js us W':=⟨k.rd,h.keep.trans k.keep⟩
theorem Rk.lt {W0 W:World} {lo b:Nat} {ks:List (List V)} {vs:List V} (h:Rk lo W0 b ks vs W):b<W.heap.size:=by
 obtain ⟨_,_,h1,_⟩:=h.rd
 exact h1.lt
theorem Signs.keepT {W W':World} {b:Nat} (h:Signs W) (hb:KeepT b W W') (hn:sgB<b):Signs W':=fun j v hv=>by
 have h1:=h j v hv
 have hl:=h.lt (v:=v) hv
 exact (cell_of_heap (hb.typ sgB hl (by omega) (.inl hn))).trans h1
inductive Fit:List V→Prop
 | mk (vs:List V) (hl:vs.length≤100000) (h:∀ v∈vs,v.tok.tx.size+v.tok.un.size≤2000000) (hk:∀ v∈vs,Fit v.kids):Fit vs
theorem Fit.len {vs:List V} (h:Fit vs):vs.length≤100000:=by cases h;assumption
theorem Fit.tx {vs:List V} (h:Fit vs):∀ v∈vs,v.tok.tx.size+v.tok.un.size≤2000000:=by cases h;assumption
theorem Fit.kids {vs:List V} (h:Fit vs):∀ v∈vs,Fit v.kids:=by cases h;assumption
theorem Fit.sub {vs us:List V} (h:Fit vs) (hl:us.length≤vs.length) (hm:∀ u∈us,u∈vs):Fit us:=.mk us (Nat.le_trans hl h.len) (fun v hv=>h.tx v (hm v hv)) (fun v hv=>h.kids v (hm v hv))
theorem Fit.drop {vs:List V} (h:Fit vs) (n:Nat):Fit (vs.drop n):=h.sub (by rw [List.length_drop];omega) fun _ hu=>List.mem_of_mem_drop hu
theorem Fit.spc {vs:List V} (h:Fit vs):Fit (L.spc vs):=h.sub (spc_ok vs).1 (spc_ok vs).2
theorem Fit.tx' {vs:List V} (h:Fit vs):∀ v∈vs,v.tok.tx.size≤1000000000000:=fun v hv=>by have:=h.tx v hv;omega
def spB (v:V):Bool:=v.tok.k == 13
def cmB (v:V):Bool:=v.tok.k == 18
theorem tw_all {α:Type} {p:α→Bool}:∀ {l:List α} {v:α},v∈l.takeWhile p→p v=true
 | a::l,v,h=>by
   rw [List.takeWhile_cons] at h
   split at h
   ·rename_i ha
    rcases List.mem_cons.1 h with rfl | h
    ·exact ha
    ·exact tw_all h
   ·cases h
theorem dw_nil {α:Type} {p:α→Bool}:∀ {l:List α},l.dropWhile p=[] ↔ ∀ x∈l,p x=true
 | []=>by simp
 | a::l=>by
   rw [List.dropWhile_cons]
   split
   ·rename_i ha
    rw [dw_nil (l:=l)]
    constructor
    ·intro h x hx
     rcases List.mem_cons.1 hx with rfl | hx
     ·exact ha
     ·exact h x hx
    ·exact fun h x hx=>h x (by simp [hx])
   ·rename_i ha
    simp [ha]
theorem spc_def (l:List V):spc l=l.dropWhile spB:=rfl
def trm (l:List V):List V:=((spc l).reverse.dropWhile spB).reverse
def NE (l:List V):Prop:=∀ v,l.getLast? = some v→spB v=false
theorem NE.nil:NE []:=fun v h=>by cases h
theorem NE.suf {a b:List V} (h:NE (a++b)):NE b:=fun v hv=>h v (by rw [List.getLast?_append,hv];rfl)
theorem NE.drop {l:List V} (h:NE l) (n:Nat):NE (l.drop n):=by
 rw [← List.take_append_drop n l] at h
 exact h.suf
theorem NE.sp {l:List V} (h:NE l):NE (spc l):=by
 obtain ⟨a,e⟩:=List.dropWhile_suffix spB (l:=l)
 rw [← e] at h
 exact h.suf
theorem dw_rev {l:List V} (h:NE l):l.reverse.dropWhile spB=l.reverse:=by
 cases hl:l.reverse with
 | nil=>rfl
 | cons v r =>
   have e:l=r.reverse++[v]:=by rw [← List.reverse_reverse l,hl,List.reverse_cons]
   have:=h v (by rw [e];simp)
   rw [List.dropWhile_cons,this]
   rfl
theorem trm_ne {l:List V} (h:NE l):trm l=spc l:=by
 unfold trm
 rw [dw_rev h.sp,List.reverse_reverse]
theorem ne_rev (l:List V):NE (l.dropWhile spB).reverse:=fun v hv=>by
 rw [List.getLast?_reverse] at hv
 exact List.head?_dropWhile_not spB l |> fun h=>by rw [hv] at h;exact h
theorem trm_split (l:List V):∃ S,spc l=trm l++S∧(∀ v∈S,spB v=true)∧NE (trm l):=by
 refine ⟨((spc l).reverse.takeWhile spB).reverse,?_,fun v hv=>?_,ne_rev _⟩
 ·unfold trm
  rw [← List.reverse_append,List.takeWhile_append_dropWhile,List.reverse_reverse]
 ·exact tw_all (List.mem_reverse.1 hv)
theorem spc_app (t T:List V):spc (t++T)=if (spc t).isEmpty=true then spc T else spc t++T:=List.dropWhile_append
theorem spc_all {S:List V} (h:∀ v∈S,spB v=true) (T:List V):spc (S++T)=spc T:=by
 rw [spc_app,if_pos]
 rw [spc_def,List.isEmpty_iff,dw_nil]
 exact h
theorem spc_nil_all {t:List V} (h:spc t=[]):∀ v∈t,spB v=true:=dw_nil.1 h
theorem NE.some {t:List V} (h:NE t) (h0:t≠[]):spc t≠[]:=fun e=>by
 have hl:=List.getLast?_eq_some_getLast h0
 have h1:=h _ hl
 have h2:=spc_nil_all e _ (List.getLast_mem h0)
 rw [h1] at h2
 cases h2
theorem spc_app_ne {t:List V} (h:NE t) (h0:t≠[]) (T:List V):spc (t++T)=spc t++T:=by
 rw [spc_app,if_neg]
 rw [List.isEmpty_iff]
 exact h.some h0
def St (T:List V):Prop:=∀ v r,T=v::r→v.tok.k=13∨v.tok.k=18
theorem otherR_st {T:List V} (h:St T):otherR T=none:=by
 cases T with
 | nil=>rfl
 | cons v r =>
   have hv:=h v r rfl
   have e4:(v.tok.k == 4)=false:=by rcases hv with e | e <;> rw [e] <;> rfl
   have e9:(v.tok.k == 9)=false:=by rcases hv with e | e <;> rw [e] <;> rfl
   have e19:(v.tok.k == 19)=false:=by rcases hv with e | e <;> rw [e] <;> rfl
   have e16:(v.tok.k == 16)=false:=by rcases hv with e | e <;> rw [e] <;> rfl
   have i1:idR (v::r)=none:=by unfold idR;simp only [e4,Bool.false_and];rfl
   have i2:classR (v::r)=none:=by
    cases r with
    | nil=>rfl
    | cons u r=>unfold classR;rw [show dlm (v::u::r) 0 dotB=(v.tok.k == 9 && (v.tok.tx.toList == dotB.toList)) from rfl,e9];rfl
   have i3:attrR (v::r)=none:=by unfold attrR;simp only [e19];rfl
   have ha:ahd (v::r) 0 16=false:=e16
   have i4:stateR (v::r)=none:=by
    unfold stateR
    split
    ·rw [ha];rfl
    ·rfl
   have i5:fnR (v::r)=0:=by
    unfold fnR
    split
    ·rw [ha];rfl
    ·rfl
   have i6:placeR (v::r)=none:=by
    unfold placeR
    split
    ·rw [i5];rfl
    ·rfl
   have i7:choiceR (v::r)=none:=by
    unfold choiceR
    split
    ·rw [i5];rfl
    ·rfl
   unfold otherR
   rw [i1,i2,i3,i4,i6,i7]
   rfl
theorem otherR_app {t T:List V} (h0:t≠[]) (h:St T):otherR (t++T)=otherR t:=by
 match t,h0 with
 | v::u::r,_=>rfl
 | [v],_ =>
   cases T with
   | nil=>rfl
   | cons x T =>
     have hv:=h x T rfl
     have e1:(x.tok.k == 1)=false:=by rcases hv with e | e <;> rw [e] <;> rfl
     have e2:(x.tok.k == 2)=false:=by rcases hv with e | e <;> rw [e] <;> rfl
     have i2:classR (v::x::T)=none:=by show (if (dlm (v::x::T) 0 dotB && (x.tok.k == 1))=true then _ else _)=_;rw [e1,Bool.and_false];rfl
     have i4:stateR (v::x::T)=none:=by
      show (if (ahd (v::x::T) 0 16 && (x.tok.k == 1))=true then _ else _)=_
      rw [e1,Bool.and_false];rfl
     have i5:fnR (v::x::T)=0:=by
      show (if (ahd (v::x::T) 0 16 && (x.tok.k == 2))=true then _ else _)=_
      rw [e2,Bool.and_false];rfl
     have i6:placeR (v::x::T)=none:=by
      show (if (plcB (fnR (v::x::T)) && _)=true then _ else _)=_
      rw [i5];rfl
     have i7:choiceR (v::x::T)=none:=by
      show (if lstB (fnR (v::x::T))=true then _ else _)=_
      rw [i5];rfl
     show otherR (v::x::T)=otherR [v]
     unfold otherR
     rw [i2,i4,i6,i7]
     rfl
theorem othZ_app {T:List V} (h:St T):∀ (m:Nat) (t:List V),t.length≤m→othZ (t++T)=((othZ t).1,(othZ t).2++T)
 | m,t,hm=>by
   cases ho:otherR t with
   | none =>
     have e:otherR (t++T)=none:=by
      by_cases h0:t=[]
      ·subst h0
       exact otherR_st h
      ·rw [otherR_app h0 h]
       exact ho
     rw [othZ_none e,othZ_none ho]
   | some x =>
     obtain ⟨l,n⟩:=x
     obtain ⟨_,_,h1,h2,_⟩:=otherR_ok t l n ho
     have h0:t≠[]:=fun e=>by rw [e] at ho;cases ho
     have e:otherR (t++T)=some (l,n):=by rw [otherR_app h0 h];exact ho
     cases m with
     | zero=>omega
     | succ m =>
       have ih:=othZ_app h m (t.drop n) (by rw [List.length_drop];omega)
       rw [othZ_some e,othZ_some ho,List.drop_append_of_le_length h2,ih]
theorem tagR_app {t T:List V} (h:St T):tagR (t++T)=tagR t:=by
 cases t with
 | cons v r=>rfl
 | nil =>
   cases T with
   | nil=>rfl
   | cons v r =>
     have hv:=h v r rfl
     have e1:(v.tok.k == 1)=false:=by rcases hv with e | e <;> rw [e] <;> rfl
     have e9:(v.tok.k == 9)=false:=by rcases hv with e | e <;> rw [e] <;> rfl
     show (if ((v.tok.k == 1) || (v.tok.k == 9 && _))=true then _ else _)=_
     rw [e1,e9]
     rfl
theorem compR_app {T:List V} (h:St T) (t:List V):compR (t++T)=((compR t).1,(compR t).2++T):=by
 unfold compR
 rw [tagR_app h]
 have hk:=tagR_ok t
 cases ht:tagR t with
 | none=>exact othZ_app h _ t (Nat.le_refl _)
 | some x =>
   obtain ⟨l,n⟩:=x
   obtain ⟨_,_,_,h2,_⟩:=hk l n ht
   show ((l.map fun s=>(s,[]))++(othZ ((t++T).drop n)).1,(othZ ((t++T).drop n)).2)=((l.map fun s=>(s,[]))++(othZ (t.drop n)).1,(othZ (t.drop n)).2++T)
   rw [List.drop_append_of_le_length h2,othZ_app h _ (t.drop n) (Nat.le_refl _)]
theorem othZ_suf:∀ (m:Nat) (t:List V),t.length≤m→∃ a,t=a++(othZ t).2
 | m,t,hm=>by
   cases ho:otherR t with
   | none=>exact ⟨[],by rw [othZ_none ho];rfl⟩
   | some x =>
     obtain ⟨l,n⟩:=x
     obtain ⟨_,_,h1,h2,_⟩:=otherR_ok t l n ho
     cases m with
     | zero=>omega
     | succ m =>
       obtain ⟨a,e⟩:=othZ_suf m (t.drop n) (by rw [List.length_drop];omega)
       refine ⟨t.take n++a,?_⟩
       rw [othZ_some ho,List.append_assoc]
       simp only []
       rw [← e,List.take_append_drop]
theorem compR_suf (t:List V):∃ a,t=a++(compR t).2:=by
 unfold compR
 cases ht:tagR t with
 | none=>exact othZ_suf _ t (Nat.le_refl _)
 | some x =>
   obtain ⟨l,n⟩:=x
   obtain ⟨a,e⟩:=othZ_suf _ (t.drop n) (Nat.le_refl _)
   refine ⟨t.take n++a,?_⟩
   show t=_++(othZ (t.drop n)).2
   rw [List.append_assoc,← e,List.take_append_drop]
def cmbV (v:V):Int:=if (v.tok.k == 9)=true then numZ 0 v.tok.tx else 0
theorem cbN_cons (v:V) (r:List V):cbN (v::r)=cmbV v:=rfl
def stopB (r:List V):Bool:=match r with
 | []=>true
 | v::_=>spB v || decide (cmbV v≠0)
def pre (p:List Sv) (k:Int):Option Cv→Option Cv
 | none=>none
 | some (qs,ks)=>some (p::qs,k::ks)
def cxW (f:List V→Option Cv) (p:List Sv) (sp:Bool):List V→Option Cv
 | []=>none
 | u::us=>if cmbV u≠0 then pre p (cmbV u) (f (trm us)) else if sp=true then pre p 1 (f (u::us)) else none
def cxV (f:List V→Option Cv) (p:List Sv) (r:List V):Option Cv:=match r with
 | []=>some ([p],[])
 | v::_=>cxW f p (spB v) (trm r)
def cxU:Nat→List V→Option Cv
 | 0,_=>none
 | n+1,l=>match compR l with
   | ([],_)=>none
   | (p::ps,r)=>if stopB r=false then none else cxV (cxU n) (p::ps) r
def Zt (Z:List V):Prop:=∀ v r,Z=v::r→v.tok.k=18
theorem Zt.spc {Z:List V} (h:Zt Z):spc Z=Z:=by
 cases Z with
 | nil=>rfl
 | cons v r =>
   have e:spB v=false:=by unfold spB;rw [h v r rfl];rfl
   rw [spc_def,List.dropWhile_cons,e]
   rfl
theorem st_tail {S Z:List V} (hS:∀ v∈S,spB v=true) (hZ:Zt Z):St (S++Z):=by
 intro v r e
 cases S with
 | nil=>exact .inr (hZ v r e)
 | cons s S =>
   cases e
   exact .inl (by simpa [spB] using hS v (by simp))
def Bad (o:Option (Cv×List V)):Prop:=o=none∨∃ c r,o=some (c,r)∧r≠[]∧ahd r 0 18=false
def Rel (o:Option Cv) (q:Option (Cv×List V)) (Z:List V):Prop:=match o with
 | some c=>q=some (c,Z)
 | none=>Bad q
def preZ (p:List Sv) (k:Int):Option (Cv×List V)→Option (Cv×List V)
 | none=>none
 | some ((qs,ks),r')=>some ((p::qs,k::ks),r')
theorem rel_pre {p:List Sv} {k:Int} {o:Option Cv} {q:Option (Cv×List V)} {Z:List V} (h:Rel o q Z):Rel (pre p k o) (preZ p k q) Z:=by
 cases o with
 | some c =>
   obtain ⟨qs,ks⟩:=c
   have h:q=some ((qs,ks),Z):=h
   subst h
   rfl
 | none =>
   rcases h with rfl | ⟨c,r,rfl,h1,h2⟩
   ·exact .inl rfl
   ·exact .inr ⟨_,r,rfl,h1,h2⟩
theorem cx_main:∀ (n:Nat) (t S Z:List V),t.length<n→NE t→(∀ v∈t,v.tok.k≠18)→(∀ v∈S,spB v=true)→Zt Z→Rel (cxU n t) (cxZ (t++(S++Z))) Z
 | 0,t,S,Z,h,_,_,_,_=>by omega
 | n+1,t,S,Z,hn,hne,hnc,hS,hZ=>by
   have hst:=st_tail hS hZ
   have hco:=compR_app hst t
   have hok:=compR_ok t
   obtain ⟨pre',hsuf⟩:=compR_suf t
   rw [cxZ_step]
   unfold cxStep cxU
   rw [hco]
   rcases hcr:compR t with ⟨l,r⟩
   rw [hcr] at hok hsuf
   simp only [] at hok hsuf ⊢
   cases l with
   | nil=>exact .inl rfl
   | cons p ps =>
     have hlt:=hok.2.1 (by simp)
     have hrne:NE r:=by rw [hsuf] at hne;exact hne.suf
     have hrc:∀ v∈r,v.tok.k≠18:=fun v hv=>hnc v (by rw [hsuf];simp [hv])
     simp only []
     cases r with
     | nil =>
       have e1:spc ([]++(S++Z))=Z:=by rw [List.nil_append,spc_all hS,hZ.spc]
       have e2:cbN Z=0:=by
        cases Z with
        | nil=>rfl
        | cons v r =>
          rw [cbN_cons]
          unfold cmbV
          rw [hZ v r rfl]
          rfl
       have e3:∀ was,cbE was Z=0:=fun was=>by
        unfold cbE
        rw [if_neg]
        rintro ⟨_,h1,h2⟩
        cases Z with
        | nil=>exact h1 rfl
        | cons v r =>
          have:(v.tok.k == 18)=false:=h2
          rw [hZ v r rfl] at this
          cases this
       have e4:combR ([]++(S++Z))=(0,Z):=by
        unfold combR
        rw [e1,e2,e3]
        simp
       rw [e4]
       rfl
     | cons v r =>
       have hs0:spc (v::r)≠[]:=hrne.some (by simp)
       have e1:spc ((v::r)++(S++Z))=spc (v::r)++(S++Z):=spc_app_ne hrne (by simp) _
       have htr:trm (v::r)=spc (v::r):=trm_ne hrne
       show Rel (if stopB (v::r)=false then none else cxW (cxU n) (p::ps) (spB v) (trm (v::r))) _ _
       rw [htr]
       cases hsp:spc (v::r) with
       | nil=>exact absurd hsp hs0
       | cons u us =>
         have hus:NE (u::us):=by rw [← hsp];exact hrne.sp
         have hul:(u::us).length≤(v::r).length:=by rw [← hsp];exact (spc_ok _).1
         have huc:∀ x∈u::us,x.tok.k≠18:=fun x hx=>hrc x (by rw [← hsp] at hx;exact (spc_ok _).2 x hx)
         rw [hsp] at e1
         have ea:ahd ((v::r)++(S++Z)) 0 13=spB v:=rfl
         have hcb:combR ((v::r)++(S++Z))=if cmbV u≠0 then (cmbV u,spc (us++(S++Z))) else (cbE (spB v) ((u::us)++(S++Z)),(u::us)++(S++Z)):=by
          unfold combR
          rw [e1,ea]
          rfl
         rw [hcb]
         have hstop:stopB (v::r)=(spB v || decide (cmbV v≠0)):=rfl
         by_cases hcu:cmbV u≠0
         ·rw [if_pos hcu]
          have hs1:stopB (v::r)=true:=by
           rw [hstop]
           cases hv:spB v with
           | true=>rfl
           | false =>
             have:spc (v::r)=v::r:=by rw [spc_def,List.dropWhile_cons,hv];rfl
             rw [this] at hsp
             cases hsp
             simp [hcu]
          rw [hs1,if_neg (by decide)]
          show Rel (if cmbV u≠0 then _ else _) (if cmbV u=0 then _ else _) _
          rw [if_pos hcu,if_neg hcu]
          show Rel _ (preZ (p::ps) (cmbV u) (cxZ (spc (us++(S++Z))))) _
          refine rel_pre ?_
          rw [trm_ne (show NE us from NE.suf (a:=[u]) hus)]
          have hune:NE us:=NE.suf (a:=[u]) hus
          have hul2:us.length+1≤(v::r).length:=hul
          by_cases hu0:us=[]
          ·subst hu0
           have e5:spc ([]++(S++Z))=[]++([]++Z):=by rw [List.nil_append,spc_all hS,hZ.spc];rfl
           rw [e5]
           exact cx_main n [] [] Z (by simp only [List.length_nil];omega) NE.nil (by simp) (by simp) hZ
          ·rw [spc_app_ne hune hu0]
           exact cx_main n (spc us) S Z (by have:=(spc_ok us).1;omega) hune.sp (fun x hx=>huc x (by simp [(spc_ok us).2 x hx])) hS hZ
         ·have hcu':cmbV u=0:=by simpa using hcu
          rw [if_neg hcu]
          have hu18:ahd ((u::us)++(S++Z)) 0 18=false:=by
           show (u.tok.k == 18)=false
           simpa using huc u (by simp)
          cases hv:spB v with
          | true =>
            have hs1:stopB (v::r)=true:=by rw [hstop,hv];rfl
            have e6:cbE true ((u::us)++(S++Z))=1:=by
             unfold cbE
             rw [if_pos ⟨rfl,by simp,hu18⟩]
            rw [hs1,e6,if_neg (by decide)]
            show Rel (if cmbV u≠0 then _ else if true=true then _ else _) (if (1:Int)=0 then _ else _) _
            rw [if_neg hcu,if_pos rfl,if_neg (by decide)]
            show Rel _ (preZ (p::ps) 1 (cxZ ((u::us)++(S++Z)))) _
            refine rel_pre (k:=1) ?_
            exact cx_main n (u::us) S Z (by omega) hus huc hS hZ
          | false =>
            have hvu:v=u∧r=us:=by
             have:spc (v::r)=v::r:=by rw [spc_def,List.dropWhile_cons,hv];rfl
             rw [this] at hsp
             cases hsp
             exact ⟨rfl,rfl⟩
            obtain ⟨rfl,rfl⟩:=hvu
            have hs1:stopB (v::r)=false:=by rw [hstop,hv,hcu'];rfl
            have e6:cbE false ((v::r)++(S++Z))=0:=by
             unfold cbE
             rw [if_neg (by simp)]
            rw [hs1,e6,if_pos rfl]
            exact .inr ⟨_,_,rfl,by simp,hu18⟩
def splt:List V→List (List V)
 | []=>[[]]
 | v::r=>if cmB v=true then []::splt r else match splt r with
   | []=>[[v]]
   | p::ps=>(v::p)::ps
theorem splt_ne:∀ l:List V,splt l≠[]
 | []=>by simp [splt]
 | v::r=>by
   unfold splt
   split
   ·simp
   ·split <;> simp
theorem splt_spec:∀ vs:List V,∃ p Z,vs=p++Z∧(∀ v∈p,v.tok.k≠18)∧((Z=[]∧splt vs=[p])∨∃ c q,Z=c::q∧c.tok.k=18∧splt vs=p::splt q)
 | []=>⟨[],[],rfl,by simp,.inl ⟨rfl,rfl⟩⟩
 | v::r=>by
   by_cases hv:v.tok.k=18
   ·refine ⟨[],v::r,rfl,by simp,.inr ⟨v,r,rfl,hv,?_⟩⟩
    rw [splt,if_pos (by simp [cmB,hv])]
   ·obtain ⟨p,Z,e,h1,h2⟩:=splt_spec r
    have hs:∀ q ps,splt r=q::ps→splt (v::r)=(v::q)::ps:=fun q ps e=>by
     rw [splt,if_neg (by simpa [cmB] using hv),e]
    refine ⟨v::p,Z,by rw [e];rfl,fun x hx=>?_,?_⟩
    ·rcases List.mem_cons.1 hx with rfl | hx
     ·exact hv
     ·exact h1 x hx
    ·rcases h2 with ⟨rfl,h2⟩ | ⟨c,q,rfl,h3,h4⟩
     ·exact .inl ⟨rfl,hs _ _ h2⟩
     ·exact .inr ⟨c,q,rfl,h3,hs _ _ h4⟩
def cxP (p:List V):Option Cv:=cxU (p.length+1) (trm p)
theorem trm_len (p:List V):(trm p).length≤p.length:=by
 obtain ⟨S,e,_⟩:=trm_split p
 have h1:=congrArg List.length e
 rw [List.length_append] at h1
 have:=(spc_ok p).1
 omega
theorem trm_mem (p:List V):∀ v∈trm p,v∈p:=fun v hv=>by
 obtain ⟨S,e,_⟩:=trm_split p
 exact (spc_ok p).2 v (by rw [e];simp [hv])
theorem cx_part {p Z:List V} (hp:∀ v∈p,v.tok.k≠18) (hZ:Zt Z):Rel (cxP p) (cxZ (spc (p++Z))) Z:=by
 obtain ⟨S,e,hS,hne⟩:=trm_split p
 have hl:=trm_len p
 by_cases h0:spc p=[]
 ·have ht:trm p=[]:=by rw [h0] at e;exact (List.append_eq_nil_iff.1 e.symm).1
  have e2:spc (p++Z)=[]++([]++Z):=by rw [spc_app,if_pos (by rw [h0];rfl),hZ.spc];rfl
  unfold cxP
  rw [ht,e2]
  exact cx_main _ [] [] Z (by simp) NE.nil (by simp) (by simp) hZ
 ·have e2:spc (p++Z)=trm p++(S++Z):=by rw [spc_app,if_neg (by rw [List.isEmpty_iff];exact h0),e,List.append_assoc]
  rw [e2]
  exact cx_main _ (trm p) S Z (by omega) hne (fun v hv=>hp v (trm_mem p v hv)) hS hZ
theorem ls_main:∀ (m:Nat) (vs:List V),vs.length≤m→lsZ vs=allO cxP (splt vs)
 | m,vs,hm=>by
   obtain ⟨p,Z,e,hp,hz⟩:=splt_spec vs
   rw [lsZ_step]
   unfold lsStep
   rcases hz with ⟨rfl,hs⟩ | ⟨c,q,rfl,hc,hs⟩
   ·have h:=cx_part (Z:=[]) hp (fun v r h=>by cases h)
    rw [hs,e]
    unfold allO
    cases hx:cxP p with
    | none =>
      rw [hx] at h
      rcases h with h | ⟨c,r,h,h1,h2⟩
      ·rw [h]
      ·rw [h]
       simp only []
       rw [if_neg (by rw [List.isEmpty_iff];exact h1),if_neg (by rw [h2];decide)]
    | some x =>
      rw [hx] at h
      have h:cxZ _=some (x,[]):=h
      rw [h]
      rfl
   ·have hZt:Zt (c::q):=fun v r e=>by cases e;exact hc
    have h:=cx_part hp hZt
    rw [hs,e]
    unfold allO
    cases hx:cxP p with
    | none =>
      rw [hx] at h
      rcases h with h | ⟨c,r,h,h1,h2⟩
      ·rw [h]
      ·rw [h]
       simp only []
       rw [if_neg (by rw [List.isEmpty_iff];exact h1),if_neg (by rw [h2];decide)]
    | some x =>
      rw [hx] at h
      have h:cxZ _=some (x,c::q):=h
      cases m with
      | zero =>
        rw [e] at hm
        simp at hm
      | succ m =>
        have ih:=ls_main m q (by rw [e] at hm;simp at hm;omega)
        rw [h]
        simp only []
        rw [if_neg (by simp),if_pos (by show (c.tok.k == 18)=true;rw [hc];rfl)]
        show (match lsZ q with | none=>none | some l=>some (x::l))=_
        rw [ih]
        cases allO cxP (splt q) <;> rfl
def vAg (t:T5) (kid:Value):Value:=.agg #[.int .i64 t.k,.string t.tx,.string t.un,.bool t.wh,.bool t.fl,kid]
theorem ris_any (w:World) (t:T5) (ka:Option Addr) (kn kc:Nat) (k:Int):Calls Tryz.prog 29 #[vAg t (.slice ka kn kc),.int .i64 k] w fun e w'=>e=.returned (.bool (t.k == k))∧Below w.heap.size w w':=by
 obtain ⟨tk,tx,un,wh,fl⟩:=t
 have HB:Hid (Below w.heap.size w (w.alloc (.cells #[.int .i64 tk,.string tx,.string un,.bool wh,.bool fl,.slice ka kn kc] 34))):=(Below.refl _ _).alloc (Nat.le_refl _) _
 unfold vAg
 dsimp only
 go_enter Tryz.func29,Tryz.ntmps29
 go_wp2
 go_ret
 exact ⟨rfl,HB.out⟩
def dlT (t:T5):ByteArray:=if (t.k == 9)=true then t.tx else ⟨#[]⟩
theorem rdelim_any (w:World) (t:T5) (ka:Option Addr) (kn kc:Nat):Calls Tryz.prog 32 #[vAg t (.slice ka kn kc)] w fun e w'=>e=.returned (.string (dlT t))∧Below w.heap.size w w':=by
 obtain ⟨tk,tx,un,wh,fl⟩:=t
 have HB:Hid (Below w.heap.size w (w.alloc (.cells #[.int .i64 tk,.string tx,.string un,.bool wh,.bool fl,.slice ka kn kc] 34))):=(Below.refl _ _).alloc (Nat.le_refl _) _
 have HE:Hid (dlT ⟨tk,tx,un,wh,fl⟩=if (tk == 9)=true then tx else ⟨#[]⟩):=rfl
 unfold vAg
 dsimp only
 generalize dlT ⟨tk,tx,un,wh,fl⟩=r at *
 cases h:(tk == 9)
 ·have HR:Hid (r=⟨#[]⟩):=by rw [Hid,HE.out,h];rfl
  clear HE
  go_enter Tryz.func32,Tryz.ntmps32
  go_wp2
  go_ret
  exact ⟨by rw [HR.out];rfl,HB.out⟩
 ·have HR:Hid (r=tx):=by rw [Hid,HE.out,h];rfl
  clear HE
  go_enter Tryz.func32,Tryz.ntmps32
  go_wp2
  go_ret
  exact ⟨by rw [HR.out];rfl,HB.out⟩
def cbT (s:ByteArray):Int:=if (s.toList == [62])=true then 2 else if (s.toList == [43])=true then 3 else if (s.toList == [126])=true then 4 else 0
theorem rcomb_any (w:World) (s:ByteArray):Calls Tryz.prog 31 #[.string s] w fun e w'=>e=.returned (.int .i64 (cbT s))∧Below w.heap.size w w':=by
 have HE:Hid (cbT s=if (s.toList == [62])=true then 2 else if (s.toList == [43])=true then 3 else if (s.toList == [126])=true then 4 else 0):=rfl
 have HB:=hid_mk (Below.refl w.heap.size w)
 generalize cbT s=r at *
 cases h1:(s.toList == [62])
 ·cases h2:(s.toList == [43])
  ·cases h3:(s.toList == [126])
   ·have HR:Hid (r=0):=by rw [Hid,HE.out,h1,h2,h3];rfl
    clear HE
    go_enter Tryz.func31,Tryz.ntmps31
    go_wp2
    go_ret
    exact ⟨by rw [HR.out];rfl,HB.out⟩
   ·have HR:Hid (r=4):=by rw [Hid,HE.out,h1,h2,h3];rfl
    clear HE
    go_enter Tryz.func31,Tryz.ntmps31
    go_wp2
    go_ret
    exact ⟨by rw [HR.out];rfl,HB.out⟩
  ·have HR:Hid (r=3):=by rw [Hid,HE.out,h1,h2];rfl
   clear HE
   go_enter Tryz.func31,Tryz.ntmps31
   go_wp2
   go_ret
   exact ⟨by rw [HR.out];rfl,HB.out⟩
 ·have HR:Hid (r=2):=by rw [Hid,HE.out,h1];rfl
  clear HE
  go_enter Tryz.func31,Tryz.ntmps31
  go_wp2
  go_ret
  exact ⟨by rw [HR.out];rfl,HB.out⟩
theorem num0 (s:ByteArray):numZ 0 s=cbT s:=by
 have e:∀ a:List UInt8,(a == s.toList)=(s.toList == a):=fun a=>by
  rw [Bool.eq_iff_iff,beq_iff_eq,beq_iff_eq]
  exact eq_comm
 unfold numZ cbT sgn
 simp only [numL]
 simp [e]
theorem eqB_l:eqB.toList=[61]:=by kernel_rfl
theorem dotB_l:dotB.toList=[46]:=by kernel_rfl
theorem cb_0:cbT ⟨#[]⟩=0:=by kernel_rfl
theorem n1_0:numZ 1 ⟨#[]⟩=0:=by kernel_rfl
theorem dlT_no {t:T5} (h:(t.k == 9)=false):dlT t=⟨#[]⟩:=by unfold dlT;rw [h];rfl
theorem dlm_cons (v:V) (r:List V) (s:ByteArray):dlm (v::r) 0 s=(v.tok.k == 9 && (v.tok.tx.toList == s.toList)):=rfl
theorem dlm_cons1 (x v:V) (r:List V) (s:ByteArray):dlm (x::v::r) 1 s=(v.tok.k == 9 && (v.tok.tx.toList == s.toList)):=rfl
def opX (u:V) (r:List V):Int:=match r with
 | x::_=>if ((dlT x.tok).toList == [61])=true then numZ 1 (dlT u.tok) else 0
 | []=>0
def atX3 (nm:ByteArray) (op:Int) (l:List V):Option S6:=match l with
 | [x]=>if (x.tok.k == 1 || x.tok.k == 5)=true then some ⟨4,nm,op,x.tok.tx,0,0⟩ else none
 | _=>none
def atX2 (nm:ByteArray) (l:List V):Option S6:=match l with
 | []=>some ⟨4,nm,0,⟨#[]⟩,0,0⟩
 | u::r=>if ((dlT u.tok).toList == [61])=true then atX3 nm 1 (trm r) else if opX u r=0 then none else atX3 nm (opX u r) (trm (r.drop 1))
def attrX (l:List V):Option S6:=match l with
 | v::r=>if (v.tok.k == 1)=true then atX2 (foldS v.tok.tx) (trm r) else none
 | []=>none
theorem dl_is (t:T5) (c:UInt8):((dlT t).toList == [c])=(t.k == 9 && (t.tx.toList == [c])):=by
 unfold dlT
 cases t.k == 9
 ·simp
 ·simp
theorem NE.empty {x:List V} (h:NE x) (e:spc x=[]):x=[]:=by
 by_cases h0:x=[]
 ·exact h0
 ·exact absurd e (h.some h0)
theorem spc_sp {S:List V} (h:∀ v∈S,spB v=true):spc S=[]:=dw_nil.2 h
theorem NE.tail {u:V} {us:List V} (h:NE (u::us)):NE us:=NE.suf (a:=[u]) h
theorem sqV_x {nm:ByteArray} {op:Int} (hop:op≠0) {x S:List V} (hx:NE x) (hS:∀ v∈S,spB v=true):sqV nm op (spc (x++S))=atX3 nm op (trm x):=by
 rw [trm_ne hx]
 cases hs:spc x with
 | nil =>
   rw [hx.empty hs,List.nil_append,spc_sp hS]
   rfl
 | cons u us =>
   have hne:NE (u::us):=by rw [← hs];exact hx.sp
   rw [spc_app_ne hx (fun e=>by rw [e] at hs;cases hs),hs]
   have ho:(op != 0)=true:=by simpa using hop
   show (if (op != 0 && (u.tok.k == 1 || u.tok.k == 5) && (spc (us++S)).isEmpty)=true then _ else _)=_
   rw [ho,Bool.true_and]
   cases us with
   | nil =>
     rw [List.nil_append,spc_sp hS]
     simp [atX3]
   | cons y ys =>
     rw [spc_app_ne hne.tail (by simp)]
     have:spc (y::ys)≠[]:=hne.tail.some (by simp)
     cases h2:spc (y::ys) with
     | nil=>exact absurd h2 this
     | cons z zs =>
       simp [atX3]
theorem sqV_0 (nm:ByteArray) (us:List V):sqV nm 0 us=none:=by
 cases us with
 | nil=>rfl
 | cons u us=>rfl
theorem sqO_x {nm:ByteArray} {x S:List V} (hx:NE x) (hS:∀ v∈S,spB v=true):sqO nm (spc (x++S))=atX2 nm (trm x):=by
 rw [trm_ne hx]
 cases hs:spc x with
 | nil =>
   rw [hx.empty hs,List.nil_append,spc_sp hS]
   rfl
 | cons u us =>
   have hne:NE (u::us):=by rw [← hs];exact hx.sp
   rw [spc_app_ne hx (fun e=>by rw [e] at hs;cases hs),hs]
   show sqV nm (opR (u::(us++S))).1 (spc ((u::(us++S)).drop (opR (u::(us++S))).2))=atX2 nm (u::us)
   show _=if ((dlT u.tok).toList == [61])=true then atX3 nm 1 (trm us) else if opX u us=0 then none else atX3 nm (opX u us) (trm (us.drop 1))
   rw [dl_is]
   have ho:opR (u::(us++S))=if (u.tok.k == 9 && (u.tok.tx.toList == [61]))=true then (1,1) else if (u.tok.k == 9 && dlm (u::(us++S)) 1 eqB)=true then (numZ 1 u.tok.tx,2) else (0,0):=by
    rw [← eqB_l]
    rfl
   rw [ho]
   cases h1:(u.tok.k == 9 && (u.tok.tx.toList == [61])) with
   | true =>
     rw [if_pos rfl,if_pos rfl]
     exact sqV_x (by decide) hne.tail hS
   | false =>
     simp only [Bool.false_eq_true,if_false]
     cases us with
     | nil =>
       have hd:dlm (u::([]++S)) 1 eqB=false:=by
        cases S with
        | nil=>rfl
        | cons z zs =>
          have hz:z.tok.k=13:=by simpa [spB] using hS z (by simp)
          show (z.tok.k == 9 && _)=false
          rw [hz]
          rfl
       rw [hd,Bool.and_false]
       simp only [Bool.false_eq_true,if_false]
       rw [sqV_0]
       rfl
     | cons y ys =>
       have hd:dlm (u::((y::ys)++S)) 1 eqB=((dlT y.tok).toList == [61]):=by rw [dl_is,← eqB_l];rfl
       rw [hd]
       show _=if (if ((dlT y.tok).toList == [61])=true then numZ 1 (dlT u.tok) else 0)=0 then none else atX3 nm (if ((dlT y.tok).toList == [61])=true then numZ 1 (dlT u.tok) else 0) (trm ys)
       cases h2:((dlT y.tok).toList == [61]) with
       | false =>
         rw [Bool.and_false]
         simp only [Bool.false_eq_true,if_false]
         rw [sqV_0]
         rfl
       | true =>
         simp only [if_true]
         rw [Bool.and_true]
         cases h3:(u.tok.k == 9) with
         | false =>
           simp only [Bool.false_eq_true,if_false]
           have e0:dlT u.tok=⟨#[]⟩:=by unfold dlT;rw [h3];rfl
           rw [e0,n1_0,sqV_0]
           rfl
         | true =>
           simp only [if_true]
           have e0:dlT u.tok=u.tok.tx:=by unfold dlT;rw [h3];rfl
           rw [e0]
           by_cases h4:numZ 1 u.tok.tx=0
           ·rw [h4,sqV_0]
            rfl
           ·rw [if_neg h4]
            exact sqV_x h4 hne.tail.tail hS
theorem attr_x (l:List V):attrX (trm l)=inSqR l:=by
 obtain ⟨S,e,hS,hne⟩:=trm_split l
 unfold inSqR attrX
 cases ht:trm l with
 | nil =>
   have e2:spc l=[]:=by
    rw [ht,List.nil_append] at e
    cases S with
    | nil=>exact e
    | cons z zs =>
      have h1:=List.head?_dropWhile_not spB l
      rw [show l.dropWhile spB=z::zs from e] at h1
      have h2:=hS z (by simp)
      have h1:spB z=false:=h1
      rw [h1] at h2
      cases h2
   rw [e2]
 | cons v r =>
   rw [ht] at e hne
   rw [e]
   simp only [List.cons_append]
   cases (v.tok.k == 1) with
   | false=>rfl
   | true=>rw [if_pos rfl,if_pos rfl,sqO_x hne.tail hS]
abbrev SX:=S6×List Cx
def psX (u:V):Option (List SX):=if (u.tok.k == 1)=true then (match stL (foldS u.tok.tx) with | some (l,_)=>some (l.map fun s=>(s,[])) | none=>none)
 else if (u.tok.k == 2)=true then (if plcB (numZ 2 (foldS u.tok.tx))=true then (if (nthR u.kids).2.2=true then some [(⟨numZ 2 (foldS u.tok.tx),⟨#[]⟩,0,⟨#[]⟩,(nthR u.kids).1,(nthR u.kids).2.1⟩,[])] else none)
  else if lstB (numZ 2 (foldS u.tok.tx))=true then (match parseZ u.kids with | some l=>some [(⟨numZ 2 (foldS u.tok.tx),⟨#[]⟩,0,⟨#[]⟩,0,0⟩,l)] | none=>none) else none)
 else none
def otX (l:List V):Option (List SX×Nat):=match l with
 | []=>none
 | v::r=>if (v.tok.k == 4)=true then (if v.tok.fl=true then some ([(⟨3,v.tok.tx,0,⟨#[]⟩,0,0⟩,[])],1) else none)
   else if ((dlT v.tok).toList == [46])=true then (match r with | u::_=>if (u.tok.k == 1)=true then some ([(⟨2,u.tok.tx,0,⟨#[]⟩,0,0⟩,[])],2) else none | []=>none)
   else if (v.tok.k == 19)=true then (match attrX (trm v.kids) with | some s=>some ([(s,[])],1) | none=>none)
   else if (v.tok.k == 16)=true then (match r with | u::_=>(match psX u with | some p=>some (p,2) | none=>none) | []=>none)
   else if (v.tok.k == 13 || decide (0<cbT (dlT v.tok)))=true then some ([],0) else none
def otY (l:List V):Option (List SX×Nat):=match otherR l with
 | some (ls,n)=>(match allO (fS parseZ) ls with | some q=>some (q,n) | none=>none)
 | none=>if stopB l=true then some ([],0) else none
theorem allO_bare (f:List V→Option (List Cx)):∀ l:List S6,(∀ s∈l,lstB s.k=false)→allO (fS f) (l.map fun s=>(s,[]))=some (l.map fun s=>(s,[]))
 | [],_=>rfl
 | s::l,h=>by
   rw [List.map_cons,List.map_cons]
   unfold allO
   have e:fS f (s,[])=some (s,[]):=by unfold fS;rw [if_neg (by rw [h s (by simp)];decide)]
   rw [e,allO_bare f l fun x hx=>h x (by simp [hx])]
theorem allO_one (f:List V→Option (List Cx)) (s:Sv):allO (fS f) [s]=match fS f s with | some x=>some [x] | none=>none:=by
 unfold allO
 cases fS f s with
 | none=>rfl
 | some x=>rfl
theorem stop_cons (v:V) (r:List V):stopB (v::r)=(v.tok.k == 13 || decide (0<cbT (dlT v.tok))):=by
 show (spB v || decide (cmbV v≠0))=_
 have e:cmbV v=cbT (dlT v.tok):=by
  unfold cmbV dlT
  cases v.tok.k == 9
  ·exact cb_0.symm
  ·exact num0 _
 have h:∀ s,cbT s=0∨0<cbT s:=fun s=>by
  unfold cbT
  repeat' split
  all_goals first | exact .inl rfl | exact .inr (by decide)
 rw [e]
 unfold spB
 rcases h (dlT v.tok) with h | h
 ·rw [h];rfl
 ·have h1:cbT (dlT v.tok)≠0:=by omega
  simp [h,h1]
theorem plc_lst {z:Int} (h:plcB z=true):lstB z=false:=by
 unfold plcB at h
 unfold lstB
 simp at h ⊢
 omega
theorem ot_main (l:List V) (h0:l≠[]):otX l=otY l:=by
 cases l with
 | nil=>exact absurd rfl h0
 | cons v r =>
   show (if (v.tok.k == 4)=true then _ else _)=otY (v::r)
   unfold otY
   rw [stop_cons]
   -- the ways that do not fit
   have nid:(v.tok.k == 4)=false→idR (v::r)=none:=fun h=>by unfold idR;simp only [h,Bool.false_and];rfl
   have nat:(v.tok.k == 19)=false→attrR (v::r)=none:=fun h=>by unfold attrR;simp only [h];rfl
   have ncl:((dlT v.tok).toList == [46])=false→classR (v::r)=none:=fun h=>by
    cases r with
    | nil=>rfl
    | cons u r =>
      rw [dl_is] at h
      show (if (dlm (v::u::r) 0 dotB && (u.tok.k == 1))=true then _ else _)=_
      rw [dlm_cons,dotB_l,h];rfl
   have nco:(v.tok.k == 16)=false→stateR (v::r)=none∧placeR (v::r)=none∧choiceR (v::r)=none:=fun h=>by
    have ha:ahd (v::r) 0 16=false:=h
    have hf:fnR (v::r)=0:=by
     unfold fnR
     split
     ·rw [ha];rfl
     ·rfl
    refine ⟨?_,?_,?_⟩
    ·unfold stateR
     split
     ·rw [ha];rfl
     ·rfl
    ·unfold placeR
     split
     ·rw [hf];rfl
     ·rfl
    ·unfold choiceR
     split
     ·rw [hf];rfl
     ·rfl
   cases h4:(v.tok.k == 4) with
   | true =>
     have k4:v.tok.k=4:=by simpa using h4
     have hd:((dlT v.tok).toList == [46])=false:=by rw [dl_is,k4];rfl
     have hz:cbT (dlT v.tok)=0:=by rw [dlT_no (by rw [k4];rfl)];exact cb_0
     obtain ⟨c1,c2,c3⟩:=nco (by rw [k4];rfl)
     rw [if_pos rfl]
     cases hfl:v.tok.fl with
     | true =>
       have ei:idR (v::r)=some ([⟨3,v.tok.tx,0,⟨#[]⟩,0,0⟩],1):=by unfold idR;simp only [h4,hfl];rfl
       have e:otherR (v::r)=some ([(⟨3,v.tok.tx,0,⟨#[]⟩,0,0⟩,[])],1):=by unfold otherR;rw [ei];rfl
       rw [e]
       rfl
     | false =>
       have ei:idR (v::r)=none:=by unfold idR;simp only [h4,hfl];rfl
       have e:otherR (v::r)=none:=by unfold otherR;rw [ei,ncl hd,nat (by rw [k4];rfl),c1,c2,c3];rfl
       rw [e,k4,hz]
       rfl
   | false =>
     rw [if_neg (by decide)]
     cases hd:((dlT v.tok).toList == [46]) with
     | true =>
       rw [if_pos rfl]
       have hd2:=hd
       rw [dl_is,Bool.and_eq_true] at hd2
       have k9:v.tok.k=9:=by simpa using hd2.1
       have hz:cbT (dlT v.tok)=0:=by
        have h1:(dlT v.tok).toList=[46]:=by simpa using hd
        unfold cbT
        rw [h1]
        rfl
       obtain ⟨c1,c2,c3⟩:=nco (by rw [k9];rfl)
       cases r with
       | nil =>
         have e:otherR [v]=none:=by unfold otherR;rw [nid h4,show classR [v]=none from rfl,nat (by rw [k9];rfl),c1,c2,c3];rfl
         rw [e,k9,hz]
         rfl
       | cons u r =>
         have ec:classR (v::u::r)=if (u.tok.k == 1)=true then some ([⟨2,u.tok.tx,0,⟨#[]⟩,0,0⟩],2) else none:=by
          show (if (dlm (v::u::r) 0 dotB && (u.tok.k == 1))=true then _ else _)=_
          rw [dlm_cons,dotB_l,hd2.1,hd2.2];rfl
         simp only []
         cases hu:(u.tok.k == 1) with
         | true =>
           rw [hu] at ec
           have e:otherR (v::u::r)=some ([(⟨2,u.tok.tx,0,⟨#[]⟩,0,0⟩,[])],2):=by unfold otherR;rw [nid h4,ec];rfl
           rw [e]
           rfl
         | false =>
           rw [hu] at ec
           have e:otherR (v::u::r)=none:=by unfold otherR;rw [nid h4,ec,nat (by rw [k9];rfl),c1,c2,c3];rfl
           rw [e,k9,hz]
           rfl
     | false =>
       rw [if_neg (by decide)]
       cases h19:(v.tok.k == 19) with
       | true =>
         have k19:v.tok.k=19:=by simpa using h19
         have hz:cbT (dlT v.tok)=0:=by rw [dlT_no (by rw [k19];rfl)];exact cb_0
         obtain ⟨c1,c2,c3⟩:=nco (by rw [k19];rfl)
         rw [if_pos rfl,attr_x]
         have ea:attrR (v::r)=(match inSqR v.kids with | some s=>some ([s],1) | none=>none):=by unfold attrR;simp only [h19];rfl
         cases hs:inSqR v.kids with
         | some s =>
           rw [hs] at ea
           have hk:=inSqR_k hs
           have e:otherR (v::r)=some ([(s,[])],1):=by unfold otherR;rw [nid h4,ncl hd,ea];rfl
           rw [e]
           simp only []
           rw [allO_one]
           have e2:fS parseZ (s,[])=some (s,[]):=by unfold fS;rw [if_neg (by show ¬ lstB s.k=true;rw [hk];decide)]
           rw [e2]
         | none =>
           rw [hs] at ea
           have e:otherR (v::r)=none:=by unfold otherR;rw [nid h4,ncl hd,ea,c1,c2,c3];rfl
           rw [e,k19,hz]
           rfl
       | false =>
         rw [if_neg (by decide)]
         cases h16:(v.tok.k == 16) with
         | false =>
           obtain ⟨c1,c2,c3⟩:=nco h16
           have e:otherR (v::r)=none:=by unfold otherR;rw [nid h4,ncl hd,nat h19,c1,c2,c3];rfl
           rw [if_neg (by decide),e]
         | true =>
           have k16:v.tok.k=16:=by simpa using h16
           have hz:cbT (dlT v.tok)=0:=by rw [dlT_no (by rw [k16];rfl)];exact cb_0
           rw [if_pos rfl]
           cases r with
           | nil =>
             have e:otherR [v]=none:=by unfold otherR;rw [nid h4,show classR [v]=none from rfl,nat h19];rfl
             rw [e,k16,hz]
             rfl
           | cons u r =>
             have es:stateR (v::u::r)=if (u.tok.k == 1)=true then stL (foldS u.tok.tx) else none:=by
              show (if ((v.tok.k == 16) && (u.tok.k == 1))=true then _ else _)=_
              rw [h16];rfl
             have ef:fnR (v::u::r)=if (u.tok.k == 2)=true then numZ 2 (foldS u.tok.tx) else 0:=by
              show (if ((v.tok.k == 16) && (u.tok.k == 2))=true then _ else _)=_
              rw [h16];rfl
             have ep:placeR (v::u::r)=if (plcB (fnR (v::u::r)) && (nthR u.kids).2.2)=true then some ([⟨fnR (v::u::r),⟨#[]⟩,0,⟨#[]⟩,(nthR u.kids).1,(nthR u.kids).2.1⟩],2) else none:=rfl
             have ech:choiceR (v::u::r)=if lstB (fnR (v::u::r))=true then some ([(⟨fnR (v::u::r),⟨#[]⟩,0,⟨#[]⟩,0,0⟩,u.kids)],2) else none:=rfl
             have eo:otherR (v::u::r)=orR (bare (stateR (v::u::r))) (orR (bare (placeR (v::u::r))) (choiceR (v::u::r))):=by unfold otherR;rw [nid h4,ncl hd,nat h19];rfl
             simp only []
             unfold psX
             rw [eo]
             cases h1:(u.tok.k == 1) with
             | true =>
               have k1:u.tok.k=1:=by simpa using h1
               rw [h1,if_pos rfl] at es
               rw [show (u.tok.k == 2)=false by rw [k1];rfl,if_neg (by decide)] at ef
               rw [ef] at ep ech
               rw [es,ep,ech,if_pos rfl]
               cases hst:stL (foldS u.tok.tx) with
               | some x =>
                 obtain ⟨l,n⟩:=x
                 obtain ⟨_,_,hn,hl⟩:=stL_ok hst
                 subst hn
                 show some (l.map (fun s=>(s,([]:List Cx))),2)=(match allO (fS parseZ) (l.map fun s=>(s,[])) with | some q=>some (q,2) | none=>none)
                 rw [allO_bare parseZ l hl]
               | none =>
                 rw [k16,hz]
                 rfl
             | false =>
               rw [h1,if_neg (by decide)] at es
               rw [es,if_neg (by decide)]
               cases h2:(u.tok.k == 2) with
               | false =>
                 rw [h2,if_neg (by decide)] at ef
                 rw [ef] at ep ech
                 rw [ep,ech,if_neg (by decide),k16,hz]
                 rfl
               | true =>
                 rw [h2,if_pos rfl] at ef
                 rw [ef] at ep ech
                 rw [ep,ech,if_pos rfl]
                 generalize numZ 2 (foldS u.tok.tx)=z at *
                 cases hp:plcB z with
                 | true =>
                   rw [if_pos rfl,Bool.true_and]
                   have hl:=plc_lst hp
                   cases hn:(nthR u.kids).2.2 with
                   | true =>
                     rw [if_pos rfl,if_pos rfl]
                     show _=(match allO (fS parseZ) [(⟨z,⟨#[]⟩,0,⟨#[]⟩,(nthR u.kids).1,(nthR u.kids).2.1⟩,[])] with | some q=>some (q,2) | none=>none)
                     rw [allO_one]
                     have e2:∀ a b,fS parseZ (⟨z,⟨#[]⟩,0,⟨#[]⟩,a,b⟩,[])=some (⟨z,⟨#[]⟩,0,⟨#[]⟩,a,b⟩,[]):=fun a b=>by
                      show (if lstB z=true then _ else _)=_
                      rw [hl]
                      rfl
                     rw [e2]
                   | false =>
                     rw [hl,k16,hz]
                     rfl
                 | false =>
                   rw [Bool.false_and]
                   simp only [Bool.false_eq_true,if_false]
                   cases hl:lstB z with
                   | false =>
                     rw [k16,hz]
                     rfl
                   | true =>
                     simp only [if_true]
                     show _=(match allO (fS parseZ) [(⟨z,⟨#[]⟩,0,⟨#[]⟩,0,0⟩,u.kids)] with | some q=>some (q,2) | none=>none)
                     rw [allO_one]
                     have e2:fS parseZ (⟨z,⟨#[]⟩,0,⟨#[]⟩,0,0⟩,u.kids)=(match parseZ u.kids with | none=>none | some l=>some (⟨z,⟨#[]⟩,0,⟨#[]⟩,0,0⟩,l)):=by unfold fS;rw [if_pos (show lstB z=true from hl)];cases parseZ u.kids <;> rfl
                     rw [e2]
                     cases parseZ u.kids with
                     | none=>rfl
                     | some l=>rfl
end Go.Proofs.YtdneaeokljoijaaGreatDoor.L
namespace Go.Proofs.YtdneaeokljoijaaGreatDoor.Y
open Go.RowKit
open Go.Proofs.YtdneaeokljoijaaGreatDoor.L (T5 V VsAt t5Cells vCells cell_of_heap)
end Go.Proofs.YtdneaeokljoijaaGreatDoor.Y
namespace Go.Proofs.YtdneaeokljoijaaGreatDoor.Y
open Go.RowKit
open Go.Proofs.YtdneaeokljoijaaGreatDoor.L (T5 V VsAt t5Cells vCells cell_of_heap)
theorem below_drewN5 (B:Nat) (w:World) (n:Nat):Below B w (w.drewN n):=⟨rfl,rfl,rfl,Nat.le_refl _,fun _ _=>rfl⟩
end Go.Proofs.YtdneaeokljoijaaGreatDoor.Y
