/- The simple selectors of a list of which something is asked. -/
import Derived.Test.YtemlnblifkdenaaGreatDoorLCo
set_option maxRecDepth 100000
set_option maxHeartbeats 8000000
namespace Go.Proofs.YtemlnblifkdenaaGreatDoor.L
open Go.RowKit
theorem info52:∃ i z,Tryz.prog.info? 40=some i∧i.zero=some z∧i.size=1∧i.bytes=24∧z.cells.size=1:=⟨_,_,by rfl,by rfl,by rfl,by rfl,by rfl⟩
theorem info3:∃ i z,Tryz.prog.info? 3=some i∧i.zero=some z∧i.size=1∧i.bytes=8∧z.cells.size=1:=⟨_,_,by rfl,by rfl,by rfl,by rfl,by rfl⟩
theorem info46:∃ i z,Tryz.prog.info? 37=some i∧i.zero=some z∧i.size=2∧i.bytes=48∧z.cells.size=2:=⟨_,_,by rfl,by rfl,by rfl,by rfl,by rfl⟩
theorem own_at {w:World} {B n s g:Nat} {T:TypeId} {v:Value} {xs:List Value} (h:w.ownsRow B T s v n xs) (e:v.ownBlock=some g):B≤g∧∃ c,w.heap[g]? = some (.cells c T (0,0)):=by
 rcases h.2 with ⟨rfl,_⟩ | ⟨g',cap,cur,rfl,h1,h2,_⟩
 ·cases e
 ·cases e
  exact ⟨h1,cur,h2⟩
theorem ty_ne {w:World} {g:Nat} {T U:TypeId} {c d:Array Value} {fr fq:Nat×Nat} (h:w.heap[g]? = some (.cells c T fr)) (k:w.heap[g]? = some (.cells d U fq)):T=U:=by
 rw [h] at k
 cases k
 rfl
theorem Rk.else {W0 w:World} {lo b:Nat} {ks:List (List V)} {vs:List V} (h:Rk lo W0 b ks vs w) (hb:b<W0.heap.size) {o i:Nat} {c:Array Value} {T:TypeId} {fr:Nat×Nat} (x:Value) (ho:W0.heap.size≤o) (ht:w.heap[o]? = some (.cells c T fr)) (hT:T≠43):Rk lo W0 b ks vs (w.setCell ⟨o,i,none⟩ x):=by
 obtain ⟨kids,cs,⟨⟨rest,h1,h2⟩,_⟩,h3,h4⟩:=h.rd
 have hst:∀ {v l},VsAt (·<min lo b) w v l→VsAt (·<min lo b) (w.setCell ⟨o,i,none⟩ x) v l:=fun q=>q.stay (by simp) fun j hj _=>heap_ne (by omega)
 refine ⟨⟨kids,cs,⟨⟨rest,(heap_ne (by omega)).trans h1,hst h2⟩,KeepX.of (Below.refl _ _)⟩,own_stayT h3 fun g c hg _=>heap_ne ?_,fun i hi=>(h4 i hi).imp fun v q=>⟨q.1,hst q.2⟩⟩,⟨h.keep.os,h.keep.tape,h.keep.output,by simpa using h.keep.size,fun j hj hn hc=>(heap_ne (by omega)).trans (h.keep.typ j hj hn hc)⟩⟩
 rintro rfl
 exact hT (ty_ne ht hg)
theorem CvAt.set {B:Nat} {w:World} {pv cv:Value} {c:Cv} {qs:List Value} (h:CvAt B w pv cv c qs) {o i:Nat} {d:Array Value} {T:TypeId} {fr:Nat×Nat} (x:Value) (ht:w.heap[o]? = some (.cells d T fr)) (hT:T≠39∧T≠40∧T≠3):CvAt B (w.setCell ⟨o,i,none⟩ x) pv cv c qs :=
 h.stayT fun T' g cur hT' hg _=>heap_ne fun e=>by
  subst e
  have:=ty_ne ht hg
  subst this
  rcases hT' with e | e | e
  ·exact hT.1 e
  ·exact hT.2.1 e
  ·exact hT.2.2 e
theorem CvAt.addPart {B:Nat} {w wa w2:World} {pv cv pv' v1:Value} {acc:List (List Sv)} {kk:List Int} {qs:List Value} {p:List Sv} (h:CvAt B w pv cv (acc,kk) qs) (ha:Below w.heap.size w wa) (hg:wa.grownBy w2 pv.ownBlock) (ho:w2.ownsRow B 40 1 pv' (acc.length+1) (qs++[v1])) (hp:PtAt B w v1 p) (hu:∀ q∈qs,blk q<blk v1):CvAt B w2 pv' cv (acc++[p],kk) (qs++[v1]):=by
 have hst:∀ (T:TypeId) (g:Nat) (cur:Array Value),T≠40→w.heap[g]? = some (.cells cur T (0,0))→w2.heap[g]? = w.heap[g]?:=fun T g cur hT hh=>by
  have hl:=(Array.getElem?_eq_some_iff.1 hh).1
  rw [hg.block g (Nat.lt_of_lt_of_le hl ha.size) (fun e=>?_),ha.block g hl]
  obtain ⟨_,c,hc⟩:=own_at h.ps e.symm
  exact hT (ty_ne hh hc)
 have hql:qs.length=acc.length:=by have:=h.ps.1;simp at this;exact this
 refine ⟨by rw [List.length_append];exact ho,fun j hj=>?_,own_stayT h.cs fun g c hc _=>hst 3 g c (by decide) hc,List.pairwise_append.2 ⟨h.up,by simp,fun x hx y hy=>by rw [List.mem_singleton.1 hy];exact hu x hx⟩⟩
 by_cases hja:j<acc.length
 ·obtain ⟨q,e,hq⟩:=h.pt j hja
  refine ⟨q,by rw [List.getElem?_append_left (by omega)];exact e,?_⟩
  rw [List.getElem_append_left hja]
  exact own_stayT hq fun g c hc _=>hst 39 g c (by decide) hc
 ·have hje:j=acc.length:=by simp at hj;omega
  subst hje
  refine ⟨v1,by rw [List.getElem?_append_right (by omega),hql];simp,?_⟩
  rw [List.getElem_append_right (Nat.le_refl _)]
  have:PtAt B w2 v1 p:=own_stayT hp fun g c hc _=>hst 39 g c (by decide) hc
  simpa using this
theorem CvAt.addComb {B:Nat} {w wa w2:World} {pv cv cv':Value} {acc:List (List Sv)} {kk:List Int} {qs:List Value} {k:Int} (h:CvAt B w pv cv (acc,kk) qs) (ha:Below w.heap.size w wa) (hg:wa.grownBy w2 cv.ownBlock) (ho:w2.ownsRow B 3 1 cv' (kk.length+1) (kk.map (Value.int .i64)++[.int .i64 k])):CvAt B w2 pv cv' (acc,kk++[k]) qs:=by
 have hst:∀ (T:TypeId) (g:Nat) (cur:Array Value),T≠3→w.heap[g]? = some (.cells cur T (0,0))→w2.heap[g]? = w.heap[g]?:=fun T g cur hT hh=>by
  have hl:=(Array.getElem?_eq_some_iff.1 hh).1
  rw [hg.block g (Nat.lt_of_lt_of_le hl ha.size) (fun e=>?_),ha.block g hl]
  obtain ⟨_,c,hc⟩:=own_at h.cs e.symm
  exact hT (ty_ne hh hc)
 refine ⟨own_stayT h.ps fun g c hc _=>hst 40 g c (by decide) hc,fun j hj=>(h.pt j hj).imp fun q hq=>⟨hq.1,own_stayT hq.2 fun g c hc _=>hst 39 g c (by decide) hc⟩,?_,h.up⟩
 rw [List.length_append,List.map_append]
 exact ho
theorem CvAt.blks {B:Nat} {w:World} {pv cv:Value} {c:Cv} {qs:List Value} (h:CvAt B w pv cv c qs) (hne:∀ p∈c.1,p≠[]):∀ q∈qs,B≤blk q∧blk q<w.heap.size:=fun q hq=>by
 obtain ⟨j,hj,rfl⟩:=List.mem_iff_getElem.1 hq
 have hql:qs.length=c.1.length:=by have:=h.ps.1;simp at this;exact this
 obtain ⟨q',e,hp⟩:=h.pt j (by omega)
 rw [List.getElem?_eq_getElem hj] at e
 cases e
 exact ⟨(PtAt.blk hp (hne _ (List.getElem_mem _))).1,(PtAt.blk hp (hne _ (List.getElem_mem _))).2.1⟩
def CxPost (lo:Nat) (W:World) (b:Nat) (ks:List (List V)) (R:Option (Cv×List V)) (e:Ending) (w':World):Prop:=match R with
 | none=>∃ x y,e=.returned (.tuple #[.agg #[x,y],.bool false])∧x=.slice none 0 0∧y=.slice none 0 0∧KeepT b W w'
 | some (c,r)=>∃ pv cv qs,e=.returned (.tuple #[.agg #[pv,cv],.bool true])∧CvAt W.heap.size w' pv cv c qs∧Rk lo W b (ks++kidsC c) r w'
structure CxGo (lo:Nat) (W:World) (b:Nat) (ks:List (List V)) (vs:List V) (R:Option (Cv×List V)) (pv cv:Value) (acc:List (List Sv)) (kk:List Int) (us:List V) (qs:List Value) (w:World):Prop where
 out:w.heap[W.heap.size+1]? = some (.cells #[pv,cv] 37 (0,0))
 res:w.heap[W.heap.size]? = some (.cells #[.slice none 0 0,.slice none 0 0] 37 (0,0))
 cx:CvAt W.heap.size w pv cv (acc,kk) qs
 rk:Rk lo W b (ks++kidsC (acc,kk)) us w
 eq:R=match cxZ us with | none=>none | some ((ps,js),r)=>some ((acc++ps,kk++js),r)
 mem:∀ u∈us,u∈vs
 sub:List.Sublist (kidsC (acc,kk)++us.map V.kids) (vs.map V.kids)
 ne:∀ p∈acc,p≠[]
 la:acc.length+us.length≤vs.length
 lk:kk.length≤acc.length
theorem set7_2 {B:Nat} {W w:World} (h:KeepT B W w) {o:Nat} (ho:W.heap.size≤o) (x0 x1:Value):KeepT B W ((w.setCell ⟨o,0,none⟩ x0).setCell ⟨o,1,none⟩ x1) :=
 ⟨h.os,h.tape,h.output,by simpa using h.size,fun j hj hn hc=>(heap_ne (by omega)).trans ((heap_ne (by omega)).trans (h.typ j hj hn hc))⟩
theorem one_news {w:World} {x:Value} {T:TypeId}:∀ j u,[x][j]? = some u→(w.alloc (.cells #[x] T)).cell? (Addr.add ⟨w.heap.size,0,none⟩ j)=some u:=fun j u hu=>by
 rw [Addr.add_mid,Nat.zero_add,cellAt (heap_alloc_last w _) j]
 simpa using hu
theorem complex_any {W:World} {lo b:Nat} {ks:List (List V)} {vs:List V} (h:Rk lo W b ks vs W) (hsg:Signs W) (hb:sgB<b) (hf:Fit vs) (hkn:ks.length+vs.length≤1000000) :
  Calls Tryz.prog 47 #[.pointer (some ⟨b,0,none⟩)] W (CxPost lo W b ks (cxZ vs)):=by
 obtain ⟨i0,z0,hi,hz0,hz1,hz2,hz3⟩:=info52
 obtain ⟨j0,y0,hj,hy0,hy1,hy2,hy3⟩:=info3
 have hbl:b<W.heap.size:=h.lt
 have hvl:=hf.len
 have HG:Hid (∀ ks' us w,Rk lo W b ks' us w→Signs w):=fun ks' us w hk=>hsg.keepT hk.keep hb
 have HC:Hid (∀ ks' us w,Rk lo W b ks' us w→Fit us→ks'.length+us.length≤1000000→Calls Tryz.prog 98 #[.pointer (some ⟨b,0,none⟩)] w (Cmp lo w b ks' (compR us))):=fun ks' us w hk hfu hl=>compound_any hk.self (HG.out _ _ w hk) hb hfu hl
 have HD:Hid (∀ ks' us w,Rk lo W b ks' us w→Calls Tryz.prog 99 #[.pointer (some ⟨b,0,none⟩)] w fun e w'=>e=.returned (.int .i64 (combR us).1)∧Rk lo w b ks' (combR us).2 w'):=fun ks' us w hk=>by
  obtain ⟨kids,hrd,hn⟩:=hk.self.open
  exact (comb_any hrd (HG.out _ _ w hk) (by omega)).mono fun e w' q=>⟨q.1,hn _ _ q.2⟩
 obtain ⟨W1,hW1⟩:∃ W1,W1=(W.alloc (.cells #[.slice none 0 0,.slice none 0 0] 37)).alloc (.cells #[.slice none 0 0,.slice none 0 0] 37):=⟨_,rfl⟩
 have hB1:Below W.heap.size W W1:=by rw [hW1];exact ((Below.refl _ _).alloc (Nat.le_refl _) _).alloc (by simp) _
 have HGO:Hid (CxGo lo W b ks vs (cxZ vs) (.slice none 0 0) (.slice none 0 0) [] [] vs [] W1):=by
  refine ⟨?_,?_,⟨⟨rfl,.inl ⟨rfl,rfl⟩⟩,fun j hj=>absurd hj (by simp),⟨rfl,.inl ⟨rfl,rfl⟩⟩,List.Pairwise.nil⟩,?_,?_,fun u hu=>hu,?_,fun p hp=>absurd hp (by simp),by simp,Nat.le_refl _⟩
  ·have e:W.heap.size+1=(W.alloc (.cells #[.slice none 0 0,.slice none 0 0] 37)).heap.size:=by simp
   rw [hW1,e]
   exact heap_alloc_last _ _
  ·rw [hW1,Below.heap_alloc _ _ _ (by simp)]
   exact heap_alloc_last W _
  ·simpa [kidsC] using h.then hB1
  ·cases cxZ vs with
   | none=>rfl
   | some x=>rfl
  ·simp [kidsC]
 have HF:=hid_mk hf
 have HW1:=hid_mk hW1
 generalize cxZ vs=R at *
 clear h hsg hf HG hW1 hB1
 go_enter Tryz.func47,Tryz.ntmps47
 go_wp2_with (fail)
 rw [← HW1.out]
 clear HW1
 go_loopg [] (vs.length+1) (fun k wq=>∃ pv cv acc kk us qs,us.length<k∧Hid (CxGo lo W b ks vs R pv cv acc kk us qs wq))
 case atStart=>exact ⟨_,_,_,_,_,_,by omega,HGO⟩
 case round =>
  clear HGO
  obtain ⟨pv,cv,acc,kk,us,qs,hlk,HGO⟩:=hrel
  obtain ⟨ca,cn,cc,rfl⟩:=own_sl HGO.out.cx.cs
  have hln:us.length≤vs.length:=by have:=HGO.out.la;omega
  have hkk:(ks++kidsC (acc,kk)).length+us.length≤1000000:=by
   have:=HGO.out.sub.length_le
   simp at this
   rw [List.length_append]
   omega
  have hcp:=HC.out _ us wr HGO.out.rk (HF.out.sub hln HGO.out.mem) hkk
  have HZS:=hid_mk (cxZ_step us)
  have HLT:=hid_mk (compR_ok us)
  have HSB:=hid_mk (compR_sub us)
  have HLK:=hid_mk hlk
  have HLN:=hid_mk hln
  unfold cxStep at HZS
  clear HC hlk hln hkk
  generalize compR us=pr at *
  obtain ⟨p,r1⟩:=pr
  go_wp2_with (go_at_call 98;fail)
  refine hcp.mono ?_
  rintro e w1 ⟨v1,rfl,hpt,hrk⟩
  simp only [] at hpt hrk
  have hK1:=hrk.keep
  have hsz:W.heap.size≤wr.heap.size:=HGO.out.rk.keep.size
  have o1:w1.heap[W.heap.size+1]? = some (.cells #[pv,.slice ca cn cc] 37 (0,0)):=(hK1.typ _ (Array.getElem?_eq_some_iff.1 HGO.out.out).1 (by omega) (.inr fun c fr e=>by have:=ty_ne HGO.out.out e;cases this)).trans HGO.out.out
  have x1:w1.heap[W.heap.size]? = some (.cells #[.slice none 0 0,.slice none 0 0] 37 (0,0)):=(hK1.typ _ (Array.getElem?_eq_some_iff.1 HGO.out.res).1 (by omega) (.inr fun c fr e=>by have:=ty_ne HGO.out.res e;cases this)).trans HGO.out.res
  have cx1:=HGO.out.cx.keepT hK1 hbl
  have rk1:=HGO.out.rk.from hrk
  have hblk:=HGO.out.cx.blks HGO.out.ne
  cases p with
  | nil =>
    have HR:Hid (R=none):=by rw [Hid,HGO.out.eq,HZS.out]
    have hsl:∃ a c,v1=.slice a 0 c:=by
     rcases hpt.2 with ⟨rfl,_⟩ | ⟨g,cap,cur,rfl,_⟩
     ·exact ⟨_,_,rfl⟩
     ·exact ⟨_,_,rfl⟩
    obtain ⟨a1,c1,rfl⟩:=hsl
    obtain ⟨k0,k1,f0,f1⟩:=cells2 x1
    have HKT:=hid_mk rk1.keep
    clear hcp hpt hrk hK1 o1 x1 cx1 rk1 hblk HGO HZS HLT HSB HD
    go_wp2
    rw [HR.out]
    exact bodyPost_ret (v:=.tuple #[.agg #[.slice none 0 0,.slice none 0 0],.bool false]) (by simp [results,Tryz.results47,go_sem,k0,k1]) rfl ⟨_,_,rfl,rfl,rfl,set7_2 HKT.out (Nat.le_refl _) _ _⟩
  | cons s0 p0 =>
  obtain ⟨hg1,hg2,cap1,cur1,hv1,_⟩:=PtAt.blk hpt (by simp)
  have hptW:PtAt W.heap.size w1 v1 (s0::p0):=own_from hpt hsz
  have hlen:r1.length<us.length:=HLT.out.2.1 (by simp)
  have hup:∀ q∈qs,blk q<blk v1:=fun q hq=>Nat.lt_of_lt_of_le (hblk q hq).2 hg1
  have hown:(w1.alloc (.cells #[v1] 40)).ownsRow W.heap.size 40 1 pv acc.length qs:=own_stayT cx1.ps fun g c hc _=>Below.heap_alloc _ _ _ (Array.getElem?_eq_some_iff.1 hc).1
  obtain ⟨pa,pn,pc,rfl⟩:=own_sl hown
  obtain ⟨k0,k1,f0,f1⟩:=cells2 o1
  have hn0:(((s0::p0).length:Int) == 0)=false:=by rw [beq_eq_false_iff_ne];simp;omega
  have HNE:Hid (∀ a,(∃ w2 v2,a=(w2,v2)∧(w1.alloc (.cells #[v1] 40)).grownBy w2 (Value.slice pa pn pc).ownBlock∧w2.ownsRow W.heap.size 40 1 v2 (acc.length+1) (qs++[v1]))→CvAt W.heap.size (a.1.setCell ⟨W.heap.size+1,0,none⟩ a.2) a.2 (.slice ca cn cc) (acc++[s0::p0],kk) (qs++[v1])∧Rk lo W b (ks++kidsC (acc++[s0::p0],kk)) r1 (a.1.setCell ⟨W.heap.size+1,0,none⟩ a.2)∧a.1.heap[W.heap.size+1]? = some (.cells #[.slice pa pn pc,.slice ca cn cc] 37 (0,0))∧(a.1.setCell ⟨W.heap.size+1,0,none⟩ a.2).heap[W.heap.size+1]? = some (.cells #[a.2,.slice ca cn cc] 37 (0,0))∧(a.1.setCell ⟨W.heap.size+1,0,none⟩ a.2).heap[W.heap.size]? = some (.cells #[.slice none 0 0,.slice none 0 0] 37 (0,0))):=fun a ⟨w2,v2,e,hgr,ho⟩=>by
   subst e
   simp only []
   have hal:Below w1.heap.size w1 (w1.alloc (.cells #[v1] 40)):=(Below.refl _ _).alloc (Nat.le_refl _) _
   have hne46:∀ (j:Nat) (c:Array Value),w1.heap[j]? = some (.cells c 37 (0,0))→w2.heap[j]? = w1.heap[j]?:=fun j c hj=>by
    have hl:=(Array.getElem?_eq_some_iff.1 hj).1
    rw [hgr.block j (Nat.lt_of_lt_of_le hl hal.size) (fun e=>?_),hal.block j hl]
    obtain ⟨_,c,hc⟩:=own_at cx1.ps e.symm
    have:=ty_ne hj hc
    cases this
   have o2:=(hne46 _ _ o1).trans o1
   have x2:=(hne46 _ _ x1).trans x1
   have hC:=cx1.addPart hal hgr ho hptW hup
   have hR:=(rk1.then hal).grow hgr hbl (own_ty hown (by decide))
   refine ⟨hC.set _ o2 (by decide),?_,o2,by rw [set_at 0 _ _ o2];rfl,(heap_ne (by omega)).trans x2⟩
   have e:ks++kidsC (acc++[s0::p0],kk)=ks++kidsC (acc,kk)++kidsOf (s0::p0):=by simp [kidsC]
   rw [e]
   exact hR.else hbl _ (by omega) o2 (by decide)
  have hal3:acc.length≤1000000:=by have:=HGO.out.la;omega
  have hkl3:kk.length≤1000000:=by have:=HGO.out.lk;omega
  have hszA:W.heap.size≤(w1.alloc (.cells #[v1] 40)).heap.size:=by have:=rk1.keep.size;simp;omega
  have HV1:=hid_mk hv1
  have hvs1:∃ va n1 vc,v1=.slice va n1 vc∧((n1:Int) == 0)=false:=⟨_,_,_,hv1,hn0⟩
  have HHL:=hid_mk hlen
  have HOS:Hid (∀ u∈[v1],u.oneCell'=true):=by
   intro u hu
   rw [List.mem_singleton.1 hu,HV1.out]
   rfl
  have HON:Hid (∀ j u,[v1][j]? = some u→(w1.alloc (.cells #[v1] 40)).cell? (Addr.add ⟨w1.heap.size,0,none⟩ j)=some u):=one_news
  clear hcp hpt hrk hK1 o1 x1 cx1 rk1 hblk hv1 hptW hup hg1 hg2 hlen
  obtain ⟨va,n1,vc,rfl,hn1⟩:=hvs1
  clear HV1 hn0
  go_wp2_with (at_builtin;with_reducible refine wpList_append_own _ rfl _ _ 34 rfl W.heap.size 40 i0 z0 1 24 Tryz.underlying34 hi hz0 hz1 hz2 hz3 (by decide) (.slice pa pn pc) acc.length qs rfl hown ⟨w1.heap.size,0,none⟩ 1 1 [.slice va n1 vc] rfl rfl HON.out HOS.out ?c1 ?c2 ?c3 ?_)
  case c1=>unfold maxLen;omega
  case c2=>omega
  case c3=>exact hszA
  intro v2 w2 ho2 hgr2 _
  obtain ⟨hC3,hR3,o2,o3,x3⟩:=HNE.out (w2,v2) ⟨w2,v2,rfl,hgr2,ho2⟩
  simp only [] at hC3 hR3 o2 o3 x3
  obtain ⟨qa,qn,qc,rfl⟩:=own_sl ho2
  obtain ⟨d0,d1,g0,g1⟩:=cells2 o2
  obtain ⟨w3,hw3⟩:∃ w3,w3=w2.setCell ⟨W.heap.size+1,0,none⟩ (.slice qa qn qc):=⟨_,rfl⟩
  rw [← hw3] at hC3 hR3 o3 x3
  have hcb:=HD.out _ r1 w3 hR3
  have HW3:=hid_mk hw3
  have HC3:=hid_mk hC3
  have HR3:=hid_mk hR3
  have HO3:=hid_mk o3
  have HX3:=hid_mk x3
  have HCB:=hid_mk (combR_ok r1)
  have HCS:=hid_mk (combR_sub r1)
  generalize combR r1=cr at *
  obtain ⟨k,r2⟩:=cr
  clear HNE ho2 hgr2 hown hC3 hR3 o2 o3 x3 hw3 HD k0 k1 f0 f1
  go_wp2_with (go_at_call 99;fail)
  rw [← HW3.out]
  refine hcb.mono ?_
  rintro e w4 ⟨rfl,hrk4⟩
  have hK4:=hrk4.keep
  have o4:w4.heap[W.heap.size+1]? = some (.cells #[.slice qa qn qc,.slice ca cn cc] 37 (0,0)):=(hK4.typ _ (Array.getElem?_eq_some_iff.1 HO3.out).1 (by omega) (.inr fun c fr e=>by have:=ty_ne HO3.out e;cases this)).trans HO3.out
  have x4:w4.heap[W.heap.size]? = some (.cells #[.slice none 0 0,.slice none 0 0] 37 (0,0)):=(hK4.typ _ (Array.getElem?_eq_some_iff.1 HX3.out).1 (by omega) (.inr fun c fr e=>by have:=ty_ne HX3.out e;cases this)).trans HX3.out
  have cx4:=HC3.out.keepT hK4 hbl
  have rk4:=HR3.out.from hrk4
  clear hcb hrk4 hK4 HC3 HR3 HO3 HX3 HW3 d0 d1 g0 g1
  have hsz4:W.heap.size≤w4.heap.size:=rk4.keep.size
  obtain ⟨d0,d1,g0,g1⟩:=cells2 o4
  by_cases hk0:k=0
  ·have HR:Hid (R=some ((acc++[s0::p0],kk),r2)):=by
    rw [Hid,HGO.out.eq,HZS.out]
    simp only [hk0,if_true,List.append_nil]
   obtain ⟨t0,t1,h0,h1⟩:=cells2 x4
   have HX4:=hid_mk x4
   have HC4:=hid_mk cx4
   have HR4:=hid_mk rk4
   subst hk0
   clear x4 o4 cx4 rk4 HGO HZS HLT HSB HCB HCS
   go_wp2
   rw [HR.out]
   refine bodyPost_ret (v:=.tuple #[.agg #[.slice qa qn qc,.slice ca cn cc],.bool true]) (by simp [results,Tryz.results47,go_sem,t0,t1]) rfl ⟨_,_,_,rfl,(HC4.out.set _ HX4.out (by decide)).set _ (set_at 0 _ _ HX4.out) (by decide),(HR4.out.else hbl _ (Nat.le_refl _) HX4.out (by decide)).else hbl _ (Nat.le_refl _) (set_at 0 _ _ HX4.out) (by decide)⟩
  ·have hk1:(k == 0)=false:=by rw [beq_eq_false_iff_ne];exact hk0
   have hown4:(w4.alloc (.cells #[.int .i64 k] 3)).ownsRow W.heap.size 3 1 (.slice ca cn cc) kk.length (kk.map (Value.int .i64)):=own_stayT cx4.cs fun g c hc _=>Below.heap_alloc _ _ _ (Array.getElem?_eq_some_iff.1 hc).1
   have HNX:Hid (∀ w5 v5,(w4.alloc (.cells #[.int .i64 k] 3)).grownBy w5 (Value.slice ca cn cc).ownBlock→w5.ownsRow W.heap.size 3 1 v5 (kk.length+1) (kk.map (Value.int .i64)++[.int .i64 k])→CxGo lo W b ks vs R (.slice qa qn qc) v5 (acc++[s0::p0]) (kk++[k]) r2 (qs++[.slice va n1 vc]) (w5.setCell ⟨W.heap.size+1,1,none⟩ v5)∧w5.heap[W.heap.size+1]? = some (.cells #[.slice qa qn qc,.slice ca cn cc] 37 (0,0))):=fun w5 v5 hgr ho=>by
    have hal:Below w4.heap.size w4 (w4.alloc (.cells #[.int .i64 k] 3)):=(Below.refl _ _).alloc (Nat.le_refl _) _
    have hne46:∀ (j:Nat) (c:Array Value),w4.heap[j]? = some (.cells c 37 (0,0))→w5.heap[j]? = w4.heap[j]?:=fun j c hj=>by
     have hl:=(Array.getElem?_eq_some_iff.1 hj).1
     rw [hgr.block j (Nat.lt_of_lt_of_le hl hal.size) (fun e=>?_),hal.block j hl]
     obtain ⟨_,c,hc⟩:=own_at cx4.cs e.symm
     have:=ty_ne hj hc
     cases this
    have o5:=(hne46 _ _ o4).trans o4
    have x5:=(hne46 _ _ x4).trans x4
    have hC:=cx4.addComb hal hgr ho
    have hR:=(rk4.then hal).grow hgr hbl (own_ty hown4 (by decide))
    have ek:kidsC (acc++[s0::p0],kk++[k])=kidsC (acc++[s0::p0],kk):=rfl
    have ek2:kidsC (acc++[s0::p0],kk)=kidsC (acc,kk)++kidsOf (s0::p0):=by simp [kidsC]
    refine ⟨⟨by rw [set_at 1 _ _ o5];rfl,(heap_ne (by omega)).trans x5,hC.set _ o5 (by decide),?_,?_,fun u hu=>HGO.out.mem u (HLT.out.2.2.2 u (HCB.out.2 u hu)),?_,fun p hp=>?_,?_,?_⟩,o5⟩
    ·rw [ek]
     exact hR.else hbl _ (by omega) o5 (by decide)
    ·rw [HGO.out.eq,HZS.out]
     simp only [hk0,if_false]
     cases cxZ r2 with
     | none=>rfl
     | some x =>
       obtain ⟨⟨ps,js⟩,r'⟩:=x
       simp
    ·rw [ek,ek2,List.append_assoc]
     exact ((List.Sublist.refl _).append (((List.Sublist.refl _).append HCS.out).trans HSB.out)).trans HGO.out.sub
    ·rcases List.mem_append.1 hp with hp | hp
     ·exact HGO.out.ne p hp
     ·rw [List.mem_singleton.1 hp]
      simp
    ·have h1:=HGO.out.la
     have h2:=HCB.out.1
     have h3:=HHL.out
     simp only [List.length_append,List.length_singleton] at h2 ⊢
     omega
    ·have:=HGO.out.lk
     simp only [List.length_append,List.length_singleton]
     omega
   have HLT2:Hid (r2.length<us.length):=Nat.lt_of_le_of_lt HCB.out.1 HHL.out
   have HOS4:Hid (∀ u∈[Value.int .i64 k],u.oneCell'=true):=by
    intro u hu
    rw [List.mem_singleton.1 hu]
    rfl
   have HON4:Hid (∀ j u,[Value.int .i64 k][j]? = some u→(w4.alloc (.cells #[.int .i64 k] 3)).cell? (Addr.add ⟨w4.heap.size,0,none⟩ j)=some u):=one_news
   have hszB:W.heap.size≤(w4.alloc (.cells #[.int .i64 k] 3)).heap.size:=by simp;omega
   clear x4 o4 cx4 rk4 HGO HZS HLT HSB HCB HCS hk0 HHL
   go_wp2_with (at_builtin;with_reducible refine wpList_append_own _ rfl _ _ 35 rfl W.heap.size 3 j0 y0 1 8 Tryz.underlying35 hj hy0 hy1 hy2 hy3 (by decide) (.slice ca cn cc) kk.length (kk.map (Value.int .i64)) rfl hown4 ⟨w4.heap.size,0,none⟩ 1 1 [.int .i64 k] rfl rfl HON4.out HOS4.out ?c1 ?c2 ?c3 ?_)
   case c1=>unfold maxLen;omega
   case c2=>omega
   case c3=>exact hszB
   intro v5 w5 ho5 hgr5 _
   obtain ⟨hgo,o5⟩:=HNX.out w5 v5 hgr5 ho5
   obtain ⟨ea,en,ec,rfl⟩:=own_sl ho5
   obtain ⟨m0,m1,n0,n1⟩:=cells2 o5
   have HGN:=hid_mk hgo
   clear HNX hown4 ho5 hgr5 hgo o5 d0 d1 g0 g1
   go_wp2
   go_roundg us.length
   case measure=>exact HLK.out
   case rel=>exact ⟨_,_,_,_,_,_,HLT2.out,HGN⟩
theorem LvAt.blks {B:Nat} {w:World} {v:Value} {l:List Cv} {xs:List (Value×Value×List Value)} (h:LvAt B w v l xs) (hne:∀ c∈l,∀ p∈c.1,p≠[]):∀ q∈xs.flatMap (fun x=>x.2.2),B≤blk q∧blk q<w.heap.size:=fun q hq=>by
 obtain ⟨x,hx,hq⟩:=List.mem_flatMap.1 hq
 obtain ⟨i,hi,rfl⟩:=List.mem_iff_getElem.1 hx
 have hil:i<l.length:=by rw [← h.len];exact hi
 exact (h.cx i hil hi).blks (hne _ (List.getElem_mem hil)) q hq
theorem LvAt.add {B:Nat} {w wa w2:World} {v v' pv cv:Value} {acc:List Cv} {xs:List (Value×Value×List Value)} {c:Cv} {qs:List Value} (h:LvAt B w v acc xs) (ha:Below w.heap.size w wa) (hg:wa.grownBy w2 v.ownBlock) (ho:w2.ownsRow B 37 2 v' (acc.length+1) ((xs.flatMap fun x=>[x.1,x.2.1])++[pv,cv])) (hc:CvAt B w pv cv c qs) (hu:∀ q∈xs.flatMap (fun x=>x.2.2),∀ q'∈qs,blk q<blk q'):LvAt B w2 v' (acc++[c]) (xs++[(pv,cv,qs)]):=by
 have hst:∀ (T:TypeId) (g:Nat) (cur:Array Value),T≠37→w.heap[g]? = some (.cells cur T (0,0))→w2.heap[g]? = w.heap[g]?:=fun T g cur hT hh=>by
  have hl:=(Array.getElem?_eq_some_iff.1 hh).1
  rw [hg.block g (Nat.lt_of_lt_of_le hl ha.size) (fun e=>?_),ha.block g hl]
  obtain ⟨_,c,hc⟩:=own_at h.row e.symm
  exact hT (ty_ne hh hc)
 have hcs:∀ {pv cv c qs},CvAt B w pv cv c qs→CvAt B w2 pv cv c qs:=fun q=>q.stayT fun T g cur hT hg _=>hst T g cur (by rintro rfl;rcases hT with e | e | e <;> cases e) hg
 refine ⟨by rw [List.length_append,List.flatMap_append];exact ho,by simp [h.len],fun i hi hi'=>?_,?_⟩
 ·by_cases hil:i<acc.length
  ·have hix:i<xs.length:=by rw [h.len];exact hil
   rw [List.getElem_append_left hix,List.getElem_append_left hil]
   exact hcs (h.cx i hil hix)
  ·have hie:i=acc.length:=by simp at hi;omega
   subst hie
   have e1:(acc++[c])[acc.length]'hi=c:=by simp
   have e2:(xs++[(pv,cv,qs)])[acc.length]'hi'=(pv,cv,qs):=by
    rw [List.getElem_append_right (by rw [h.len];exact Nat.le_refl _)]
    simp
   rw [e1,e2]
   exact hcs hc
 ·rw [List.flatMap_append]
  refine List.pairwise_append.2 ⟨h.up,by simpa using hc.up,fun x hx y hy=>hu x hx y (by simpa using hy)⟩
def LsPost (lo:Nat) (W:World) (b:Nat) (ks:List (List V)) (R:Option (List Cv)) (e:Ending) (w':World):Prop:=match R with
 | none=>e=.returned (.tuple #[.slice none 0 0,.bool false])∧KeepT b W w'
 | some l=>∃ v xs,e=.returned (.tuple #[v,.bool true])∧LvAt W.heap.size w' v l xs∧Rk lo W b (ks++kidsL l) [] w'
structure LsGo (lo:Nat) (W:World) (b:Nat) (ks:List (List V)) (vs:List V) (R:Option (List Cv)) (v:Value) (acc:List Cv) (us:List V) (xs:List (Value×Value×List Value)) (w:World):Prop where
 lv:LvAt W.heap.size w v acc xs
 rk:Rk lo W b (ks++kidsL acc) us w
 eq:R=match lsZ us with | none=>none | some l=>some (acc++l)
 mem:∀ u∈us,u∈vs
 sub:List.Sublist (kidsL acc++us.map V.kids) (vs.map V.kids)
 ne:∀ c∈acc,∀ p∈c.1,p≠[]
 la:acc.length+us.length≤vs.length
theorem two_new {w:World} {x y:Value} {T:TypeId}:∀ j u,[x,y][j]? = some u→(w.alloc (.cells #[x,y] T)).cell? (Addr.add ⟨w.heap.size,0,none⟩ j)=some u:=fun j u hu=>by
 rw [Addr.add_mid,Nat.zero_add,cellAt (heap_alloc_last w _) j]
 simpa using hu
theorem list_any {W:World} {lo b:Nat} {ks:List (List V)} {vs:List V} (h:Rk lo W b ks vs W) (hsg:Signs W) (hb:sgB<b) (hf:Fit vs) (hkn:ks.length+vs.length≤1000000) :
  Calls Tryz.prog 20 #[.pointer (some ⟨b,0,none⟩)] W (LsPost lo W b ks (lsZ vs)):=by
 obtain ⟨i0,z0,hi,hz0,hz1,hz2,hz3⟩:=info46
 have hbl:b<W.heap.size:=h.lt
 have hvl:=hf.len
 have HG:Hid (∀ ks' us w,Rk lo W b ks' us w→Signs w):=fun ks' us w hk=>hsg.keepT hk.keep hb
 have HC:Hid (∀ ks' us w,Rk lo W b ks' us w→Fit us→ks'.length+us.length≤1000000→Calls Tryz.prog 47 #[.pointer (some ⟨b,0,none⟩)] w (CxPost lo w b ks' (cxZ us))):=fun ks' us w hk hfu hl=>complex_any hk.self (HG.out _ _ w hk) hb hfu hl
 have HS:Hid (∀ ks' us w,Rk lo W b ks' us w→Calls Tryz.prog 46 #[.pointer (some ⟨b,0,none⟩)] w fun e w'=>e=.returned (.bool (ahd us 0 13))∧Rk lo w b ks' (spc us) w'):=fun ks' us w hk=>by
  obtain ⟨kids,hrd,hn⟩:=hk.self.open
  exact (spaces_any hrd).mono fun e w' q=>⟨q.1,hn _ _ q.2⟩
 have HA:Hid (∀ ks' us w,Rk lo W b ks' us w→Calls Tryz.prog 48 #[.pointer (some ⟨b,0,none⟩),.int .i64 0,.int .i64 18] w fun e w'=>e=.returned (.bool (ahd us 0 18))∧w'=w):=fun ks' us w hk=>by
  obtain ⟨kids,hrd,hn⟩:=hk.self.open
  exact ahead_any hrd 0 18
 have HP:Hid (∀ ks' us w,Rk lo W b ks' us w→1≤us.length→Calls Tryz.prog 49 #[.pointer (some ⟨b,0,none⟩),.int .i64 1] w fun e w'=>e=.returned (.tuple #[])∧Rk lo w b ks' (us.drop 1) w'):=fun ks' us w hk hl=>by
  obtain ⟨kids,hrd,hn⟩:=hk.self.open
  exact (skip_any hrd 1 hl).mono fun e w' q=>⟨q.1,hn _ _ q.2⟩
 have HGO:Hid (LsGo lo W b ks vs (lsZ vs) (.slice none 0 0) [] vs [] W):=by
  refine ⟨⟨⟨rfl,.inl ⟨rfl,rfl⟩⟩,rfl,fun i hi=>absurd hi (by simp),by simp⟩,by simpa [kidsL] using h,?_,fun u hu=>hu,by simp [kidsL],fun c hc=>absurd hc (by simp),by simp⟩
  cases lsZ vs with
  | none=>rfl
  | some x=>rfl
 have HF:=hid_mk hf
 generalize lsZ vs=R at *
 clear h hsg hf HG
 go_enter Tryz.func20,Tryz.ntmps20
 go_wp2_with (fail)
 go_loopg [4] (vs.length+1) (fun k a4 wq=>∃ va vn vc acc us xs,a4=.slice va vn vc∧us.length<k∧Hid (LsGo lo W b ks vs R (.slice va vn vc) acc us xs wq))
 case atStart=>exact ⟨_,_,_,_,_,_,rfl,by omega,HGO⟩
 case round =>
  clear HGO
  obtain ⟨va,vn,vc,acc,us,xs,rfl,hlk,HGO⟩:=hrel
  have hsp:=HS.out _ us wr HGO.out.rk
  have HZS:=hid_mk (lsZ_step us)
  have HSO:=hid_mk (spc_ok us)
  have HSS:=hid_mk (spc_sub us)
  have hln:us.length≤vs.length:=by have:=HGO.out.la;omega
  have HFU:=hid_mk ((HF.out.sub hln HGO.out.mem).spc)
  have HLK:=hid_mk hlk
  have hal3:acc.length≤1000000:=by have:=HGO.out.la;omega
  unfold lsStep at HZS
  generalize spc us=u1 at *
  clear HS hlk hln
  go_wp2_with (go_at_call 46;fail)
  refine hsp.mono ?_
  rintro e w1 ⟨rfl,hrk1⟩
  have hkk:(ks++kidsL acc).length+u1.length≤1000000:=by
   have h1:=HGO.out.sub.length_le
   have h2:=HSO.out.1
   simp at h1
   rw [List.length_append]
   omega
  have rk1:=HGO.out.rk.from hrk1
  have lv1:=HGO.out.lv.keepT hrk1.keep hbl
  have hcx:=HC.out _ u1 w1 rk1 HFU.out hkk
  have HOK:=hid_mk (fun c r=>cxZ_ok _ u1 (Nat.le_refl _) c r)
  have HCS:=hid_mk (fun c r=>cxZ_sub _ u1 (Nat.le_refl _) c r)
  generalize cxZ u1=cr at *
  have HRK1:=hid_mk rk1
  have HLV1:=hid_mk lv1
  clear hsp hrk1 rk1 lv1 HC hkk
  cases cr with
  | none =>
    have HR:Hid (R=none):=by rw [Hid,HGO.out.eq,HZS.out]
    clear HOK HCS HZS HSO HSS HA HP HLV1 HFU HF HGO
    go_wp2_with (go_at_call 47;fail)
    refine hcx.mono ?_
    rintro e w2 ⟨x,y,rfl,rfl,rfl,hkp⟩
    have HKP:Hid (KeepT b W (w2.alloc (.cells #[.slice none 0 0,.slice none 0 0] 37))):=(HRK1.out.keep.trans hkp).trans (KeepT.of ((Below.refl _ _).alloc (Nat.le_refl _) _))
    clear hcx hkp
    go_wp2
    go_ret2
    rw [HR.out]
    exact ⟨rfl,HKP.out⟩
  | some x =>
  obtain ⟨c,r⟩:=x
  obtain ⟨hrl,hrm,hcok⟩:=HOK.out c r rfl
  have hcs:=HCS.out c r rfl
  have HOK2:Hid (r.length<u1.length∧(∀ u∈r,u∈u1)∧CvOk u1 c):=⟨hrl,hrm,hcok⟩
  have HCS2:=hid_mk hcs
  clear HOK HCS hrl hrm hcok hcs
  go_wp2_with (go_at_call 47;fail)
  refine hcx.mono ?_
  rintro e w2 ⟨pv,cv,qs,rfl,hcv,hrk2⟩
  obtain ⟨pa,pn,pc,rfl⟩:=own_sl hcv.ps
  obtain ⟨ca,cn,cc,rfl⟩:=own_sl hcv.cs
  have hsz1:W.heap.size≤w1.heap.size:=HRK1.out.keep.size
  have rk2:=HRK1.out.from hrk2
  have lv2:=HLV1.out.keepT hrk2.keep hbl
  have cv2:=hcv.from hsz1
  have hblk:=HLV1.out.blks HGO.out.ne
  have hblk2:=hcv.blks (fun p hp=>(HOK2.out.2.2.2 p hp).1)
  obtain ⟨w3,hw3⟩:∃ w3,w3=w2.alloc (.cells #[.slice pa pn pc,.slice ca cn cc] 37):=⟨_,rfl⟩
  have hB3:Below w2.heap.size w2 w3:=by rw [hw3];exact (Below.refl _ _).alloc (Nat.le_refl _) _
  have x3:w3.heap[w2.heap.size]? = some (.cells #[.slice pa pn pc,.slice ca cn cc] 37 (0,0)):=by rw [hw3];exact heap_alloc_last w2 _
  obtain ⟨k0,k1,_,_⟩:=cells2 x3
  have hB4:Below w2.heap.size w2 (w3.alloc (.cells #[.slice pa pn pc,.slice ca cn cc] 37)):=hB3.alloc hB3.size _
  have hown:(w3.alloc (.cells #[.slice pa pn pc,.slice ca cn cc] 37)).ownsRow W.heap.size 37 2 (.slice va vn vc) acc.length (xs.flatMap fun x=>[x.1,x.2.1]):=(lv2.keep hB4).row
  have HNX:Hid (∀ w5 v5,(w3.alloc (.cells #[.slice pa pn pc,.slice ca cn cc] 37)).grownBy w5 (Value.slice va vn vc).ownBlock→w5.ownsRow W.heap.size 37 2 v5 (acc.length+1) ((xs.flatMap fun x=>[x.1,x.2.1])++[.slice pa pn pc,.slice ca cn cc])→LvAt W.heap.size w5 v5 (acc++[c]) (xs++[(.slice pa pn pc,.slice ca cn cc,qs)])∧Rk lo W b (ks++kidsL (acc++[c])) r w5):=fun w5 v5 hgr ho=>by
   refine ⟨lv2.add hB4 hgr ho cv2 fun q hq q' hq'=>Nat.lt_of_lt_of_le (hblk q hq).2 (hblk2 q' hq').1,?_⟩
   have e:ks++kidsL (acc++[c])=ks++kidsL acc++kidsC c:=by simp [kidsL]
   rw [e]
   exact (rk2.then hB4).grow hgr hbl (own_ty hown (by decide))
  have hszA:W.heap.size≤(w3.alloc (.cells #[.slice pa pn pc,.slice ca cn cc] 37)).heap.size:=by have h1:=rk2.keep.size;have h2:=hB4.size;omega
  have HOS:Hid (∀ u∈[Value.slice pa pn pc,.slice ca cn cc],u.oneCell'=true):=by
   intro u hu
   simp only [List.mem_cons,List.not_mem_nil,or_false] at hu
   rcases hu with rfl | rfl <;> rfl
  have HON:Hid (∀ j u,[Value.slice pa pn pc,.slice ca cn cc][j]? = some u→(w3.alloc (.cells #[.slice pa pn pc,.slice ca cn cc] 37)).cell? (Addr.add ⟨w3.heap.size,0,none⟩ j)=some u):=two_new
  have HW3:=hid_mk hw3
  clear hcx hcv hrk2 rk2 lv2 cv2 hblk hblk2 hw3 hB3 x3 hB4 HRK1 HLV1 HFU HF
  go_upto_region 6 with (fail)
  rw [← HW3.out]
  clear HW3
  go_wp2_with (at_builtin;with_reducible refine wpList_append_own _ rfl _ _ 23 rfl W.heap.size 37 i0 z0 2 48 Tryz.underlying23 hi hz0 hz1 hz2 hz3 (by decide) (.slice va vn vc) acc.length (xs.flatMap fun x=>[x.1,x.2.1]) rfl hown ⟨w3.heap.size,0,none⟩ 1 1 [.slice pa pn pc,.slice ca cn cc] rfl rfl HON.out HOS.out ?c1 ?c2 ?c3 ?_)
  case c1=>unfold maxLen;omega
  case c2=>omega
  case c3=>exact hszA
  intro v5 w5 ho5 hgr5 _
  obtain ⟨hlv5,hrk5⟩:=HNX.out w5 v5 hgr5 ho5
  obtain ⟨ea,en,ec,rfl⟩:=own_sl ho5
  have hah:=HA.out _ r w5 hrk5
  obtain ⟨kidq,hrdq,_⟩:=hrk5.open
  obtain ⟨ra,rn,rcap,hrn,_,_,h51,_,_⟩:=hrdq.see
  have c50:w5.cell? ⟨b,0,none⟩=some (.slice ra rn rcap):=cellAt h51 0
  have HLV5:=hid_mk hlv5
  have HRK5:=hid_mk hrk5
  have HRN:=hid_mk hrn
  clear HNX hown ho5 hgr5 hlv5 hrk5 hrdq h51 hrn HA k0 k1
  cases r with
  | nil =>
    have HR:Hid (R=some (acc++[c])):=by rw [Hid,HGO.out.eq,HZS.out];rfl
    have hr0:rn=0:=HRN.out
    subst hr0
    clear hah HP HZS HGO HOK2 HCS2 HRN
    go_wp2
    go_ret2
    rw [HR.out]
    exact ⟨_,_,rfl,HLV5.out,HRK5.out⟩
  | cons r0 rr =>
  have hr0:((rn:Int) == 0)=false:=by rw [beq_eq_false_iff_ne,HRN.out];simp;omega
  cases hcm:ahd (r0::rr) 0 18 with
  | false =>
    have HR:Hid (R=none):=by
     rw [Hid,HGO.out.eq,HZS.out]
     simp only [hcm]
     rfl
    have HKP:=hid_mk HRK5.out.keep
    rw [hcm] at hah
    clear hcm HP HZS HGO HOK2 HCS2 HRN HLV5 HRK5
    go_wp2_with (go_at_call 48;fail)
    refine hah.mono ?_
    rintro e w6 ⟨rfl,rfl⟩
    clear hah
    go_wp2
    go_ret2
    rw [HR.out]
    exact ⟨rfl,HKP.out⟩
  | true =>
    have hsk:=HP.out _ _ w5 HRK5.out (by simp)
    rw [hcm] at hah
    rw [show (r0::rr).drop 1=rr from rfl] at hsk
    have HNX:Hid (∀ w7,Rk lo w5 b (ks++kidsL (acc++[c])) rr w7→LsGo lo W b ks vs R (.slice ea en ec) (acc++[c]) rr (xs++[(.slice pa pn pc,.slice ca cn cc,qs)]) w7):=fun w7 hk=>by
     refine ⟨HLV5.out.keepT hk.keep hbl,HRK5.out.from hk,?_,fun u hu=>HGO.out.mem u (HSO.out.2 u (HOK2.out.2.1 u (by simp [hu]))),?_,fun c' hc'=>?_,?_⟩
     ·rw [HGO.out.eq,HZS.out]
      simp only [hcm,List.isEmpty_cons,Bool.false_eq_true,if_false,if_true]
      rw [show (r0::rr).drop 1=rr from rfl]
      cases lsZ rr with
      | none=>rfl
      | some l=>simp
     ·rw [show kidsL (acc++[c])=kidsL acc++kidsC c by simp [kidsL],List.append_assoc]
      refine ((List.Sublist.refl _).append (List.Sublist.trans ?_ (HCS2.out.trans HSS.out))).trans HGO.out.sub
      exact (List.Sublist.refl _).append (List.sublist_cons_self _ _)
     ·rcases List.mem_append.1 hc' with h | h
      ·exact HGO.out.ne c' h
      ·rw [List.mem_singleton.1 h]
       exact fun p hp=>(HOK2.out.2.2.2 p hp).1
     ·have h1:=HGO.out.la
      have h2:=HOK2.out.1
      have h3:=HSO.out.1
      simp only [List.length_append,List.length_cons,List.length_nil] at h2 ⊢
      omega
    have HLT:Hid (rr.length<us.length):=by
     have h2:=HOK2.out.1
     have h3:=HSO.out.1
     rw [Hid]
     simp only [List.length_cons] at h2
     omega
    clear hcm HP HZS HGO HOK2 HCS2 HRN HLV5 HRK5 HSO HSS
    go_wp2_with (go_at_call 48;fail)
    refine hah.mono ?_
    rintro e w6 ⟨rfl,rfl⟩
    clear hah
    go_wp2_with (go_at_call 49;fail)
    refine hsk.mono ?_
    rintro e w7 ⟨rfl,hk7⟩
    have HGN:=hid_mk (HNX.out w7 hk7)
    clear hsk hk7 HNX
    go_wp2
    go_roundg us.length
    case measure=>exact HLK.out
    case rel=>exact ⟨_,_,_,_,_,_,rfl,HLT.out,HGN⟩
def SeeAt (W:World) (v:Value) (l:List (List (List (Int×Addr)))):Prop:=∃ b off,Sl W v l.length b off∧∀ i (hi:i<l.length),∃ pv cv bp op,W.cell? ⟨b,off+i * 2,none⟩=some pv∧W.cell? ⟨b,off+i * 2+1,none⟩=some cv∧(∃ ca cn cc,cv=.slice ca cn cc)∧Sl W pv (l[i]'hi).length bp op ∧
 ∀ j (hj:j<(l[i]'hi).length),∃ qv bq oq,W.cell? ⟨bp,op+j,none⟩=some qv∧Sl W qv ((l[i]'hi)[j]'hj).length bq oq∧∀ t (ht:t<((l[i]'hi)[j]'hj).length),(((l[i]'hi)[j]'hj)[t]'ht).2=⟨bq,oq+t * 7,none⟩∧W.cell? ⟨bq,oq+t * 7,none⟩=some (.int .i64 (((l[i]'hi)[j]'hj)[t]'ht).1)
def selP (f:Int→Bool) (p:List (Int×Addr)):List Addr:=(p.filter fun x=>f x.1).map Prod.snd
def selC (f:Int→Bool) (c:List (List (Int×Addr))):List Addr:=c.flatMap (selP f)
def selL (f:Int→Bool) (l:List (List (List (Int×Addr)))):List Addr:=l.flatMap (selC f)
theorem selP_step (f:Int→Bool) {p:List (Int×Addr)} {t:Nat} (h:t<p.length):selP f (p.take (t+1))=selP f (p.take t)++if f (p[t]'h).1=true then [(p[t]'h).2] else []:=by
 rw [List.take_add_one,List.getElem?_eq_getElem h,Option.toList_some]
 unfold selP
 rw [List.filter_append,List.map_append]
 congr 1
 by_cases hf:f (p[t]'h).1=true
 ·simp [hf]
 ·simp [hf]
theorem selC_step (f:Int→Bool) {c:List (List (Int×Addr))} {t:Nat} (h:t<c.length):selC f (c.take (t+1))=selC f (c.take t)++selP f (c[t]'h):=by
 rw [List.take_add_one,List.getElem?_eq_getElem h,Option.toList_some]
 unfold selC
 rw [List.flatMap_append]
 simp
theorem selL_step (f:Int→Bool) {l:List (List (List (Int×Addr)))} {t:Nat} (h:t<l.length):selL f (l.take (t+1))=selL f (l.take t)++selC f (l[t]'h):=by
 rw [List.take_add_one,List.getElem?_eq_getElem h,Option.toList_some]
 unfold selL
 rw [List.flatMap_append]
 simp
theorem selP_le (f:Int→Bool) (p:List (Int×Addr)) (t:Nat):(selP f (p.take t)).length≤(selP f p).length:=(((List.take_sublist t p).filter _).map _).length_le
theorem selC_le (f:Int→Bool) (c:List (List (Int×Addr))) (t:Nat):(selC f (c.take t)).length≤(selC f c).length:=by
 have e:selC f c=selC f (c.take t)++selC f (c.drop t):=by
  conv=>lhs;rw [← List.take_append_drop t c]
  unfold selC
  rw [List.flatMap_append]
 rw [e,List.length_append]
 omega
theorem selL_le (f:Int→Bool) (l:List (List (List (Int×Addr)))) (t:Nat):(selL f (l.take t)).length≤(selL f l).length:=by
 have e:selL f l=selL f (l.take t)++selL f (l.drop t):=by
  conv=>lhs;rw [← List.take_append_drop t l]
  unfold selL
  rw [List.flatMap_append]
 rw [e,List.length_append]
 omega
def PsAt (B:Nat) (W:World) (v:Value) (l:List Addr):Prop:=W.ownsRow B 95 1 v l.length (l.map fun a=>Value.pointer (some a))
theorem info122:∃ i z,Tryz.prog.info? 95=some i∧i.zero=some z∧i.size=1∧i.bytes=8∧z.cells.size=1:=⟨_,_,by rfl,by rfl,by rfl,by rfl,by rfl⟩
theorem within_77 {f:Int→Bool} (hf:∀ w k,Calls Tryz.prog 51 #[.int .i64 k] w fun e w'=>e=.returned (.bool (f k))∧w'=w) {W:World} {v:Value} {l:List (List (List (Int×Addr)))} (hv:SeeAt W v l) (hbig:(selL f l).length≤1000000) :
  Calls Tryz.prog 50 #[v,.func (.func 51) #[] #[]] W fun e w'=>∃ v',e=.returned v'∧PsAt W.heap.size w' v' (selL f l)∧Below W.heap.size W w':=by
 obtain ⟨i0,z0,hi0,hz0,hz1,hz2,hz3⟩:=info122
 obtain ⟨b,off,⟨a,cap,rfl,hc1,hc2,hsa⟩,hat⟩:=hv
 have HAT:=hid_mk hat
 have HSA:=hid_mk hsa
 have HF:=hid_mk hf
 have hll:l.length≤9223372036854775807:=by omega
 have HP0:Hid (PsAt W.heap.size W (.slice none 0 0) []):=⟨rfl,.inl ⟨rfl,rfl⟩⟩
 have HBG:=hid_mk hbig
 obtain ⟨N,hN⟩:∃ N,N=l.length:=⟨_,rfl⟩
 rw [← hN] at hll hc1 ⊢
 have HN:=hid_mk hN
 clear hat hsa hf hbig hN
 go_enter Tryz.func50,Tryz.ntmps50
 go_wp2
 go_loopw [5,13] (fun a5 a13 wq=>∃ (i:Nat) (va:Option Addr) (vn vc:Nat),i≤N∧a13=.int .i64 (i:Int)∧a5=.slice va vn vc∧Hid (PsAt W.heap.size wq (.slice va vn vc) (selL f (l.take i)))∧Hid (Below W.heap.size W wq)) (fun _ a13 _=>N+1 - (intOf a13).toNat)
 case atStart=>exact ⟨0,_,_,_,Nat.zero_le _,rfl,rfl,HP0,Below.refl _ _⟩
 case round =>
  obtain ⟨i,va,vn,vc,hi,rfl,rfl,HP,HB⟩:=hrel
  clear HP0
  by_cases hil:i<N
  ·have hil':i<l.length:=by have:=HN.out;omega
   obtain ⟨rfl,hbw⟩:=HSA.out (by omega)
   obtain ⟨pv,cv,bp,op,q1,q2,⟨ca,cn,cc,rfl⟩,⟨pa,pc,rfl,hp1,hp2,hpa⟩,hat⟩:=HAT.out i hil'
   have q1':=(HB.out.cell (p:=⟨b,off+i * 2,none⟩) hbw).trans q1
   have q2':=(HB.out.cell (p:=⟨b,off+i * 2+1,none⟩) hbw).trans q2
   have HAI:=hid_mk hat
   have HPA:=hid_mk hpa
   have HST:=hid_mk (selL_step f hil')
   have HLE:=hid_mk (selL_le f l (i+1))
   generalize l[i]'hil'=c at *
   obtain ⟨M,hM⟩:∃ M,M=c.length:=⟨_,rfl⟩
   rw [← hM] at hp1 q1 q1'
   have HM:=hid_mk hM
   have hpl:M≤9223372036854775807:=by omega
   obtain ⟨w1,hw1⟩:∃ w1,w1=wr.alloc (.cells #[.slice pa M pc,.slice ca cn cc] 37):=⟨_,rfl⟩
   have hB1:Below wr.heap.size wr w1:=by rw [hw1];exact (Below.refl _ _).alloc (Nat.le_refl _) _
   have x1:w1.heap[wr.heap.size]? = some (.cells #[.slice pa M pc,.slice ca cn cc] 37 (0,0)):=by rw [hw1];exact heap_alloc_last wr _
   obtain ⟨k0,k1,_,_⟩:=cells2 x1
   have HB1:=hid_mk (HB.out.trans (hB1.mono HB.out.size))
   have HP1:Hid (PsAt W.heap.size w1 (.slice va vn vc) (selL f (l.take i)++selC f (c.take 0))):=by
    rw [Hid,show selC f (c.take 0)=[] from rfl,List.append_nil]
    exact own_stayT HP.out fun g c hc _=>hB1.block g (Array.getElem?_eq_some_iff.1 hc).1
   have HW1:=hid_mk hw1
   clear hat hpa q1 q2 hM hw1 hB1 x1 HP HB
   go_upto_region 5 with (fail)
   rw [← HW1.out]
   clear HW1 q1' q2'
   go_wp2
   clear k0 k1
   go_loopw [5,20] (fun a5 a20 wq=>∃ (j:Nat) (va:Option Addr) (vn vc:Nat),j≤M∧a20=.int .i64 (j:Int)∧a5=.slice va vn vc∧Hid (PsAt W.heap.size wq (.slice va vn vc) (selL f (l.take i)++selC f (c.take j)))∧Hid (Below W.heap.size W wq)) (fun _ a20 _=>M+1 - (intOf a20).toNat)
   case atStart=>exact ⟨0,_,_,_,Nat.zero_le _,rfl,rfl,HP1,HB1⟩
   case round =>
    obtain ⟨j,va,vn,vc,hj,rfl,rfl,HP,HB⟩:=hrel
    clear HP1 HB1
    by_cases hjl:j<M
    ·have hjl':j<c.length:=by have:=HM.out;omega
     obtain ⟨rfl,hbw2⟩:=HPA.out (by have:=HM.out;omega)
     obtain ⟨qv,bq,oq,q3,⟨qa,qc,rfl,hq1,hq2,hqa⟩,hat⟩:=HAI.out j hjl'
     have q3':=(HB.out.cell (p:=⟨bp,op+j,none⟩) hbw2).trans q3
     have HAJ:=hid_mk hat
     have HQA:=hid_mk hqa
     have HSJ:=hid_mk (selC_step f hjl')
     have HLJ:=hid_mk (selC_le f c (j+1))
     generalize c[j]'hjl'=p at *
     obtain ⟨L,hL⟩:∃ L,L=p.length:=⟨_,rfl⟩
     rw [← hL] at hq1 q3 q3'
     have HL:=hid_mk hL
     have hql:L≤9223372036854775807:=by omega
     have HP1:Hid (PsAt W.heap.size wr (.slice va vn vc) (selL f (l.take i)++selC f (c.take j)++selP f (p.take 0))):=by
      rw [Hid,show selP f (p.take 0)=[] from rfl,List.append_nil]
      exact HP.out
     have HB1:=HB
     clear hat hqa q3 hL HP HB
     go_wp2
     clear q3'
     go_loopw [5,26] (fun a5 a26 wq=>∃ (t:Nat) (va:Option Addr) (vn vc:Nat),t≤L∧a26=.int .i64 (t:Int)∧a5=.slice va vn vc∧Hid (PsAt W.heap.size wq (.slice va vn vc) (selL f (l.take i)++selC f (c.take j)++selP f (p.take t)))∧Hid (Below W.heap.size W wq)) (fun _ a26 _=>L+1 - (intOf a26).toNat)
     case atStart=>exact ⟨0,_,_,_,Nat.zero_le _,rfl,rfl,HP1,HB1⟩
     case round =>
      obtain ⟨t,va,vn,vc,ht,rfl,rfl,HP,HB⟩:=hrel
      clear HP1 HB1
      by_cases htl:t<L
      ·have htl':t<p.length:=by have:=HL.out;omega
       obtain ⟨rfl,hbw3⟩:=HQA.out (by have:=HL.out;omega)
       obtain ⟨hadr,hkind⟩:=HAJ.out t htl'
       have q4:=(HB.out.cell (p:=⟨bq,oq+t * 7,none⟩) hbw3).trans hkind
       have HSP:=hid_mk (selP_step f htl')
       have HLP:=hid_mk (selP_le f p (t+1))
       have hcall:=HF.out wr (p[t]'htl').1
       rw [hadr] at HSP
       generalize (p[t]'htl').1=k at *
       have hd1:((t:Int)<(L:Int)):=by omega
       clear hadr hkind
       cases hfk:f k with
       | false =>
         have HPN:Hid (PsAt W.heap.size wr (.slice va vn vc) (selL f (l.take i)++selC f (c.take j)++selP f (p.take (t+1)))):=by
          rw [Hid,HSP.out,if_neg (by rw [hfk];decide),List.append_nil]
          exact HP.out
         rw [hfk] at hcall
         clear HP HSP hfk
         go_wp2_with (go_at_call 51;fail)
         refine hcall.mono ?_
         rintro e w2 ⟨rfl,rfl⟩
         clear hcall
         go_wp2
         exact ⟨⟨t+1,_,_,_,by omega,by go_num,rfl,HPN,HB⟩,by simp only [intOf];omega⟩
       | true =>
         have HE:Hid (selP f (p.take (t+1))=selP f (p.take t)++[⟨bq,oq+t * 7,none⟩]):=by rw [Hid,HSP.out,if_pos hfk]
         have hbd:(selL f (l.take i)++selC f (c.take j)++selP f (p.take t)).length+1≤1000000:=by
          have h1:=HBG.out
          have h2:=HLE.out
          have h3:=HLJ.out
          have h4:=HLP.out
          have e1:=congrArg List.length HST.out
          have e2:=congrArg List.length HSJ.out
          have e3:=congrArg List.length HE.out
          simp only [List.length_append,List.length_singleton] at e1 e2 e3 ⊢
          omega
         rw [hfk] at hcall
         generalize selL f (l.take i)++selC f (c.take j)=pre at *
         generalize hpre:pre++selP f (p.take t)=acc at *
         have hown:(wr.alloc (.cells #[.pointer (some ⟨bq,oq+t * 7,none⟩)] 95)).ownsRow W.heap.size 95 1 (.slice va vn vc) acc.length (acc.map fun a=>Value.pointer (some a)):=own_stayT HP.out fun g c hc _=>Below.heap_alloc _ _ _ (Array.getElem?_eq_some_iff.1 hc).1
         have HNX:Hid (∀ w3 v3,(wr.alloc (.cells #[.pointer (some ⟨bq,oq+t * 7,none⟩)] 95)).grownBy w3 (Value.slice va vn vc).ownBlock→w3.ownsRow W.heap.size 95 1 v3 (acc.length+1) ((acc.map fun a=>Value.pointer (some a))++[.pointer (some ⟨bq,oq+t * 7,none⟩)])→PsAt W.heap.size w3 v3 (pre++selP f (p.take (t+1)))∧Below W.heap.size W w3):=fun w3 v3 hgr ho=>by
          refine ⟨?_,?_⟩
          ·rw [HE.out,← List.append_assoc,hpre]
           unfold PsAt
           rw [List.length_append,List.map_append]
           exact ho
          ·have hB2:Below W.heap.size W (wr.alloc (.cells #[.pointer (some ⟨bq,oq+t * 7,none⟩)] 95)):=HB.out.alloc HB.out.size _
           exact hB2.grown hgr hB2.size fun k hk=>(hown.lt k hk).1
         have HOS:Hid (∀ u∈[Value.pointer (some ⟨bq,oq+t * 7,none⟩)],u.oneCell'=true):=by
          intro u hu
          rw [List.mem_singleton.1 hu]
          rfl
         have HON:Hid (∀ j u,[Value.pointer (some ⟨bq,oq+t * 7,none⟩)][j]? = some u→(wr.alloc (.cells #[.pointer (some ⟨bq,oq+t * 7,none⟩)] 95)).cell? (Addr.add ⟨wr.heap.size,0,none⟩ j)=some u):=one_news
         have hszA:W.heap.size≤(wr.alloc (.cells #[.pointer (some ⟨bq,oq+t * 7,none⟩)] 95)).heap.size:=by have:=HB.out.size;simp;omega
         clear HP HSP hfk HE hpre
         go_wp2_with (go_at_call 51;fail)
         refine hcall.mono ?_
         rintro e w2 ⟨rfl,rfl⟩
         clear hcall
         go_wp2_with (at_builtin;with_reducible refine wpList_append_own _ rfl _ _ 92 rfl W.heap.size 95 i0 z0 1 8 Tryz.underlying92 hi0 hz0 hz1 hz2 hz3 (by decide) (.slice va vn vc) acc.length (acc.map fun a=>Value.pointer (some a)) rfl hown ⟨w2.heap.size,0,none⟩ 1 1 [.pointer (some ⟨bq,oq+t * 7,none⟩)] rfl rfl HON.out HOS.out ?c1 ?c2 ?c3 ?_)
         case c1=>unfold maxLen;omega
         case c2=>omega
         case c3=>exact hszA
         intro v3 w3 ho3 hgr3 _
         obtain ⟨hP3,hB3⟩:=HNX.out w3 v3 hgr3 ho3
         obtain ⟨ea,en,ec,rfl⟩:=own_sl ho3
         have HP3:=hid_mk hP3
         have HB3:=hid_mk hB3
         clear HNX hown ho3 hgr3 hP3 hB3 q4
         go_wp2
         exact ⟨⟨t+1,_,_,_,by omega,by go_num,rfl,HP3,HB3⟩,by simp only [intOf];omega⟩
      ·have hte:t=L:=by omega
       subst hte
       have HPN:Hid (PsAt W.heap.size wr (.slice va vn vc) (selL f (l.take i)++selC f (c.take (j+1)))):=by
        rw [Hid,HSJ.out,← List.append_assoc]
        have h1:=HP.out
        rw [HL.out,List.take_length] at h1
        exact h1
       clear HP htl
       go_wp2
       exact ⟨⟨j+1,_,_,_,by omega,by go_num,rfl,HPN,HB⟩,by simp only [intOf];omega⟩
    ·have hje:j=M:=by omega
     subst hje
     have HPN:Hid (PsAt W.heap.size wr (.slice va vn vc) (selL f (l.take (i+1)))):=by
      rw [Hid,HST.out]
      have h1:=HP.out
      rw [HM.out,List.take_length] at h1
      exact h1
     clear HP hjl
     go_wp2
     exact ⟨⟨i+1,_,_,_,by omega,by go_num,rfl,HPN,HB⟩,by simp only [intOf];omega⟩
  ·have hie:i=N:=by omega
   subst hie
   have HPN:Hid (PsAt W.heap.size wr (.slice va vn vc) (selL f l)):=by
    have h1:=HP.out
    rw [HN.out,List.take_length] at h1
    exact h1
   clear HP hil
   go_wp2
   go_ret
   exact ⟨_,rfl,HPN.out,HB.out⟩
theorem within_83 {f:Int→Bool} (hf:∀ w k,Calls Tryz.prog 94 #[.int .i64 k] w fun e w'=>e=.returned (.bool (f k))∧w'=w) {W:World} {v:Value} {l:List (List (List (Int×Addr)))} (hv:SeeAt W v l) (hbig:(selL f l).length≤1000000) :
  Calls Tryz.prog 50 #[v,.func (.func 94) #[] #[]] W fun e w'=>∃ v',e=.returned v'∧PsAt W.heap.size w' v' (selL f l)∧Below W.heap.size W w':=by
 obtain ⟨i0,z0,hi0,hz0,hz1,hz2,hz3⟩:=info122
 obtain ⟨b,off,⟨a,cap,rfl,hc1,hc2,hsa⟩,hat⟩:=hv
 have HAT:=hid_mk hat
 have HSA:=hid_mk hsa
 have HF:=hid_mk hf
 have hll:l.length≤9223372036854775807:=by omega
 have HP0:Hid (PsAt W.heap.size W (.slice none 0 0) []):=⟨rfl,.inl ⟨rfl,rfl⟩⟩
 have HBG:=hid_mk hbig
 obtain ⟨N,hN⟩:∃ N,N=l.length:=⟨_,rfl⟩
 rw [← hN] at hll hc1 ⊢
 have HN:=hid_mk hN
 clear hat hsa hf hbig hN
 go_enter Tryz.func50,Tryz.ntmps50
 go_wp2
 go_loopw [5,13] (fun a5 a13 wq=>∃ (i:Nat) (va:Option Addr) (vn vc:Nat),i≤N∧a13=.int .i64 (i:Int)∧a5=.slice va vn vc∧Hid (PsAt W.heap.size wq (.slice va vn vc) (selL f (l.take i)))∧Hid (Below W.heap.size W wq)) (fun _ a13 _=>N+1 - (intOf a13).toNat)
 case atStart=>exact ⟨0,_,_,_,Nat.zero_le _,rfl,rfl,HP0,Below.refl _ _⟩
 case round =>
  obtain ⟨i,va,vn,vc,hi,rfl,rfl,HP,HB⟩:=hrel
  clear HP0
  by_cases hil:i<N
  ·have hil':i<l.length:=by have:=HN.out;omega
   obtain ⟨rfl,hbw⟩:=HSA.out (by omega)
   obtain ⟨pv,cv,bp,op,q1,q2,⟨ca,cn,cc,rfl⟩,⟨pa,pc,rfl,hp1,hp2,hpa⟩,hat⟩:=HAT.out i hil'
   have q1':=(HB.out.cell (p:=⟨b,off+i * 2,none⟩) hbw).trans q1
   have q2':=(HB.out.cell (p:=⟨b,off+i * 2+1,none⟩) hbw).trans q2
   have HAI:=hid_mk hat
   have HPA:=hid_mk hpa
   have HST:=hid_mk (selL_step f hil')
   have HLE:=hid_mk (selL_le f l (i+1))
   generalize l[i]'hil'=c at *
   obtain ⟨M,hM⟩:∃ M,M=c.length:=⟨_,rfl⟩
   rw [← hM] at hp1 q1 q1'
   have HM:=hid_mk hM
   have hpl:M≤9223372036854775807:=by omega
   obtain ⟨w1,hw1⟩:∃ w1,w1=wr.alloc (.cells #[.slice pa M pc,.slice ca cn cc] 37):=⟨_,rfl⟩
   have hB1:Below wr.heap.size wr w1:=by rw [hw1];exact (Below.refl _ _).alloc (Nat.le_refl _) _
   have x1:w1.heap[wr.heap.size]? = some (.cells #[.slice pa M pc,.slice ca cn cc] 37 (0,0)):=by rw [hw1];exact heap_alloc_last wr _
   obtain ⟨k0,k1,_,_⟩:=cells2 x1
   have HB1:=hid_mk (HB.out.trans (hB1.mono HB.out.size))
   have HP1:Hid (PsAt W.heap.size w1 (.slice va vn vc) (selL f (l.take i)++selC f (c.take 0))):=by
    rw [Hid,show selC f (c.take 0)=[] from rfl,List.append_nil]
    exact own_stayT HP.out fun g c hc _=>hB1.block g (Array.getElem?_eq_some_iff.1 hc).1
   have HW1:=hid_mk hw1
   clear hat hpa q1 q2 hM hw1 hB1 x1 HP HB
   go_upto_region 5 with (fail)
   rw [← HW1.out]
   clear HW1 q1' q2'
   go_wp2
   clear k0 k1
   go_loopw [5,20] (fun a5 a20 wq=>∃ (j:Nat) (va:Option Addr) (vn vc:Nat),j≤M∧a20=.int .i64 (j:Int)∧a5=.slice va vn vc∧Hid (PsAt W.heap.size wq (.slice va vn vc) (selL f (l.take i)++selC f (c.take j)))∧Hid (Below W.heap.size W wq)) (fun _ a20 _=>M+1 - (intOf a20).toNat)
   case atStart=>exact ⟨0,_,_,_,Nat.zero_le _,rfl,rfl,HP1,HB1⟩
   case round =>
    obtain ⟨j,va,vn,vc,hj,rfl,rfl,HP,HB⟩:=hrel
    clear HP1 HB1
    by_cases hjl:j<M
    ·have hjl':j<c.length:=by have:=HM.out;omega
     obtain ⟨rfl,hbw2⟩:=HPA.out (by have:=HM.out;omega)
     obtain ⟨qv,bq,oq,q3,⟨qa,qc,rfl,hq1,hq2,hqa⟩,hat⟩:=HAI.out j hjl'
     have q3':=(HB.out.cell (p:=⟨bp,op+j,none⟩) hbw2).trans q3
     have HAJ:=hid_mk hat
     have HQA:=hid_mk hqa
     have HSJ:=hid_mk (selC_step f hjl')
     have HLJ:=hid_mk (selC_le f c (j+1))
     generalize c[j]'hjl'=p at *
     obtain ⟨L,hL⟩:∃ L,L=p.length:=⟨_,rfl⟩
     rw [← hL] at hq1 q3 q3'
     have HL:=hid_mk hL
     have hql:L≤9223372036854775807:=by omega
     have HP1:Hid (PsAt W.heap.size wr (.slice va vn vc) (selL f (l.take i)++selC f (c.take j)++selP f (p.take 0))):=by
      rw [Hid,show selP f (p.take 0)=[] from rfl,List.append_nil]
      exact HP.out
     have HB1:=HB
     clear hat hqa q3 hL HP HB
     go_wp2
     clear q3'
     go_loopw [5,26] (fun a5 a26 wq=>∃ (t:Nat) (va:Option Addr) (vn vc:Nat),t≤L∧a26=.int .i64 (t:Int)∧a5=.slice va vn vc∧Hid (PsAt W.heap.size wq (.slice va vn vc) (selL f (l.take i)++selC f (c.take j)++selP f (p.take t)))∧Hid (Below W.heap.size W wq)) (fun _ a26 _=>L+1 - (intOf a26).toNat)
     case atStart=>exact ⟨0,_,_,_,Nat.zero_le _,rfl,rfl,HP1,HB1⟩
     case round =>
      obtain ⟨t,va,vn,vc,ht,rfl,rfl,HP,HB⟩:=hrel
      clear HP1 HB1
      by_cases htl:t<L
      ·have htl':t<p.length:=by have:=HL.out;omega
       obtain ⟨rfl,hbw3⟩:=HQA.out (by have:=HL.out;omega)
       obtain ⟨hadr,hkind⟩:=HAJ.out t htl'
       have q4:=(HB.out.cell (p:=⟨bq,oq+t * 7,none⟩) hbw3).trans hkind
       have HSP:=hid_mk (selP_step f htl')
       have HLP:=hid_mk (selP_le f p (t+1))
       have hcall:=HF.out wr (p[t]'htl').1
       rw [hadr] at HSP
       generalize (p[t]'htl').1=k at *
       have hd1:((t:Int)<(L:Int)):=by omega
       clear hadr hkind
       cases hfk:f k with
       | false =>
         have HPN:Hid (PsAt W.heap.size wr (.slice va vn vc) (selL f (l.take i)++selC f (c.take j)++selP f (p.take (t+1)))):=by
          rw [Hid,HSP.out,if_neg (by rw [hfk];decide),List.append_nil]
          exact HP.out
         rw [hfk] at hcall
         clear HP HSP hfk
         go_wp2_with (go_at_call 94;fail)
         refine hcall.mono ?_
         rintro e w2 ⟨rfl,rfl⟩
         clear hcall
         go_wp2
         exact ⟨⟨t+1,_,_,_,by omega,by go_num,rfl,HPN,HB⟩,by simp only [intOf];omega⟩
       | true =>
         have HE:Hid (selP f (p.take (t+1))=selP f (p.take t)++[⟨bq,oq+t * 7,none⟩]):=by rw [Hid,HSP.out,if_pos hfk]
         have hbd:(selL f (l.take i)++selC f (c.take j)++selP f (p.take t)).length+1≤1000000:=by
          have h1:=HBG.out
          have h2:=HLE.out
          have h3:=HLJ.out
          have h4:=HLP.out
          have e1:=congrArg List.length HST.out
          have e2:=congrArg List.length HSJ.out
          have e3:=congrArg List.length HE.out
          simp only [List.length_append,List.length_singleton] at e1 e2 e3 ⊢
          omega
         rw [hfk] at hcall
         generalize selL f (l.take i)++selC f (c.take j)=pre at *
         generalize hpre:pre++selP f (p.take t)=acc at *
         have hown:(wr.alloc (.cells #[.pointer (some ⟨bq,oq+t * 7,none⟩)] 95)).ownsRow W.heap.size 95 1 (.slice va vn vc) acc.length (acc.map fun a=>Value.pointer (some a)):=own_stayT HP.out fun g c hc _=>Below.heap_alloc _ _ _ (Array.getElem?_eq_some_iff.1 hc).1
         have HNX:Hid (∀ w3 v3,(wr.alloc (.cells #[.pointer (some ⟨bq,oq+t * 7,none⟩)] 95)).grownBy w3 (Value.slice va vn vc).ownBlock→w3.ownsRow W.heap.size 95 1 v3 (acc.length+1) ((acc.map fun a=>Value.pointer (some a))++[.pointer (some ⟨bq,oq+t * 7,none⟩)])→PsAt W.heap.size w3 v3 (pre++selP f (p.take (t+1)))∧Below W.heap.size W w3):=fun w3 v3 hgr ho=>by
          refine ⟨?_,?_⟩
          ·rw [HE.out,← List.append_assoc,hpre]
           unfold PsAt
           rw [List.length_append,List.map_append]
           exact ho
          ·have hB2:Below W.heap.size W (wr.alloc (.cells #[.pointer (some ⟨bq,oq+t * 7,none⟩)] 95)):=HB.out.alloc HB.out.size _
           exact hB2.grown hgr hB2.size fun k hk=>(hown.lt k hk).1
         have HOS:Hid (∀ u∈[Value.pointer (some ⟨bq,oq+t * 7,none⟩)],u.oneCell'=true):=by
          intro u hu
          rw [List.mem_singleton.1 hu]
          rfl
         have HON:Hid (∀ j u,[Value.pointer (some ⟨bq,oq+t * 7,none⟩)][j]? = some u→(wr.alloc (.cells #[.pointer (some ⟨bq,oq+t * 7,none⟩)] 95)).cell? (Addr.add ⟨wr.heap.size,0,none⟩ j)=some u):=one_news
         have hszA:W.heap.size≤(wr.alloc (.cells #[.pointer (some ⟨bq,oq+t * 7,none⟩)] 95)).heap.size:=by have:=HB.out.size;simp;omega
         clear HP HSP hfk HE hpre
         go_wp2_with (go_at_call 94;fail)
         refine hcall.mono ?_
         rintro e w2 ⟨rfl,rfl⟩
         clear hcall
         go_wp2_with (at_builtin;with_reducible refine wpList_append_own _ rfl _ _ 92 rfl W.heap.size 95 i0 z0 1 8 Tryz.underlying92 hi0 hz0 hz1 hz2 hz3 (by decide) (.slice va vn vc) acc.length (acc.map fun a=>Value.pointer (some a)) rfl hown ⟨w2.heap.size,0,none⟩ 1 1 [.pointer (some ⟨bq,oq+t * 7,none⟩)] rfl rfl HON.out HOS.out ?c1 ?c2 ?c3 ?_)
         case c1=>unfold maxLen;omega
         case c2=>omega
         case c3=>exact hszA
         intro v3 w3 ho3 hgr3 _
         obtain ⟨hP3,hB3⟩:=HNX.out w3 v3 hgr3 ho3
         obtain ⟨ea,en,ec,rfl⟩:=own_sl ho3
         have HP3:=hid_mk hP3
         have HB3:=hid_mk hB3
         clear HNX hown ho3 hgr3 hP3 hB3 q4
         go_wp2
         exact ⟨⟨t+1,_,_,_,by omega,by go_num,rfl,HP3,HB3⟩,by simp only [intOf];omega⟩
      ·have hte:t=L:=by omega
       subst hte
       have HPN:Hid (PsAt W.heap.size wr (.slice va vn vc) (selL f (l.take i)++selC f (c.take (j+1)))):=by
        rw [Hid,HSJ.out,← List.append_assoc]
        have h1:=HP.out
        rw [HL.out,List.take_length] at h1
        exact h1
       clear HP htl
       go_wp2
       exact ⟨⟨j+1,_,_,_,by omega,by go_num,rfl,HPN,HB⟩,by simp only [intOf];omega⟩
    ·have hje:j=M:=by omega
     subst hje
     have HPN:Hid (PsAt W.heap.size wr (.slice va vn vc) (selL f (l.take (i+1)))):=by
      rw [Hid,HST.out]
      have h1:=HP.out
      rw [HM.out,List.take_length] at h1
      exact h1
     clear HP hjl
     go_wp2
     exact ⟨⟨i+1,_,_,_,by omega,by go_num,rfl,HPN,HB⟩,by simp only [intOf];omega⟩
  ·have hie:i=N:=by omega
   subst hie
   have HPN:Hid (PsAt W.heap.size wr (.slice va vn vc) (selL f l)):=by
    have h1:=HP.out
    rw [HN.out,List.take_length] at h1
    exact h1
   clear HP hil
   go_wp2
   go_ret
   exact ⟨_,rfl,HPN.out,HB.out⟩
end Go.Proofs.YtemlnblifkdenaaGreatDoor.L
