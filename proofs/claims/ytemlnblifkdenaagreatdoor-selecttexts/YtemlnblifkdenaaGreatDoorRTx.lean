/- gouacheref05.Text. -/
import Derived.Test.YtemlnblifkdenaaGreatDoorLPa
import Derived.Test.YtemlnblifkdenaaGreatDoorYTrm
import Derived.Deep.MidRow
import Derived.Deep.RegionHeld3
import Derived.Lib.LazyBuf
import Derived.Deep.AppendLies
import Derived.Test.YtemlnblifkdenaaGreatDoorToks
import Derived.Test.YtemlnblifkdenaaGreatDoorYFold
import Derived.Test.YtemlnblifkdenaaGreatDoorPlain
import Derived.Test.YtemlnblifkdenaaGreatDoorRunes
import Derived.Test.YtemlnblifkdenaaGreatDoorYReadA
import Derived.Test.YtemlnblifkdenaaGreatDoorYRefWord
import Derived.Test.YtemlnblifkdenaaGreatDoorLCo
set_option maxRecDepth 100000
set_option maxHeartbeats 8000000
namespace Go.Proofs.YtemlnblifkdenaaGreatDoor.L
open Go.RowKit
theorem three {P:Nat→Prop} {w:World} {l:List Cv} {xs:List (Value×Value×List Value)} (hl:Lens l xs) {tsq:List (Value×Addr)} (hlen:tsq.length=(kidsL l).length)
  (h:∀ i (h:i<tsq.length) (h':i<((tks l xs).map Prod.snd).length) (h'':i<(kidsL l).length),(tsq[i]'h).2=(((tks l xs).map Prod.snd)[i]'h').add 6∧VsAt P w (tsq[i]'h).1 ((kidsL l)[i]'h'')) :
  ∃ n3:List T3,rowC n3=tsC tsq∧n3.length=tsq.length∧n3.map Prod.snd=(tks l xs).map (fun y=>(y.1,y.2.add 6))∧∀ x∈n3,VsAt P w x.1 x.2.1:=by
 have hk:=tks_kids l xs hl
 have htl:(tks l xs).length=(kidsL l).length:=by rw [← hk,List.length_map]
 refine ⟨List.zipWith (fun y k=>(y.1,k,y.2)) tsq (kidsL l),?_,by rw [List.length_zipWith,hlen,Nat.min_self],?_,fun x hx=>?_⟩
 ·unfold rowC
  congr 1
  refine List.ext_getElem (by simp [hlen]) fun i h1 h2=>?_
  simp
 ·refine List.ext_getElem (by simp [hlen,htl]) fun i h1 h2=>?_
  have hi1:i<tsq.length:=by simp [hlen] at h1;omega
  have hi2:i<(tks l xs).length:=by simpa using h2
  obtain ⟨e,_⟩:=h i hi1 (by simpa using hi2) (by omega)
  have e2:(kidsL l)[i]'(by omega)=((tks l xs)[i]'hi2).1:=by
   simp only [← hk,List.getElem_map]
  simp only [List.getElem_map,List.getElem_zipWith,e,e2]
 ·obtain ⟨i,hi,rfl⟩:=List.mem_iff_getElem.1 hx
  have hi1:i<tsq.length:=by simp [hlen] at hi;omega
  obtain ⟨_,e⟩:=h i hi1 (by simp [htl];omega) (by omega)
  rw [List.getElem_zipWith]
  exact e
theorem Rk.store {lo:Nat} {W0 w:World} {b:Nat} {ks:List (List V)} {vs:List V} (h:Rk lo W0 b ks vs w) {ag ao:Nat} (x:Value) (h1:lo≤ag) (h2:ag<b):Rk lo (w.setCell ⟨ag,ao,none⟩ x) b ks vs (w.setCell ⟨ag,ao,none⟩ x):=by
 obtain ⟨kids,cs,⟨⟨rest,a1,a2⟩,_⟩,a3,a4⟩:=h.rd
 have hst:∀ {v l},VsAt (·<min lo b) w v l→VsAt (·<min lo b) (w.setCell ⟨ag,ao,none⟩ x) v l:=fun q=>q.stay (by simp) fun j hj _=>heap_ne (by omega)
 exact ⟨⟨kids,cs,⟨⟨rest,(heap_ne (by omega)).trans a1,hst a2⟩,KeepX.of (Below.refl _ _)⟩,own_stay a3 fun g _ hB _=>heap_ne (by omega),fun i hi=>(a4 i hi).imp fun v q=>⟨q.1,hst q.2⟩⟩,.refl _ _⟩
theorem rowC_at (init:List T3) (x:T3):(rowC (init++[x]))[init.length * 2]? = some x.1∧(rowC (init++[x]))[init.length * 2+1]? = some (.pointer (some x.2.2)):=by
 have hl:=rowC_len init
 rw [rowC_append]
 constructor
 ·rw [List.getElem?_append_right (by omega),hl,Nat.sub_self]
  rfl
 ·rw [List.getElem?_append_right (by omega),hl,show init.length * 2+1 - init.length * 2=1 by omega]
  rfl
theorem rowC_take (init:List T3) (x:T3):(rowC (init++[x])).take (init.length * 2)=rowC init:=by
 rw [rowC_append,← rowC_len init,List.take_left]
theorem step_append_nil {ops:Array Oper} {o:Oper} {a:Act} {K:Act→World→Prop} {Q:Exit→Act→World→Prop} {E:Prop} {w:World} (hgd:o.guard=none) (s x:Operand) (ho:o.op=.call { callee:=.builtin .append,args:=#[s,x],argTypes:=#[56,56] })
  {g n cap:Nat} (hs:a.eval s=.slice (some ⟨g,0,none⟩) n cap) (hx:a.eval x=.slice none 0 0) (hn:n≤cap) (h:K (a.put o.dst (.slice (some ⟨g,0,none⟩) n cap)) w):if Region.wanted o (yielded ops a.tmps)=true then Oper.wp Tryz.prog o a w K Q else E:=by
 have hw:Region.wanted o (yielded ops a.tmps)=true:=by simp [Region.wanted,hgd]
 rw [if_pos hw]
 unfold Oper.wp execOp
 simp only [ho,resolve,invoke,builtin,Sem.run_bind,Sem.run_pure,Result.andThen_ok,List.map_toArray,List.map_cons,List.map_nil,hs,hx,run_append_nil w o.type g n cap hn]
 exact h
theorem rowC_one (n3:List T3):∀ u∈rowC n3,(∀ x∈n3,x.1.oneCell'=true)→u.oneCell'=true:=fun u hu h=>by
 unfold rowC tsC at hu
 obtain ⟨y,hy,hu⟩:=List.mem_flatMap.1 hu
 obtain ⟨x,hx,rfl⟩:=List.mem_map.1 hy
 simp only [List.mem_cons,List.not_mem_nil,or_false] at hu
 rcases hu with rfl | rfl
 ·exact h x hx
 ·rfl
theorem VsAt_one {O:Nat} {w3 w5:World} {n3:List T3} (h:∃ wq,Below w3.heap.size w3 wq∧wq.heap.size≤w5.heap.size∧∀ x∈n3,VsAt (·<O) wq x.1 x.2.1):∀ x∈n3,x.1.oneCell'=true:=fun x hx=>by
 obtain ⟨wq,_,_,h⟩:=h
 obtain ⟨a,c,e,_⟩:=(h x hx).slice
 rw [e]
 rfl
theorem grown_self (w:World) (r:Option Nat):w.grownBy w r:=⟨rfl,rfl,rfl,Nat.le_refl _,fun _ _ _=>rfl⟩
theorem parse_any {W:World} {v:Value} {P:Nat→Prop} {vs:List V} (hv:VsAt P W v vs) (hsg:Signs W) (hf:Fit vs) (hcn:cntL vs≤500000):Calls Tryz.prog 9 #[v] W (PzPost W (parseZ vs)):=by
 obtain ⟨a,cap,rfl,hc1,hc2⟩:=hv.slice
 obtain ⟨i0,z0,hi0,hz0,hz1,hz2,hz3⟩:=info71
 obtain ⟨W1,hW1⟩:∃ W1,W1=(W.alloc (.cells #[.slice none 0 0] 23)).alloc (.cells #[.slice a vs.length cap,.pointer (some ⟨W.heap.size,0,none⟩)] 55):=⟨_,rfl⟩
 have hB1:Below W.heap.size W W1:=by rw [hW1];exact ((Below.refl _ _).alloc (Nat.le_refl _) _).alloc (by simp) _
 have x0:W1.heap[W.heap.size]? = some (.cells #[.slice none 0 0] 23 (0,0)):=by
  rw [hW1,Below.heap_alloc _ _ _ (by simp)]
  exact heap_alloc_last W _
 have x1:W1.heap[W.heap.size+1]? = some (.cells #[.slice a vs.length cap,.pointer (some ⟨W.heap.size,0,none⟩)] 55 (0,0)):=by
  have e:W.heap.size+1=(W.alloc (.cells #[.slice none 0 0] 23)).heap.size:=by simp
  rw [hW1,e]
  exact heap_alloc_last _ _
 have hS1:W1.heap.size=W.heap.size+2:=by rw [hW1];simp
 have HGO:Hid (PaGo W (parseZ vs) [(.slice a vs.length cap,vs,⟨W.heap.size,0,none⟩)] (fun b=>b=W.heap.size) (.slice (some ⟨W.heap.size+1,0,none⟩) 1 1) W1):=by
  refine ⟨⟨rfl,.inr ⟨_,1,_,rfl,Nat.le_refl _,x1,Nat.le_refl _,by decide,rfl,rfl⟩⟩,fun x hx=>?_,hB1,List.pairwise_singleton _ _,fun x hx=>?_,fun b hb=>?_,⟨rfl,_,x0,rfl,_,_,_,rfl⟩,fun hR=>⟨_,List.mem_singleton.2 rfl,hR⟩,fun R hR=>⟨fun x hx=>?_,fun W' _ _ hts=>?_⟩,?_⟩
  ·rw [List.mem_singleton.1 hx]
   exact ⟨(hv.wider fun g _ hl=>hl).keep hB1,hf⟩
  ·rw [List.mem_singleton.1 hx]
   exact ⟨rfl,⟨_,_,rfl⟩,_,23,x0,Nat.one_pos,.inl rfl⟩
  ·subst hb
   refine ⟨Nat.le_refl _,by omega,?_,fun c fr e=>?_⟩
   ·intro e
    have:W.heap.size+1=W.heap.size:=Option.some.inj e
    omega
   ·have:=ty_ne x0 e
    cases this
  ·rw [List.mem_singleton.1 hx]
   exact ⟨R,hR⟩
  ·obtain ⟨L,u,h1,h2,h3⟩:=hts _ (List.mem_singleton.2 rfl)
   simp only [] at h1 h2
   rw [hR] at h1
   cases h1
   exact ⟨u,h2,h3⟩
  ·simp [wgt]
   omega
 have HSG:Hid (∀ w,Below W.heap.size W w→Signs w):=fun w h=>hsg.keep h
 have hsb:sgB<W.heap.size:=hsg.lt (j:=0) rfl
 have HW1:=hid_mk hW1
 have HCN:=hid_mk hcn
 generalize parseZ vs=R0 at *
 clear hv hf hsg hB1 x0 x1 hS1 hW1 hcn
 go_enter Tryz.func9,Tryz.ntmps9
 go_wp2_with (fail)
 rw [← HW1.out]
 clear HW1
 go_loopg [5] 600000 (fun k a5 wq=>∃ (g n cp:Nat) (ts:List T3) (S:Nat→Prop),a5=.slice (some ⟨g,0,none⟩) n cp∧Hid (n=ts.length)∧Hid (wgt ts<k)∧Hid (PaGo W R0 ts S (.slice (some ⟨g,0,none⟩) n cp) wq))
 case atStart=>exact ⟨_,_,_,[(.slice a vs.length cap,vs,⟨W.heap.size,0,none⟩)],_,rfl,hid_mk rfl,hid_mk (by have:=HGO.out.cnt;omega),HGO⟩
 case round =>
  clear HGO
  obtain ⟨g,n,cp,ts,S,rfl,HN,HWG,HGO⟩:=hrel
  rcases List.eq_nil_or_concat ts with hts | ⟨init,x,hts⟩
  ·subst hts
   have hn0:n=0:=HN.out
   subst hn0
   obtain ⟨hSO,c,hc,_,ua,un,uc,hc0⟩:=HGO.out.out
   have k0:wr.cell? ⟨W.heap.size,0,none⟩=some (.slice ua un uc):=(cellAt hc 0).trans hc0
   have HZ:Hid (PzPost W R0 (.returned (.tuple #[.slice ua un uc,.bool true])) wr):=by
    cases hR:R0 with
    | none =>
      obtain ⟨x,hx,_⟩:=HGO.out.bad hR
      cases hx
    | some R =>
      obtain ⟨_,h2⟩:=HGO.out.good R hR
      obtain ⟨u,h3,h4⟩:=h2 wr (Nat.le_refl _) (fun _ _ _ _=>rfl) (fun x hx=>by cases hx)
      rw [k0] at h3
      cases h3
      exact ⟨_,rfl,h4,HGO.out.low⟩
   clear hc hc0 HGO HN HWG HSG
   go_wp2
   go_ret2
   exact HZ.out
  ·rw [List.concat_eq_append] at hts
   subst hts
   obtain ⟨xv,xvs,xA⟩:=x
   obtain ⟨m,hm⟩:∃ m,m=init.length:=⟨_,rfl⟩
   have hn1:n=m+1:=by rw [HN.out,hm];simp
   subst hn1
   have hx:((xv,xvs,xA):T3)∈init++[(xv,xvs,xA)]:=by simp
   obtain ⟨hvx,hfx⟩:=HGO.out.vals _ hx
   obtain ⟨hSA,⟨ag,ao,hA⟩,cur,T,hag,hao,hT⟩:=HGO.out.at' _ hx
   simp only [] at hvx hfx hSA hA hag hao
   subst hA
   simp only [] at hSA hag hao
   obtain ⟨sa,sc,rfl,hs1,hs2⟩:=hvx.slice
   obtain ⟨hO1,hO2,hO3,hO4⟩:=HGO.out.inS ag hSA
   obtain ⟨r1,r2⟩:=rowC_at init (.slice sa xvs.length sc,xvs,⟨ag,ao,none⟩)
   have hrow:wr.ownsRow (W.heap.size+1) 55 2 (.slice (some ⟨g,0,none⟩) (m+1) cp) (m+1) (rowC (init++[(.slice sa xvs.length sc,xvs,⟨ag,ao,none⟩)])):=by
    have h1:=HGO.out.row
    rw [← HN.out] at h1
    exact h1
   have c1:=own_news hrow _ _ r1
   have c2:=own_news hrow _ _ r2
   rw [Addr.add_mid,Nat.zero_add,← hm] at c1 c2
   have hmc:m+1≤cp∧cp≤9223372036854775807:=by
    rcases hrow.2 with ⟨e,_⟩ | ⟨g',cap',cur',e,h1,h2,h3,h4,_⟩
    ·cases e
    ·cases e
     exact ⟨h3,h4⟩
   have hml:m≤600000:=by
    have h1:=HGO.out.cnt
    have h2:=wgt_len (init++[((.slice sa xvs.length sc,xvs,⟨ag,ao,none⟩):T3)])
    rw [List.length_append] at h2
    omega
   obtain ⟨w1,hw1⟩:∃ w1,w1=(wr.alloc (.cells #[.slice sa xvs.length sc,.pointer (some ⟨ag,ao,none⟩)] 55)).alloc (.cells #[.slice sa xvs.length sc,.slice none 0 0] 59):=⟨_,rfl⟩
   have hB1:Below wr.heap.size wr w1:=by rw [hw1];exact ((Below.refl _ _).alloc (Nat.le_refl _) _).alloc (by simp) _
   have hsz1:w1.heap.size=wr.heap.size+2:=by rw [hw1];simp
   have y0:w1.heap[wr.heap.size]? = some (.cells #[.slice sa xvs.length sc,.pointer (some ⟨ag,ao,none⟩)] 55 (0,0)):=by
    rw [hw1,Below.heap_alloc _ _ _ (by simp)]
    exact heap_alloc_last wr _
   have y1:w1.heap[wr.heap.size+1]? = some (.cells #[.slice sa xvs.length sc,.slice none 0 0] 59 (0,0)):=by
    have e:wr.heap.size+1=(wr.alloc (.cells #[.slice sa xvs.length sc,.pointer (some ⟨ag,ao,none⟩)] 55)).heap.size:=by simp
    rw [hw1,e]
    exact heap_alloc_last _ _
   have hWw:Below W.heap.size W w1:=HGO.out.low.trans (hB1.mono HGO.out.low.size)
   have hRk:Rk W.heap.size w1 (wr.heap.size+1) [] xvs w1 :=
    ⟨⟨.slice none 0 0,[],⟨⟨_,y1,(hvx.keep hB1).wider fun g hg _=>by omega⟩,KeepX.of (Below.refl _ _)⟩,⟨rfl,.inl ⟨rfl,rfl⟩⟩,fun i hi=>absurd hi (by simp)⟩,.refl _ _⟩
   have hli:=list_any hRk (HSG.out w1 hWw) (by have:=HGO.out.low.size;omega) hfx (by have:=hfx.len;simp;omega)
   have HM:=hid_mk hm
   have HW1:=hid_mk hw1
   have HB1:=hid_mk hB1
   have HS1:=hid_mk hsz1
   have HY0:=hid_mk y0
   have HAG:=hid_mk hag
   have HFX:=hid_mk hfx
   have hgl:=hrow.lt g rfl
   have hgt:∃ c,wr.heap[g]? = some (.cells c 55 (0,0)):=(own_at hrow rfl).2
   have hown0:wr.ownsRow (W.heap.size+1) 55 2 (.slice (some ⟨g,0,none⟩) m cp) m (rowC init):=by
    have h1:=own_take (m:=m) hrow (by omega)
    rw [hm,rowC_take] at h1
    rw [← hm] at h1
    exact h1
   have HOWN0:=hid_mk hown0
   have HGT:=hid_mk hgt
   have HWW:=hid_mk hWw
   obtain ⟨lr,hlr⟩:∃ lr,lr=lsZ xvs:=⟨_,rfl⟩
   have hpz:=parseZ_step xvs
   rw [← hlr] at hli hpz
   have HPZ:=hid_mk hpz
   have HLR:=hid_mk hlr
   have hwrap:IntKind.i64.wrap (((m+1:Nat):Int) - 1)=(m:Int):=by rw [IntKind.wrap_i64] <;> omega
   have hpos:(0:Int)<((m+1:Nat):Int):=by omega
   have hlt1:(m:Int)<((m+1:Nat):Int):=by omega
   have hle1:(m:Int)≤(cp:Int):=by omega
   have hag1:ag≠g:=fun e=>hO3 (by rw [e];rfl)
   clear hm hw1 hB1 y0 y1 hvx hfx hag hRk hWw r1 r2 hx hlr hpz hrow hown0 hgt
   have x2':∀ w2:World,KeepT (wr.heap.size+1) w1 w2→w2.heap[wr.heap.size]? = some (.cells #[.slice sa xvs.length sc,.pointer (some ⟨ag,ao,none⟩)] 55 (0,0))∧w2.heap[ag]? = some (.cells cur T (0,0))∧w2.heap[g]? = wr.heap[g]?:=fun w2 hK=>by
    have h1:=HS1.out
    have hne31:T≠43:=by rcases hT with e | e <;> rw [e] <;> decide
    refine ⟨(hK.typ _ (by omega) (by omega) (.inr fun c fr e=>?_)).trans HY0.out,?_,?_⟩
    ·have:=ty_ne HY0.out e
     cases this
    ·have e1:=HB1.out.block ag hO2
     rw [hK.typ _ (by omega) (by omega) (.inr fun c fr e=>?_),e1,HAG.out]
     rw [e1] at e
     exact hne31 (ty_ne HAG.out e)
    ·obtain ⟨c,hc⟩:=HGT.out
     have e1:=HB1.out.block g hgl.2
     rw [hK.typ _ (by omega) (by omega) (.inr fun c fr e=>?_),e1]
     rw [e1] at e
     have:=ty_ne hc e
     cases this
   have HX2:=hid_mk x2'
   clear x2'
   cases lr with
   | none =>
     have HR:Hid (R0=none):=by
      cases hR:R0 with
      | none=>exact rfl
      | some R =>
        obtain ⟨L,hL⟩:=(HGO.out.good R hR).1 _ (by simp:((.slice sa xvs.length sc,xvs,⟨ag,ao,none⟩):T3)∈_)
        simp only [] at hL
        rw [HPZ.out] at hL
        cases hL
     clear HPZ HGO HX2 HOWN0 HGT HN HWG HLR
     go_wp2_with (go_at_call 20;fail)
     rw [← HW1.out]
     refine hli.mono ?_
     rintro e w2 ⟨rfl,hkp⟩
     have HBZ:Hid (Below W.heap.size W w2):=HWW.out.trans ((hkp.low (by have:=HS1.out;omega)).mono (by omega))
     clear hli hkp HW1
     go_wp2
     go_ret2
     rw [HR.out]
     exact ⟨rfl,HBZ.out⟩
   | some l =>
   go_wp2_with (go_at_call 20;fail)
   rw [← HW1.out]
   refine hli.mono ?_
   rintro e w2 ⟨v,xs,rfl,hlv,hrk⟩
   obtain ⟨va,vn,vc,rfl⟩:=own_sl hlv.row
   rw [List.nil_append] at hrk
   obtain ⟨z0',z1',z2'⟩:=HX2.out w2 hrk.keep
   obtain ⟨d0,d1,_,_⟩:=cells2 z0'
   have ca:w2.cell? ⟨ag,ao,none⟩=some (cur[ao]'hao):=by rw [cellAt z1' ao];simp [hao]
   have fa:w2.frozen? ⟨ag,ao,none⟩=false:=by simp [World.frozen?,z1']
   obtain ⟨w3,hw3⟩:∃ w3,w3=w2.setCell ⟨ag,ao,none⟩ (.slice va vn vc):=⟨_,rfl⟩
   have hrk3:Rk W.heap.size w3 (wr.heap.size+1) (kidsL l) [] w3:=by rw [hw3];exact hrk.store _ hO1 (by omega)
   have hlv3:LvAt w1.heap.size w3 (.slice va vn vc) l xs:=by rw [hw3];exact hlv.stayT fun T' g' c _ hg' hB=>heap_ne (by have:=HS1.out;omega)
   have hkl:(kidsL l).length≤100000:=by
    have h1:=(lsZ_sub _ xvs (Nat.le_refl _) l HLR.out.symm).length_le
    have h2:=HFX.out.len
    simp at h1
    omega
   have hlens:=hlv.lens
   have hown3:w3.ownsRow (W.heap.size+1) 55 2 (.slice (some ⟨g,0,none⟩) m cp) m (rowC init):=by
    refine own_stay HOWN0.out fun g' _ _ e=>?_
    cases e
    rw [hw3,heap_ne (fun e=>hag1 e.symm),z2']
   have HTK:Hid (∀ w',Below w3.heap.size w3 w'→Calls Tryz.prog 21 #[.pointer (some ⟨wr.heap.size+1,0,none⟩),.slice va vn vc] w' fun e w''=>∃ (u:Value) (n3:List T3),e=.returned u∧(kidsL l=[]→u=.slice none 0 0)∧w''.ownsRow w3.heap.size 55 2 u n3.length (rowC n3)∧n3.length=(kidsL l).length∧n3.map Prod.snd=(tks l xs).map (fun y=>(y.1,y.2.add 6))∧(∃ wq,Below w3.heap.size w3 wq∧wq.heap.size≤w''.heap.size∧∀ x∈n3,VsAt (·<W.heap.size) wq x.1 x.2.1)∧Below w3.heap.size w3 w''):=fun w' hB=>by
    have hlv':=hlv3.keep hB
    have hA:((tks l xs).map Prod.snd).length=(kidsL l).length:=by rw [List.length_map,← tks_kids l xs hlens,List.length_map]
    have hw:=within_77 (f:=lstB) (fun w k=>listed_any w k) hlv'.see (by rw [see_sel,hA];omega)
    rw [see_sel] at hw
    refine (tasks_any (hrk3.then hB) hw hA (by omega)).mono ?_
    rintro e w'' ⟨u,tsq,rfl,hnil,htr,htl,hti,hBu⟩
    obtain ⟨n3,a1,a2,a3,a4⟩:=three hlens htl hti
    refine ⟨u,n3,rfl,hnil,?_,by rw [a2,htl],a3,⟨w',hB,hBu.size,fun x hx=>(a4 x hx).wider fun g hg _=>by omega⟩,hB.trans (hBu.mono hB.size)⟩
    rw [a1,a2]
    exact own_from htr hB.size
   have HNX:Hid (∀ (w5 w6:World) (v6:Value) (n3:List T3),Below w3.heap.size w3 w5→(∃ wq,Below w3.heap.size w3 wq∧wq.heap.size≤w5.heap.size∧∀ x∈n3,VsAt (·<W.heap.size) wq x.1 x.2.1)→w5.grownBy w6 (some g)→(v6.ownBlock=some g∨∃ k,v6.ownBlock=some k∧w5.heap.size≤k)→w6.ownsRow (W.heap.size+1) 55 2 v6 (m+n3.length) (rowC init++rowC n3)→n3.map Prod.snd=(tks l xs).map (fun y=>(y.1,y.2.add 6))→∃ ts S,m+n3.length=ts.length∧wgt ts<wgt (init++[((.slice sa xvs.length sc,xvs,⟨ag,ao,none⟩):T3)])∧PaGo W R0 ts S v6 w6):=fun w5 w6 v6 n3 h1 ⟨wq,h2,h3,h4⟩ h5 h6 h7 h8=>by
    obtain ⟨p1,p2⟩:=PaGo.next HGO.out HM.out.symm HB1.out HS1.out hrk.keep hlv ⟨_,_,_,rfl⟩ HLR.out.symm hw3 h1 h2 h3 h5 h6 h7 h8 h4
    exact ⟨_,_,by rw [List.length_append,HM.out],p2,p1⟩
   have HOW:Hid (∀ w',Below w3.heap.size w3 w'→w'.ownsRow (W.heap.size+1) 55 2 (.slice (some ⟨g,0,none⟩) m cp) m (rowC init)):=fun w' hB=>own_stayT hown3 fun g c hc _=>hB.block g (Array.getElem?_eq_some_iff.1 hc).1
   have HW3:=hid_mk hw3
   have gd:Below w3.heap.size w3 w3.drew:=(Below.refl _ _).drew
   have gr:Below w3.heap.size w3 w3:=Below.refl _ _
   have hszW:W.heap.size+1≤w3.heap.size:=by
    have h1:=HS1.out
    have h2:=hrk.keep.size
    rw [hw3]
    simp
    omega
   clear hli hlv hrk z0' z1' z2' hw3 hrk3 hlv3 hlens hown3 HX2 HOWN0 HGT HPZ HGO HLR HFX HY0 HAG HB1 HS1 HWW HSG HW1
   go_upto_region 11 with (fail)
   rw [← HW3.out]
   clear HW3 ca fa d0 d1 c1 c2
   by_cases hk:kidsL l=[]
   ·go_region_law (first
     | (go_simp;go_at_call 21;refine (HTK.out _ ?_).mono ?_;assumption;rintro e w5 ⟨u5,n3,rfl,hnil,ho5,hl5,hs5,hq5,gg5⟩;have hu5:=hnil hk;subst hu5)
     | (refine step_append_nil (by rfl) _ _ (by rfl) (by rfl) (by rfl) (by omega) ?_))
    all_goals
     have hn30:n3=[]:=List.length_eq_zero_iff.1 (by rw [hl5,hk];rfl)
     subst hn30
     obtain ⟨ts',S',b1,b2,b3⟩:=HNX.out w5 w5 (.slice (some ⟨g,0,none⟩) m cp) [] gg5 hq5 (grown_self _ _) (.inl rfl) (by rw [show rowC []=[] from rfl,List.append_nil];exact HOW.out w5 gg5) hs5
     have HA1:=hid_mk b1
     have HA2:=hid_mk b2
     have HA3:=hid_mk b3
     clear hnil ho5 hl5 hs5 hq5 b1 b2 b3 gg5 HNX HOW HTK gd gr
     go_wp2
     go_roundg (wgt (init++[((.slice sa xvs.length sc,xvs,⟨ag,ao,none⟩):T3)]))
     case measure=>exact HWG.out
     case rel=>exact ⟨_,_,_,ts',S',rfl,HA1,HA2,HA3⟩
   ·go_region_law (first
     | (go_simp;go_at_call 21;refine (HTK.out _ ?_).mono ?_;assumption;rintro e w5 ⟨u5,n3,rfl,hnil,ho5,hl5,hs5,hq5,gg5⟩;have hp5:0<n3.length:=(by rw [hl5];exact List.length_pos_iff.2 hk);obtain ⟨ad,c5,hu5⟩:=own_len ho5 hp5;subst hu5;obtain ⟨q,hq⟩:∃ q,q=n3.length:=⟨_,rfl⟩;rw [← hq] at ho5 hp5 hl5 ⊢;have hq1:q≤100000:=(by omega);have HQ:=hid_mk hq;clear hl5 hq;have hnw:=own_news ho5;have hown:=HOW.out w5 gg5;have hge:=gg5.size)
     | (refine step_append_lies _ (by rfl) _ _ _ (by rfl) (W.heap.size+1) 55 i0 z0 2 32 Tryz.underlying56 hi0 hz0 hz1 hz2 hz3 (by omega) (.slice (some ⟨g,0,none⟩) m cp) m (rowC init) (by rfl) hown
         ad q c5 (rowC n3) (by rfl) (by rw [rowC_len,HQ.out]) hnw (fun u hu=>rowC_one n3 u hu (VsAt_one hq5)) hp5 (by unfold maxLen;omega) (by omega) (by omega) w5.heap.size rfl ?_
        intro gg6 cap6 w6 hown6 hgrow6 hgat6 hglt6))
    all_goals
     have hg6:(Value.slice (some ⟨gg6,0,none⟩) (m+q) cap6).ownBlock=some g∨∃ k,(Value.slice (some ⟨gg6,0,none⟩) (m+q) cap6).ownBlock=some k∧w5.heap.size≤k:=by
      rcases hgat6 with e | e
      ·exact .inl e.symm
      ·exact .inr ⟨gg6,rfl,Nat.le_of_eq e.symm⟩
     obtain ⟨ts',S',b1,b2,b3⟩:=HNX.out w5 w6 (.slice (some ⟨gg6,0,none⟩) (m+q) cap6) n3 gg5 hq5 hgrow6 hg6 (by rw [← HQ.out];exact hown6) hs5
     rw [← HQ.out] at b1
     have HA1:=hid_mk b1
     have HA2:=hid_mk b2
     have HA3:=hid_mk b3
     clear hnil ho5 hs5 hq5 b1 b2 b3 gg5 HNX HOW HTK gd gr hnw hown hown6 hgrow6 hgat6 hglt6 hg6
     go_wp2
     go_roundg (wgt (init++[((.slice sa xvs.length sc,xvs,⟨ag,ao,none⟩):T3)]))
     case measure=>exact HWG.out
     case rel=>exact ⟨_,_,_,ts',S',rfl,HA1,HA2,HA3⟩
end Go.Proofs.YtemlnblifkdenaaGreatDoor.L
namespace Go.Proofs.YtemlnblifkdenaaGreatDoor.Y
open Go.RowKit
open Go.Proofs.YtemlnblifkdenaaGreatDoor.L (T5 V VsAt t5Cells vCells cell_of_heap)
def Part (B0:Nat) (w:World) (g i:Nat) (vs:List V):Prop :=
 B0≤g∧g<w.heap.size∧w.there g 0 (vs.length * 6)∧∃ kv:Nat→Value,∀ j (h:j<vs.length),j<i→w.rangeAt g (j * 6) (vCells (vs[j]'h).tok (kv j))∧VsAt (fun b=>B0≤b∧b≠g) w (kv j) (vs[j]'h).kids
end Go.Proofs.YtemlnblifkdenaaGreatDoor.Y
namespace Go.Proofs.YtemlnblifkdenaaGreatDoor.Y
open Go.RowKit
open Go.Proofs.YtemlnblifkdenaaGreatDoor.L (T5 V VsAt t5Cells vCells cell_of_heap)
end Go.Proofs.YtemlnblifkdenaaGreatDoor.Y
namespace Go.Proofs.YtemlnblifkdenaaGreatDoor.Y
open Go.RowKit
open Go.Proofs.YtemlnblifkdenaaGreatDoor.L (T5 V VsAt t5Cells vCells cell_of_heap)
def valsZ (ts:List T5):List V:=(someZ ts.length ts 0 0).1
theorem values_any {W:World} {v:Value} {ts:List T5} (hv:TsAt W v ts) (hn:ts.length≤100000) :
  Calls Tryz.prog 10 #[v] W fun e w'=>∃ out,e=.returned out∧VsAt (fun b=>W.heap.size≤b) w' out (valsZ ts)∧Below W.heap.size W w':=by
 have hr:=read_any ts.length ts (Nat.le_refl _) W v hv W (Below.refl _ _) 0 0 (.func (.func 23) #[] #[]) (.inl ⟨rfl,rfl⟩) (by omega) (by omega) hn
 have HZ:Hid ((someZ ts.length ts 0 0).1=valsZ ts):=(rfl:_=_)
 generalize someZ ts.length ts 0 0=Z at *
 obtain ⟨a,cap,rfl,hl,hcap,_⟩:=hv
 obtain ⟨zk,zr⟩:=Z
 go_enter Tryz.func10,Tryz.ntmps10
 go_wp2_with (go_at_call 22;fail)
 refine hr.mono ?_
 rintro e w1 ⟨out,rest,rfl,ho,ht,hb⟩
 have HO:=hid_mk ho
 obtain ⟨oa,oc,rfl,_,_⟩:=ho.slice
 obtain ⟨ra,rc,rfl,_⟩:=ht
 clear ho hr
 go_wp2
 go_ret
 exact ⟨_,rfl,by rw [← HZ.out];exact HO.out,hb⟩
theorem rvalues_any {W:World} {v:Value} {ts:List T5} (hv:TsAt W v ts) (hn:ts.length≤100000) :
  Calls Tryz.prog 14 #[v] W fun e w'=>∃ out,e=.returned out∧VsAt (fun b=>W.heap.size≤b) w' out (valsZ ts)∧Below W.heap.size W w':=by
 have hr:=some_any ts.length ts (Nat.le_refl _) W v hv W (Below.refl _ _) 0 0 (by omega) (by omega)
 have HZ:Hid ((someZ ts.length ts 0 0).1=valsZ ts):=(rfl:_=_)
 generalize someZ ts.length ts 0 0=Z at *
 obtain ⟨a,cap,rfl,hl,hcap,_⟩:=hv
 obtain ⟨zk,zr⟩:=Z
 go_enter Tryz.func14,Tryz.ntmps14
 go_wp2_with (go_at_call 39;fail)
 refine hr.mono ?_
 rintro e w1 ⟨out,rest,rfl,ho,ht,hb⟩
 have HO:=hid_mk ho
 obtain ⟨oa,oc,rfl,_,_⟩:=ho.slice
 obtain ⟨ra,rc,rfl,_⟩:=ht
 clear ho hr
 go_wp2
 go_ret
 exact ⟨_,rfl,by rw [← HZ.out];exact HO.out,hb⟩
end Go.Proofs.YtemlnblifkdenaaGreatDoor.Y
namespace Go.Proofs.YtemlnblifkdenaaGreatDoor.L
open Go.RowKit
theorem charsFrom_len (s:ByteArray):∀ (f pos:Nat),(charsFrom s f pos).length≤f
 | 0,_=>by simp [charsFrom]
 | f+1,pos=>by
   rw [charsFrom]
   split
   ·have:=charsFrom_len s f (pos+(Utf8.decode s pos).2)
    simp only [List.length_cons]
    omega
   ·simp
theorem norm_len:∀ (l:List Int) (last:Int),(normZ last l).length≤l.length
 | [],last=>by simp [normZ]
 | c::r,last=>by
   have h1:=norm_len r c
   rw [normZ]
   split
   ·simp only [List.length_cons];omega
   ·simp only [List.length_cons];omega
theorem runes_len (s:ByteArray):(runesZ s).length≤s.size:=Nat.le_trans (norm_len _ _) (charsFrom_len s _ _)
theorem runes_fine (s:ByteArray) (hs:s.size≤1000000000):Fine (runesZ s):=⟨Nat.le_trans (runes_len s) hs,fun c hc=>(runes_told s c hc).1⟩
def toT5 (t:Tok):T5:=⟨t.kind,strT t.text,strT t.unit,t.whole,t.flag⟩
def valsS (s:ByteArray):List V:=Y.valsZ ((toks (runesZ s)).map toT5)
theorem toks_at:∀ {ts:List Tok} {i:Nat} (h:i<ts.length) (j:Nat) (y:Value),(t5Cells (toT5 (ts[i]'h)))[j]? = some y→(ts.flatMap tokCells)[i * 5+j]? = some y
 | t::r,0,_,j,y,hy=>by
   have hy:(tokCells t)[j]? = some y:=hy
   rw [List.flatMap_cons,Nat.zero_mul,Nat.zero_add,List.getElem?_append_left (List.getElem?_eq_some_iff.1 hy).1]
   exact hy
 | t::r,i+1,h,j,y,hy=>by
   have hl:(tokCells t).length=5:=rfl
   rw [List.flatMap_cons,List.getElem?_append_right (by omega),hl,show (i+1) * 5+j - 5=i * 5+j by omega]
   exact toks_at (ts:=r) (i:=i) (by simpa using h) j y hy
theorem outs_ts {B:Nat} {w:World} {out:Value} {ts:List Tok} (h:Outs B w out ts):Y.TsAt w out (ts.map toT5):=by
 have hl:(ts.map toT5).length=ts.length:=List.length_map ..
 rcases h.2 with ⟨rfl,e⟩ | ⟨g,cap,cur,rfl,h1,h2,h3,h4,h5,h6⟩
 ·exact ⟨none,0,by rw [hl,e],by rw [hl,e];exact Nat.le_refl _,by decide,fun h0=>by rw [hl,e] at h0;omega⟩
 ·refine ⟨_,cap,by rw [hl],by rw [hl];exact h3,h4,fun _=>⟨g,0,rfl,(Array.getElem?_eq_some_iff.1 h2).1,fun i hi j y hy=>?_⟩⟩
  have hi':i<ts.length:=by rw [← hl];exact hi
  rw [List.getElem_map] at hy
  have h7:=own_news h (i * 5+j) y (toks_at hi' j y hy)
  rw [Addr.add_mid] at h7
  rw [Nat.add_assoc]
  exact h7
def TxPost (W:World) (R:Option (List Cx)) (e:Ending) (w':World):Prop:=match R with
 | none=>e=.returned (.tuple #[.slice none 0 0,.int .i64 4])∧Below W.heap.size W w'
 | some l=>∃ u,e=.returned (.tuple #[u,.int .i64 0])∧ClAt w' u l∧Below W.heap.size W w'
theorem text_any (s:ByteArray) (W:World) (hsg:Signs W) (hs:s.size≤65536) (hn:(toks (runesZ s)).length≤100000) (hf:Fit (valsS s)) (hc:cntL (valsS s)≤500000) :
  Calls Tryz.prog 5 #[.string s] W (TxPost W (parseZ (valsS s))):=by
 obtain ⟨g,cap,W1,hcv,hcap,hg,hcell,_,hB⟩:=bytesOf s W
 have hba:BytesAt W1 (.slice (some ⟨g,0,none⟩) s.size cap) s:=⟨_,_,rfl,hcap,fun _=>⟨g,0,rfl,fun j hj=>by simpa using hcell j hj⟩⟩
 have hru:=runes_any _ s W1 (by omega) hba
 have HFI:=hid_mk (runes_fine s (by omega))
 have HSG:Hid (∀ w,Below W.heap.size W w→Signs w):=fun w h=>hsg.keep h
 have HF:=hid_mk hf
 have HC:=hid_mk hc
 have HNN:=hid_mk hn
 have hd:decide ((65536:Int)<(s.size:Int))=false:=decide_eq_false (by omega)
 have hd2:¬ ((65536:Int)<(s.size:Int)):=by omega
 have HVS:Hid (valsS s=Y.valsZ ((toks (runesZ s)).map toT5)):=rfl
 generalize valsS s=vs at *
 have HB:=hid_mk hB
 clear hcell hba hf hc hsg hB hn
 go_enter Tryz.func5,Tryz.ntmps5
 go_wp2_with (go_at_call 12;fail)
 refine hru.mono ?_
 rintro e w2 ⟨u,rfl,hown,hb2⟩
 have hrow:=RowAt.own hown
 obtain ⟨a,c2,hu⟩:∃ a c2,u=.slice a (runesZ s).length c2:=by
  rcases hown.2 with ⟨hv,hz⟩ | ⟨g2,c2,cur,hv,_⟩
  ·exact ⟨none,0,by rw [hv,hz]⟩
  ·exact ⟨_,c2,hv⟩
 have hlow:∀ ad,a=some ad→ad.block<w2.heap.size:=by
  intro ad e
  rcases hown.2 with ⟨hv,_⟩ | ⟨g2,c3,cur,hv,_,hg2,_⟩
  ·rw [hv,e] at hu;cases hu
  ·rw [hv,e] at hu
   cases hu
   exact (Array.getElem?_eq_some_iff.1 hg2).1
 subst hu
 have ht:=tokens_any a c2 (runesZ s) w2 HFI.out hrow hlow
 have HB2:Hid (Below W.heap.size W w2):=HB.out.trans (hb2.mono HB.out.size)
 generalize runesZ s=xs at *
 clear hru hown hrow hlow hb2 HB
 go_wp2_with (go_at_call 11;fail)
 refine ht.mono ?_
 rintro e w3 ⟨out,rfl,ho,hb3⟩
 have hvl:=Y.values_any (outs_ts ho) (by rw [List.length_map];exact HNN.out)
 rw [← HVS.out] at hvl
 have HB3:Hid (Below W.heap.size W w3):=HB2.out.trans (hb3.mono HB2.out.size)
 obtain ⟨oa,on,oc,rfl⟩:=own_sl ho
 clear ht ho hb3
 go_wp2_with (go_at_call 10;fail)
 refine hvl.mono ?_
 rintro e w4 ⟨vo,rfl,hvo,hb4⟩
 have hB4:Below W.heap.size W w4:=HB3.out.trans (hb4.mono HB3.out.size)
 have hpa:=parse_any hvo (HSG.out w4 hB4) HF.out HC.out
 obtain ⟨va,vc,rfl,_,_⟩:=hvo.slice
 have HB4:=hid_mk hB4
 generalize parseZ vs=R at *
 clear hvl hvo hb4 hB4
 go_wp2_with (go_at_call 9;fail)
 refine hpa.mono ?_
 rintro e w5 hq
 cases R with
 | none =>
   obtain ⟨rfl,hb5⟩:=hq
   have HB5:Hid (Below W.heap.size W w5):=HB4.out.trans (hb5.mono HB4.out.size)
   clear hpa hb5
   go_wp2
   go_ret2
   exact ⟨rfl,HB5.out⟩
 | some l =>
   obtain ⟨u,rfl,hcl,hb5⟩:=hq
   have HB5:Hid (Below W.heap.size W w5):=HB4.out.trans (hb5.mono HB4.out.size)
   have HCL:=hid_mk hcl
   have hsl:∃ ua un uc,u=.slice ua un uc:=by
    obtain ⟨_,_,⟨a,c,e,_⟩,_⟩:=hcl.at
    exact ⟨_,_,_,e⟩
   obtain ⟨ua,un,uc,rfl⟩:=hsl
   clear hpa hb5 hcl
   go_wp2
   go_ret2
   exact ⟨_,rfl,HCL.out,HB5.out⟩
end Go.Proofs.YtemlnblifkdenaaGreatDoor.L
namespace Go.Proofs.YtemlnblifkdenaaGreatDoor.Y
open Go.RowKit
def prevZ (cs:List Int) (k:Nat):Int:=if k=0 then 0 else cs.getD (k - 1) 0
theorem drop_cons {cs:List Int} {k:Nat} (h:k<cs.length):cs.drop k=cs.getD k 0::cs.drop (k+1):=by
 rw [List.drop_eq_getElem_cons h]
 simp [List.getD,h]
theorem prev_succ (cs:List Int) (k:Nat):prevZ cs (k+1)=cs.getD k 0:=by simp [prevZ]
theorem chars_le (s:ByteArray):(chars s).length≤s.size:=by
 have:∀ f pos,(charsFrom s f pos).length≤f:=by
  intro f
  induction f with
  | zero=>intro pos;simp [charsFrom]
  | succ f ih =>
    intro pos
    unfold charsFrom
    split
    ·have:=ih (pos+(Utf8.decode s pos).2)
     simp only [List.length_cons]
     omega
    ·simp
 exact this _ _
theorem ownsRow_base {w:World} {B B':Nat} {e:TypeId} {v:Value} {n:Nat} {xs:List Value} (h:w.ownsRow B e 1 v n xs) (hb:B'≤B):w.ownsRow B' e 1 v n xs:=by
 refine ⟨h.1,?_⟩
 rcases h.2 with hn | ⟨g,cap,cur,hv,hb2,rest⟩
 ·exact .inl hn
 ·exact .inr ⟨g,cap,cur,hv,Nat.le_trans hb hb2,rest⟩
set_option maxRecDepth 1000000 in
theorem refRunes_any (v:Value) (s:ByteArray) (w:World) (hs:s.size≤1000000000) (hv:BytesAt w v s) :
  Calls Tryz.prog 16 #[v] w fun e w'=>∃ u,e=.returned u∧w'.ownsRow w.heap.size 21 1 u (runesZ s).length ((runesZ s).map (Value.int .i32))∧Below w.heap.size w w':=by
 obtain ⟨i0,hi,hz0,hz1,hz2⟩:=info_parts Tryz.info21
 have hlen:=chars_le s
 go_enter Tryz.func16,Tryz.ntmps16
 go_wp2_with (go_at_call 43;fail)
 refine (chars_any _ s _ hs hv).mono ?_
 rintro e w1 ⟨u,rfl,hown1,hb1⟩
 have hr:=RowAt.own hown1
 clear hown1
 obtain ⟨cs,hcs⟩:∃ cs,chars s=cs:=⟨_,rfl⟩
 rw [hcs] at hr hlen
 have HC:Hid (runesZ s=normZ 0 cs):=by rw [← hcs];rfl
 clear hcs
 obtain ⟨a,cap,rfl,hcap,hc⟩:=hr
 go_wp2
 go_loopw [3,11] (fun out i wr=>∃ (k:Nat) (acc:List Int),k≤cs.length∧i=.int .i64 k∧wr.ownsRow w1.heap.size 21 1 out acc.length (acc.map (Value.int .i32))∧Below w1.heap.size w1 wr∧acc++normZ (prevZ cs k) (cs.drop k)=normZ 0 cs∧acc.length≤k) (fun _ i _=>cs.length - (intOf i).toNat)
 case atStart=>exact ⟨0,[],Nat.zero_le _,rfl,World.ownsRow_nil _ _ _ _,Below.refl _ _,rfl,Nat.le_refl _⟩
 case round =>
  obtain ⟨k,acc,hk,rfl,hown,hbel,hacc,hal⟩:=hrel
  by_cases hlt:k<cs.length
  ·rw [drop_cons hlt] at hacc
   obtain ⟨b,off,rfl,hcell⟩:=hc (by omega)
   obtain ⟨c,hck⟩:∃ c,cs.getD k 0=c:=⟨_,rfl⟩
   have c0:wr.cell? ⟨b,off+k,none⟩=some (.int .i32 c):=by
    have:=hcell k hlt
    rw [hck] at this
    exact (hbel.cell (World.block_lt_of_cell? w1 _ this)).trans this
   rw [hck] at hacc
   have HP:Hid (prevZ cs (k+1)=c):=by rw [← hck];exact prev_succ cs k
   have hsz:=hbel.size
   by_cases hskip:prevZ cs k=13∧c=10
   ·obtain ⟨hp13,rfl⟩:=hskip
    have hk0:0<k:=by
     rcases Nat.eq_zero_or_pos k with h | h
     ·subst h;simp [prevZ] at hp13
     ·exact h
    have c1:wr.cell? ⟨b,off+(k - 1),none⟩=some (.int .i32 13):=by
     have:=hcell (k - 1) (by omega)
     rw [show cs.getD (k - 1) 0=13 by rw [← hp13,prevZ,if_neg (by omega)]] at this
     exact (hbel.cell (World.block_lt_of_cell? w1 _ this)).trans this
    have HA:Hid (acc++normZ 10 (cs.drop (k+1))=normZ 0 cs):=by
     show _=_
     rw [← hacc,hp13]
     rfl
    clear hacc hp13 hck hcell hc
    go_wp2
    go_roundw
    case rel=>exact ⟨k+1,acc,by omega,by go_num,hown,hbel,by rw [HP.out];exact HA.out,by omega⟩
    case measure=>simp [intOf];omega
   ·have hn:normZ (prevZ cs k) (c::cs.drop (k+1))=settledZ c::normZ c (cs.drop (k+1)):=by
     simp only [normZ,if_neg hskip]
    rw [hn] at hacc
    clear hn
    by_cases h10:c=10
    ·subst h10
     have HA:Hid (acc++10::normZ 10 (cs.drop (k+1))=normZ 0 cs):=hacc
     clear hacc
     by_cases hk0:k=0
     ·have hkz:k≤0:=by omega
      clear hskip hck hcell hc hk0
      go_wp2_with (at_builtin;go_must (refine wpList_append_own _ rfl _ _ 47 rfl w1.heap.size 21 i0 (.int .i32 0) 1 4 Tryz.underlying47 hi hz0 hz1 hz2 rfl (by decide) _ _ _ rfl (hown.alloc _) ⟨wr.heap.size,0,none⟩ 1 1 [.int .i32 10] rfl rfl (cell_one_new _ _ _) (by intro u hu;simp at hu;subst hu;rfl) (by unfold maxLen;omega) (by omega) (by simp;omega) ?_);intro v' w5 hown5 hgrow5 _)
      go_roundw
      case rel=>exact ⟨k+1,acc++[10],by omega,by go_num,by simpa using hown5,(hbel.alloc hsz _).grown hgrow5 (by simp;omega) (fun k hk=>(hown.lt k hk).1),by rw [← HA.out,HP.out];simp,by simp;omega⟩
      case measure=>simp [intOf];omega
     ·obtain ⟨x,hx⟩:∃ x,cs.getD (k - 1) 0=x:=⟨_,rfl⟩
      have hx13:¬ x=13:=by
       intro h
       exact hskip ⟨by rw [prevZ,if_neg hk0,hx,h],rfl⟩
      have c1:wr.cell? ⟨b,off+(k - 1),none⟩=some (.int .i32 x):=by
       have:=hcell (k - 1) (by omega)
       rw [hx] at this
       exact (hbel.cell (World.block_lt_of_cell? w1 _ this)).trans this
      have hkp:0<k:=by omega
      clear hskip hck hcell hc hx hk0
      go_wp2_with (at_builtin;go_must (refine wpList_append_own _ rfl _ _ 47 rfl w1.heap.size 21 i0 (.int .i32 0) 1 4 Tryz.underlying47 hi hz0 hz1 hz2 rfl (by decide) _ _ _ rfl (hown.alloc _) ⟨wr.heap.size,0,none⟩ 1 1 [.int .i32 10] rfl rfl (cell_one_new _ _ _) (by intro u hu;simp at hu;subst hu;rfl) (by unfold maxLen;omega) (by omega) (by simp;omega) ?_);intro v' w5 hown5 hgrow5 _)
      go_roundw
      case rel=>exact ⟨k+1,acc++[10],by omega,by go_num,by simpa using hown5,(hbel.alloc hsz _).grown hgrow5 (by simp;omega) (fun k hk=>(hown.lt k hk).1),by rw [← HA.out,HP.out];simp,by simp;omega⟩
      case measure=>simp [intOf];omega
    ·by_cases h13:c=13
     ·subst h13
      have HA:Hid (acc++10::normZ 13 (cs.drop (k+1))=normZ 0 cs):=hacc
      clear hacc hskip hck hcell hc h10
      go_wp2_with (at_builtin;go_must (refine wpList_append_own _ rfl _ _ 47 rfl w1.heap.size 21 i0 (.int .i32 0) 1 4 Tryz.underlying47 hi hz0 hz1 hz2 rfl (by decide) _ _ _ rfl (hown.alloc _) ⟨wr.heap.size,0,none⟩ 1 1 [.int .i32 10] rfl rfl (cell_one_new _ _ _) (by intro u hu;simp at hu;subst hu;rfl) (by unfold maxLen;omega) (by omega) (by simp;omega) ?_);intro v' w5 hown5 hgrow5 _)
      go_roundw
      case rel=>exact ⟨k+1,acc++[10],by omega,by go_num,by simpa using hown5,(hbel.alloc hsz _).grown hgrow5 (by simp;omega) (fun k hk=>(hown.lt k hk).1),by rw [← HA.out,HP.out];simp,by simp;omega⟩
      case measure=>simp [intOf];omega
     ·by_cases h12:c=12
      ·subst h12
       have HA:Hid (acc++10::normZ 12 (cs.drop (k+1))=normZ 0 cs):=hacc
       clear hacc hskip hck hcell hc h10 h13
       go_wp2_with (at_builtin;go_must (refine wpList_append_own _ rfl _ _ 47 rfl w1.heap.size 21 i0 (.int .i32 0) 1 4 Tryz.underlying47 hi hz0 hz1 hz2 rfl (by decide) _ _ _ rfl (hown.alloc _) ⟨wr.heap.size,0,none⟩ 1 1 [.int .i32 10] rfl rfl (cell_one_new _ _ _) (by intro u hu;simp at hu;subst hu;rfl) (by unfold maxLen;omega) (by omega) (by simp;omega) ?_);intro v' w5 hown5 hgrow5 _)
       go_roundw
       case rel=>exact ⟨k+1,acc++[10],by omega,by go_num,by simpa using hown5,(hbel.alloc hsz _).grown hgrow5 (by simp;omega) (fun k hk=>(hown.lt k hk).1),by rw [← HA.out,HP.out];simp,by simp;omega⟩
       case measure=>simp [intOf];omega
      ·by_cases h0:c=0
       ·subst h0
        have HA:Hid (acc++65533::normZ 0 (cs.drop (k+1))=normZ 0 cs):=hacc
        clear hacc hskip hck hcell hc h10 h13 h12
        go_wp2_with (at_builtin;go_must (refine wpList_append_own _ rfl _ _ 47 rfl w1.heap.size 21 i0 (.int .i32 0) 1 4 Tryz.underlying47 hi hz0 hz1 hz2 rfl (by decide) _ _ _ rfl (hown.alloc _) ⟨wr.heap.size,0,none⟩ 1 1 [.int .i32 65533] rfl rfl (cell_one_new _ _ _) (by intro u hu;simp at hu;subst hu;rfl) (by unfold maxLen;omega) (by omega) (by simp;omega) ?_);intro v' w5 hown5 hgrow5 _)
        go_roundw
        case rel=>exact ⟨k+1,acc++[65533],by omega,by go_num,by simpa using hown5,(hbel.alloc hsz _).grown hgrow5 (by simp;omega) (fun k hk=>(hown.lt k hk).1),by rw [← HA.out,HP.out];simp,by simp;omega⟩
        case measure=>simp [intOf];omega
       ·have e:settledZ c=c:=by simp [settledZ,h13,h12,h0]
        rw [e] at hacc
        have HA:Hid (acc++c::normZ c (cs.drop (k+1))=normZ 0 cs):=hacc
        have e10:(c == 10)=false:=beq_eq_false_iff_ne.2 h10
        have e13:(c == 13)=false:=beq_eq_false_iff_ne.2 h13
        have e12:(c == 12)=false:=beq_eq_false_iff_ne.2 h12
        have e0:(c == 0)=false:=beq_eq_false_iff_ne.2 h0
        clear hacc hskip hck hcell hc e h10 h13 h12 h0
        go_wp2_with (at_builtin;go_must (refine wpList_append_own _ rfl _ _ 47 rfl w1.heap.size 21 i0 (.int .i32 0) 1 4 Tryz.underlying47 hi hz0 hz1 hz2 rfl (by decide) _ _ _ rfl (hown.alloc _) ⟨wr.heap.size,0,none⟩ 1 1 [.int .i32 c] rfl rfl (cell_one_new _ _ _) (by intro u hu;simp at hu;subst hu;rfl) (by unfold maxLen;omega) (by omega) (by simp;omega) ?_);intro v' w5 hown5 hgrow5 _)
        go_roundw
        case rel=>exact ⟨k+1,acc++[c],by omega,by go_num,by simpa using hown5,(hbel.alloc hsz _).grown hgrow5 (by simp;omega) (fun k hk=>(hown.lt k hk).1),by rw [← HA.out,HP.out];simp,by simp;omega⟩
        case measure=>simp [intOf];omega
  ·have HR:Hid (acc=runesZ s):=by
    rw [List.drop_of_length_le (by omega)] at hacc
    simp only [normZ,List.append_nil] at hacc
    show _=_
    rw [HC.out,hacc]
   clear hacc
   go_wp2
   go_ret
   have:=HR.out
   subst this
   refine ⟨_,rfl,?_,hb1.trans (hbel.mono hb1.size)⟩
   exact ownsRow_base hown hb1.size
end Go.Proofs.YtemlnblifkdenaaGreatDoor.Y
namespace Go.Proofs.YtemlnblifkdenaaGreatDoor
open Go.RowKit
theorem eq_runes (s:ByteArray):Y.runesZ s=runesZ s:=by kernel_rfl
theorem eq_hd:Y.hd=hd:=by kernel_rfl
theorem eq_standsB:Y.standsB=standsB:=by kernel_rfl
theorem eq_nameT:Y.nameT=nameT:=by kernel_rfl
theorem eq_nameR:Y.nameR=nameR:=by kernel_rfl
theorem eq_quoZ:Y.quoZ=quoZ:=by kernel_rfl
theorem eq_urlT:Y.urlT=urlT:=by kernel_rfl
theorem eq_urlR:Y.urlR=urlR:=by kernel_rfl
theorem eq_badR:Y.badR=badR:=by kernel_rfl
theorem eq_comR:Y.comR=comR:=by kernel_rfl
theorem eq_blanksR:Y.blanksR=blanksR:=by kernel_rfl
theorem eq_numR:Y.numR=numR:=by kernel_rfl
theorem eq_numW:Y.numW=numW:=by kernel_rfl
theorem eq_gone:Y.gone=gone:=by kernel_rfl
theorem eq_blankZ:Y.blankZ=blankZ:=by kernel_rfl
theorem eq_nameB:Y.nameB=nameB:=by kernel_rfl
theorem eq_numB:Y.numB=numB:=by kernel_rfl
theorem eq_hashB:Y.hashB=hashB:=by kernel_rfl
theorem eq_atB:Y.atB=atB:=by kernel_rfl
theorem eq_quoteB:Y.quoteB=quoteB:=by kernel_rfl
theorem eq_urlNm:Y.urlNm=urlNm:=by kernel_rfl
theorem eq_qbB:Y.qbB=qbB:=by kernel_rfl
theorem eq_signZ:Y.signZ=signZ:=by kernel_rfl
def cvT (t:Y.Tok):Tok:=⟨t.kind,t.text,t.unit,t.flag,t.whole⟩
def cvP (r:Y.Tok×List Int):Tok×List Int:=(cvT r.1,r.2)
def cvO (r:Option Y.Tok×List Int):Option Tok×List Int:=(r.1.map cvT,r.2)
theorem cv_some (r:Y.Tok×List Int):cvO (Y.someT r)=someT (cvP r):=rfl
theorem cv_str (l:List Int):cvP (Y.strZ l)=strZ l:=by
 unfold Y.strZ strZ
 rw [eq_quoZ,eq_hd]
 cases quoZ (hd l 0) (l.drop 1) 0 with
 | mk a r=>cases a <;> rfl
theorem cv_num (l:List Int):cvP (Y.numZ l)=numZ l:=by
 unfold Y.numZ numZ
 rw [eq_numR,eq_nameB,eq_nameR,eq_nameT,eq_numW,eq_gone,eq_hd]
 split
 ·rfl
 ·split <;> rfl
theorem cv_urlEnd (t r:List Int):cvP (Y.urlEnd t r)=urlEnd t r:=by
 unfold Y.urlEnd urlEnd
 rw [eq_blanksR,eq_hd,eq_badR]
 split
 ·rfl
 ·split <;> rfl
theorem cv_url (l:List Int):cvP (Y.urlZ l)=urlZ l:=by
 unfold Y.urlZ urlZ
 rw [cv_urlEnd,eq_urlT,eq_urlR,eq_blanksR]
theorem cv_word (l:List Int):cvP (Y.wordZ l)=wordZ l:=by
 unfold Y.wordZ wordZ
 rw [eq_nameR,eq_nameT,eq_urlNm,eq_qbB,eq_hd]
 split
 ·split
  ·exact cv_url _
  ·rfl
 ·rfl
theorem cv_single (c:Int):cvT (Y.singleZ c)=singleZ c:=by
 unfold Y.singleZ singleZ
 rw [eq_signZ]
 split <;> rfl
theorem cv_hash (l:List Int):cvP (Y.hashZ l)=hashZ l:=by
 unfold Y.hashZ hashZ
 rw [eq_nameT,eq_nameB,eq_nameR]
 rfl
theorem cv_one (l:List Int):cvO (Y.oneZ l)=oneZ l:=by
 unfold Y.oneZ oneZ
 rw [eq_standsB,eq_blankZ,eq_quoteB,eq_hashB,eq_numB,eq_nameB,eq_atB,eq_hd,eq_comR,eq_blanksR,eq_nameT,eq_nameR]
 split
 ·rfl
 split
 ·rfl
 split
 ·rw [cv_some,cv_str]
 split
 ·rw [cv_some,cv_hash]
 split
 ·rw [cv_some,cv_num]
 split
 ·rfl
 split
 ·rfl
 split
 ·rw [cv_some,cv_word]
 split
 ·rfl
 ·show (some (cvT _),_)=_
  rw [cv_single]
theorem cv_toksF:∀ (l:List Int) (k:Nat),(Y.toksF l k).map cvT=toksF l k
 | [],k=>by cases k <;> rfl
 | _::t,k+1=>by
   rw [Y.toksF,toksF]
   exact cv_toksF t k
 | c::t,0=>by
   rw [Y.toksF,toksF,← cv_one,List.map_append,cv_toksF t]
   show _=(Option.map cvT _).toList++toksF t (t.length - (Y.oneZ (c::t)).2.length)
   cases (Y.oneZ (c::t)).1 <;> rfl
theorem cv_toks (l:List Int):(Y.toks l).map cvT=toks l:=cv_toksF l 0
end Go.Proofs.YtemlnblifkdenaaGreatDoor
namespace Go.Proofs.YtemlnblifkdenaaGreatDoor.L
open Go.RowKit
theorem nameT_lenB (l:List Int) (k:Nat):(nameT l k).length≤l.length:=by
 rw [← eq_nameT]
 exact Y.nameT_length l k
theorem toks_len:∀ (n:Nat) (l:List Int),l.length≤n→(toks l).length≤l.length
 | 0,l,h=>by
   have:l=[]:=List.length_eq_zero_iff.1 (by omega)
   subst this
   simp [toks,toksF]
 | n+1,[],_=>by simp [toks,toksF]
 | n+1,c::t,h=>by
   have hl:=(one_less c t).length_le
   have ih:=toks_len n (oneZ (c::t)).2 (by simp at h;omega)
   have ho:(oneZ (c::t)).1.toList.length≤1:=by cases (oneZ (c::t)).1 <;> simp
   rw [toks_cons,List.length_append]
   simp only [List.length_cons]
   omega
theorem toks_from:∀ (n:Nat) (xs:List Int),xs.length≤n→∀ t∈toks xs,∃ l,l≠[]∧l <:+ xs∧(oneZ l).1=some t
 | 0,xs,h,t,ht=>by
   have:xs=[]:=List.length_eq_zero_iff.1 (by omega)
   subst this
   simp [toks,toksF] at ht
 | n+1,[],_,t,ht=>by simp [toks,toksF] at ht
 | n+1,c::r,h,t,ht=>by
   rw [toks_cons,List.mem_append] at ht
   rcases ht with ht | ht
   ·refine ⟨c::r,by simp,List.suffix_refl _,?_⟩
    cases ho:(oneZ (c::r)).1 with
    | none=>rw [ho] at ht;simp at ht
    | some u=>rw [ho] at ht;simp at ht;rw [ht]
   ·have hl:=one_less c r
    obtain ⟨l,h1,h2,h3⟩:=toks_from n (oneZ (c::r)).2 (by have:=hl.length_le;simp at h;omega) t ht
    exact ⟨l,h1,h2.trans (suf_cons hl),h3⟩
theorem urlT_len:∀ (l:List Int) (k:Nat),(urlT l k).length≤l.length
 | [],k=>by simp [urlT]
 | _::t,k+1=>by
   have:=urlT_len t k
   rw [urlT]
   simp only [List.length_cons]
   omega
 | c::t,0=>by
   rw [urlT]
   split
   ·split
    ·have:=urlT_len t (escT t).2
     simp only [List.length_cons]
     omega
    ·have:=urlT_len t 0
     simp only [List.length_cons]
     omega
   ·simp
theorem quoZ_len (e:Int):∀ (l:List Int) (k:Nat) (t:List Int),(quoZ e l k).1=some t→t.length≤l.length
 | [],k,t,h=>by
   simp [quoZ] at h
   simp [h]
 | _::r,k+1,t,h=>by
   rw [quoZ] at h
   have:=quoZ_len e r k t h
   simp only [List.length_cons]
   omega
 | c::r,0,t,h=>by
   have hc:∀ x k,(consO x (quoZ e r k)).1=some t→t.length≤r.length+1:=fun x k h=>by
    unfold consO at h
    cases hq:(quoZ e r k).1 with
    | none=>rw [hq] at h;simp at h
    | some u =>
      rw [hq] at h
      simp at h
      have:=quoZ_len e r k u hq
      rw [← h]
      simp only [List.length_cons]
      omega
   rw [quoZ] at h
   simp only [List.length_cons]
   split at h
   ·simp at h
    simp [h]
   ·split at h
    ·simp at h
    ·split at h
     ·split at h
      ·have:=quoZ_len e r 1 t h
       omega
      ·split at h
       ·have:=quoZ_len e r 0 t h
        omega
       ·exact hc _ _ h
     ·exact hc _ _ h
theorem gone_len (l r:List Int):(gone l r).length≤l.length:=by
 unfold gone
 rw [List.length_take]
 omega
theorem one_len {l:List Int} {t:Tok} (ho:(oneZ l).1=some t):t.text.length+t.unit.length≤2 * l.length+1:=by
 have hn:∀ m,m <:+ l→(nameT m 0).length≤l.length:=fun m h=>Nat.le_trans (nameT_lenB m 0) h.length_le
 have hu:∀ m,m <:+ l→(urlT m 0).length≤l.length:=fun m h=>Nat.le_trans (urlT_len m 0) h.length_le
 unfold oneZ at ho
 split at ho
 ·cases ho
 split at ho
 ·cases ho
  simp [plainTok]
 split at ho
 ·unfold someT strZ at ho
  cases hz:quoZ (hd l 0) (l.drop 1) 0 with
  | mk a r =>
    rw [hz] at ho
    cases a with
    | none=>cases ho;simp [plainTok]
    | some tx =>
      cases ho
      have:=quoZ_len (hd l 0) (l.drop 1) 0 tx (by rw [hz])
      rw [List.length_drop] at this
      simp only [plainTok,List.length_nil]
      omega
 split at ho
 ·cases ho
  have:=hn (l.drop 1) (suf_drop l 1)
  simp only [hashZ,mkTok,List.length_nil]
  omega
 split at ho
 ·have h1:=gone_len l (numR l)
  have h2:=hn (numR l) (numR_suf l)
  unfold someT Go.Proofs.YtemlnblifkdenaaGreatDoor.numZ at ho
  split at ho
  ·cases ho
   simp only [mkTok]
   omega
  ·split at ho
   ·cases ho
    simp only [mkTok,List.length_nil]
    omega
   ·cases ho
    simp only [mkTok,List.length_nil]
    omega
 split at ho
 ·cases ho
  simp [plainTok]
 split at ho
 ·cases ho
  simp [plainTok]
 split at ho
 ·have h1:=hn l (List.suffix_refl _)
  have h2:=hu (blanksR ((nameR l 0).drop 1)) ((blanksR_suf _).trans ((suf_drop _ 1).trans (nameR_suf l 0)))
  unfold someT wordZ at ho
  split at ho
  ·split at ho
   ·unfold urlZ urlEnd at ho
    split at ho
    ·cases ho
     simp only [plainTok,List.length_nil]
     omega
    ·split at ho
     ·cases ho
      simp only [plainTok,List.length_nil]
      omega
     ·cases ho
      simp [plainTok]
   ·cases ho
    simp only [plainTok,List.length_nil]
    omega
  ·cases ho
   simp only [plainTok,List.length_nil]
   omega
 split at ho
 ·cases ho
  have:=hn (l.drop 1) (suf_drop l 1)
  simp only [plainTok,List.length_nil]
  omega
 ·cases ho
  unfold singleZ
  split
  ·simp [plainTok]
  ·simp [plainTok]
theorem tok_len {xs:List Int} {t:Tok} (ht:t∈toks xs):t.text.length+t.unit.length≤2 * xs.length+1:=by
 obtain ⟨l,_,h2,h3⟩:=toks_from _ xs (Nat.le_refl _) t ht
 have h4:=one_len h3
 have h5:=h2.length_le
 omega
theorem enc_four (c:Int):(Lib.encodeRuneZ c).length≤4:=by
 unfold Lib.encodeRuneZ
 repeat' split
 all_goals simp
theorem strT_four (l:List Int):(strT l).size≤4 * l.length:=by
 unfold strT
 rw [strOf_size]
 induction l with
 | nil=>simp [bytesZ]
 | cons c t ih =>
   have:=enc_four c
   unfold bytesZ at ih ⊢
   rw [List.flatMap_cons,List.length_append,List.length_cons]
   omega
theorem some_cnt:∀ (f:Nat) (l:List T5) (c n:Int),cntL (Y.someZ f l c n).1+(Y.someZ f l c n).2.length≤l.length
 | 0,l,_,_=>by simp [Y.someZ,cntL]
 | _+1,[],_,_=>by simp [Y.someZ,cntL]
 | f+1,t::r,c,n=>by
   have h1:=some_cnt f r c n
   have h2:=some_cnt f r (Y.closeZ t.k) (n+1)
   have h3:=some_cnt f (Y.someZ f r (Y.closeZ t.k) (n+1)).2 c n
   rw [Y.someZ]
   simp only [List.length_cons]
   split
   ·simp [cntL]
   ·split
    ·simp only [cntL,cnt_kids,V.kids]
     omega
    ·split
     ·omega
     ·simp only [cntL,cnt_kids,V.kids]
      omega
theorem len_cnt:∀ vs:List V,vs.length≤cntL vs
 | []=>by simp
 | v::r=>by
   have:=len_cnt r
   simp only [cntL,cnt_kids,List.length_cons]
   omega
theorem fit_nil:Fit []:=.mk [] (by simp) (fun v hv=>absurd hv (by simp)) fun v hv=>absurd hv (by simp)
theorem some_fit {M:Nat} (hM:M≤100000) {P:T5→Prop} (hP:∀ t,P t→t.tx.size+t.un.size≤2000000):∀ (f:Nat) (l:List T5) (c n:Int),l.length≤M→(∀ t∈l,P t)→(∀ v∈(Y.someZ f l c n).1,P v.tok∧Fit v.kids)∧∀ t∈(Y.someZ f l c n).2,P t
 | 0,l,_,_,_,_=>by simp [Y.someZ]
 | _+1,[],_,_,_,_=>by simp [Y.someZ]
 | f+1,t::r,c,n,hl,h=>by
   have hr:∀ t∈r,P t:=fun u hu=>h u (by simp [hu])
   have hrl:r.length≤M:=by simp at hl;omega
   have h1:=some_fit hM hP f r c n hrl hr
   have h2:=some_fit hM hP f r (Y.closeZ t.k) (n+1) hrl hr
   have c2:=some_cnt f r (Y.closeZ t.k) (n+1)
   have h3:=some_fit hM hP f (Y.someZ f r (Y.closeZ t.k) (n+1)).2 c n (by omega) h2.2
   have l2:=len_cnt (Y.someZ f r (Y.closeZ t.k) (n+1)).1
   have hfit:Fit (Y.someZ f r (Y.closeZ t.k) (n+1)).1:=.mk _ (by omega) (fun v hv=>hP _ (h2.1 v hv).1) fun v hv=>(h2.1 v hv).2
   rw [Y.someZ]
   split
   ·exact ⟨fun v hv=>absurd hv (by simp),hr⟩
   ·split
    ·refine ⟨fun v hv=>?_,h1.2⟩
     rcases List.mem_cons.1 hv with rfl | hv
     ·exact ⟨h t (by simp),fit_nil⟩
     ·exact h1.1 v hv
    ·split
     ·exact h3
     ·refine ⟨fun v hv=>?_,h3.2⟩
      rcases List.mem_cons.1 hv with rfl | hv
      ·exact ⟨h t (by simp),hfit⟩
      ·exact h3.1 v hv
theorem vals_fit (s:ByteArray) (hs:s.size≤65536):(toks (runesZ s)).length≤100000∧Fit (valsS s)∧cntL (valsS s)≤500000:=by
 have h1:=runes_len s
 have h2:=toks_len _ (runesZ s) (Nat.le_refl _)
 have hl:((toks (runesZ s)).map toT5).length≤100000:=by rw [List.length_map];omega
 have hP:∀ t∈(toks (runesZ s)).map toT5,t.tx.size+t.un.size≤2000000:=fun t ht=>by
  obtain ⟨u,hu,rfl⟩:=List.mem_map.1 ht
  have h3:=tok_len hu
  have h4:=strT_four u.text
  have h5:=strT_four u.unit
  show (strT u.text).size+(strT u.unit).size≤_
  omega
 have hc:=some_cnt ((toks (runesZ s)).map toT5).length ((toks (runesZ s)).map toT5) 0 0
 have hf:=some_fit (Nat.le_refl 100000) (P:=fun t=>t.tx.size+t.un.size≤2000000) (fun _ h=>h) ((toks (runesZ s)).map toT5).length _ 0 0 hl hP
 have hlc:=len_cnt (valsS s)
 have hc':cntL (valsS s)≤100000:=by
  show cntL (Y.someZ _ _ 0 0).1≤_
  omega
 exact ⟨by omega,.mk _ (by omega) (fun v hv=>(hf.1 v hv).1) (fun v hv=>(hf.1 v hv).2),by omega⟩
theorem y_fine {xs:List Int} (h:Fine xs):Y.Fine xs:=h
theorem y_bytes {w:World} {v:Value} {s:ByteArray} (h:BytesAt w v s):Y.BytesAt w v s:=h
theorem y_cells (ts:List Y.Tok):ts.flatMap Y.tokCells=(ts.map cvT).flatMap tokCells:=by
 induction ts with
 | nil=>rfl
 | cons t r ih =>
   rw [List.flatMap_cons,List.map_cons,List.flatMap_cons,ih]
   rfl
theorem y_outs {B:Nat} {w:World} {out:Value} {xs:List Int} (h:Y.Outs B w out (Y.toks xs)):Outs B w out (toks xs):=by
 unfold Y.Outs at h
 rw [y_cells,← List.length_map (f:=cvT),cv_toks] at h
 exact h
theorem rtext_any (s:ByteArray) (W:World) (hs:s.size≤65536):Calls Tryz.prog 6 #[.string s] W (TxPost W (parseZ (valsS s))):=by
 obtain ⟨hn,hf,_⟩:=vals_fit s hs
 obtain ⟨g,cap,W1,hcv,hcap,hg,hcell,_,hB⟩:=bytesOf s W
 have hba:BytesAt W1 (.slice (some ⟨g,0,none⟩) s.size cap) s:=⟨_,_,rfl,hcap,fun _=>⟨g,0,rfl,fun j hj=>by simpa using hcell j hj⟩⟩
 have hru:=Y.refRunes_any _ s W1 (by omega) (y_bytes hba)
 rw [eq_runes] at hru
 have HFI:=hid_mk (runes_fine s (by omega))
 have HF:=hid_mk hf
 have HNN:=hid_mk hn
 have hd:decide ((65536:Int)<(s.size:Int))=false:=decide_eq_false (by omega)
 have hd2:¬ ((65536:Int)<(s.size:Int)):=by omega
 have HVS:Hid (valsS s=Y.valsZ ((toks (runesZ s)).map toT5)):=rfl
 generalize valsS s=vs at *
 have HB:=hid_mk hB
 clear hcell hba hf hB hn
 go_enter Tryz.func6,Tryz.ntmps6
 go_wp2_with (go_at_call 16;fail)
 refine hru.mono ?_
 rintro e w2 ⟨u,rfl,hown,hb2⟩
 have hrow:=RowAt.own hown
 obtain ⟨a,c2,hu⟩:∃ a c2,u=.slice a (runesZ s).length c2:=by
  rcases hown.2 with ⟨hv,hz⟩ | ⟨g2,c2,cur,hv,_⟩
  ·exact ⟨none,0,by rw [hv,hz]⟩
  ·exact ⟨_,c2,hv⟩
 subst hu
 have ht:=Y.rtokens_any hrow (y_fine HFI.out)
 have HB2:Hid (Below W.heap.size W w2):=HB.out.trans (hb2.mono HB.out.size)
 generalize runesZ s=xs at *
 clear hru hown hrow hb2 HB
 go_wp2_with (go_at_call 15;fail)
 refine ht.mono ?_
 rintro e w3 ⟨out,rfl,ho',hb3⟩
 have ho:=y_outs ho'
 have hvl:=Y.rvalues_any (outs_ts ho) (by rw [List.length_map];exact HNN.out)
 rw [← HVS.out] at hvl
 have HB3:Hid (Below W.heap.size W w3):=HB2.out.trans (hb3.mono HB2.out.size)
 obtain ⟨oa,on,oc,rfl⟩:=own_sl ho
 clear ht ho ho' hb3
 go_wp2_with (go_at_call 14;fail)
 refine hvl.mono ?_
 rintro e w4 ⟨vo,rfl,hvo,hb4⟩
 have hB4:Below W.heap.size W w4:=HB3.out.trans (hb4.mono HB3.out.size)
 have hpa:=rparse_any (depL vs+1) _ w4 vo vs (Nat.lt_succ_self _) hvo HF.out
 obtain ⟨va,vc,rfl,_,_⟩:=hvo.slice
 have HB4:=hid_mk hB4
 generalize parseZ vs=R at *
 clear hvl hvo hb4 hB4
 go_wp2_with (go_at_call 13;fail)
 refine hpa.mono ?_
 rintro e w5 hq
 cases R with
 | none =>
   obtain ⟨rfl,hb5⟩:=hq
   have HB5:Hid (Below W.heap.size W w5):=HB4.out.trans (hb5.mono HB4.out.size)
   clear hpa hb5
   go_wp2
   go_ret2
   exact ⟨rfl,HB5.out⟩
 | some l =>
   obtain ⟨ua,un,uc,rfl,hrob,hb5⟩:=hq
   have HB5:Hid (Below W.heap.size W w5):=HB4.out.trans (hb5.mono HB4.out.size)
   have HCL:=hid_mk (hrob w5 fun _ _ _=>rfl)
   clear hpa hb5 hrob
   go_wp2
   go_ret2
   exact ⟨_,rfl,HCL.out,HB5.out⟩
theorem rtext_long (s:ByteArray) (W:World) (hs:65536<s.size):Calls Tryz.prog 6 #[.string s] W fun e w'=>e=.returned (.tuple #[.slice none 0 0,.int .i64 11])∧W=w':=by
 have hd:decide ((65536:Int)<(s.size:Int))=true:=decide_eq_true (by omega)
 have hd2:((65536:Int)<(s.size:Int)):=by omega
 go_enter Tryz.func6,Tryz.ntmps6
 go_wp2
 go_ret2
 exact ⟨rfl,rfl⟩
theorem text_long (s:ByteArray) (W:World) (hs:65536<s.size):Calls Tryz.prog 5 #[.string s] W fun e w'=>e=.returned (.tuple #[.slice none 0 0,.int .i64 11])∧W=w':=by
 have hd:decide ((65536:Int)<(s.size:Int))=true:=decide_eq_true (by omega)
 have hd2:((65536:Int)<(s.size:Int)):=by omega
 go_enter Tryz.func5,Tryz.ntmps5
 go_wp2
 go_ret2
 exact ⟨rfl,rfl⟩
end Go.Proofs.YtemlnblifkdenaaGreatDoor.L
