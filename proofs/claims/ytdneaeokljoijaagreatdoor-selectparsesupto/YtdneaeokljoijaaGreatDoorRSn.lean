/- gouacheref05.Same of one and the same selectors: the lists. -/
import Derived.Test.YtdneaeokljoijaaGreatDoorLSd
import Derived.Test.YtdneaeokljoijaaGreatDoorRPs
import Derived.Test.YtdneaeokljoijaaGreatDoorToks
import Derived.Test.YtdneaeokljoijaaGreatDoorLCh
set_option maxRecDepth 100000
set_option maxHeartbeats 8000000
namespace Go.Proofs.YtdneaeokljoijaaGreatDoor.L
open Go.RowKit
theorem info39:∃ i z,Tryz.prog.info? 39=some i∧i.zero=some z∧i.size=3∧i.bytes=24∧z.cells.size=3:=⟨_,_,by rfl,by rfl,by rfl,by rfl,by rfl⟩
structure Ms (w2:World) (al:List (List Cx)) (m:Nat) (w:World):Prop where
 row:∃ cur:Array Value,w.heap[w2.heap.size]? = some (.cells cur 39 (0,0))∧cur.size=al.length * 3∧∀ j (h:j<al.length),m≤j→cur[j * 3]? = some (.int .i64 (mostZ (al[j]'h)).a)∧cur[j * 3+1]? = some (.int .i64 (mostZ (al[j]'h)).b)∧cur[j * 3+2]? = some (.int .i64 (mostZ (al[j]'h)).c)
 bel:Below w2.heap.size w2 w
theorem Ms.start {w2 w:World} {al:List (List Cx)} {xs:List Value} (h:w.ownsRow w2.heap.size 39 3 (.slice (some ⟨w2.heap.size,0,none⟩) al.length al.length) al.length xs) (hb:Below w2.heap.size w2 w):Ms w2 al al.length w:=by
 refine ⟨?_,hb⟩
 rcases h.2 with ⟨e,_⟩ | ⟨g,cap,cur,e,_,h2,_,_,h5,_⟩
 ·cases e
 ·cases e
  exact ⟨cur,h2,h5,fun j h1 h2=>by omega⟩
theorem Ms.then {w2 w w':World} {al:List (List Cx)} {m:Nat} (h:Ms w2 al m w) (hb:Below w.heap.size w w'):Ms w2 al m w':=by
 obtain ⟨cur,h1,h2,h3⟩:=h.row
 exact ⟨⟨cur,(hb.block _ (Array.getElem?_eq_some_iff.1 h1).1).trans h1,h2,h3⟩,h.bel.trans (hb.mono h.bel.size)⟩
theorem Ms.sp {w2 w:World} {al:List (List Cx)} {m k:Nat} (h:Ms w2 al m w) (hk:m≤k) (hkn:k≤al.length) (hbig:al.length≤1000000) {ia:Option Addr} (hia:k<al.length→ia=some ⟨w2.heap.size,k * 3,none⟩):SpAt w (.slice ia (al.length - k) (al.length - k)) ((al.drop k).map mostZ):=by
 obtain ⟨cur,h1,h2,h3⟩:=h.row
 refine ⟨w2.heap.size,k * 3,⟨ia,al.length - k,by rw [List.length_map,List.length_drop],by rw [List.length_map,List.length_drop];exact Nat.le_refl _,by omega,fun h0=>⟨hia (by rw [List.length_map,List.length_drop] at h0;omega),(Array.getElem?_eq_some_iff.1 h1).1⟩⟩,fun i hi=>?_⟩
 have hi':k+i<al.length:=by rw [List.length_map,List.length_drop] at hi;omega
 obtain ⟨q0,q1,q2⟩:=h3 (k+i) hi' (by omega)
 have hc:∀ o u,cur[o]? = some u→w.cell? ⟨w2.heap.size,o,none⟩=some u:=fun o u hu=>(cellAt h1 o).trans hu
 rw [List.getElem_map,List.getElem_drop,show k * 3+i * 3=(k+i) * 3 by omega]
 exact ⟨hc _ _ q0,hc _ _ q1,hc _ _ q2⟩
theorem Ms.put {w2 w:World} {al:List (List Cx)} {i:Nat} (h:Ms w2 al (i+1) w) (hi:i<al.length):Ms w2 al i (((w.setCell ⟨w2.heap.size,i * 3,none⟩ (.int .i64 (mostZ (al[i]'hi)).a)).setCell ⟨w2.heap.size,i * 3+1,none⟩ (.int .i64 (mostZ (al[i]'hi)).b)).setCell ⟨w2.heap.size,i * 3+2,none⟩ (.int .i64 (mostZ (al[i]'hi)).c)):=by
 obtain ⟨cur,h1,h2,h3⟩:=h.row
 have s1:=set_at (i * 3) (.int .i64 (mostZ (al[i]'hi)).a) (0,0) h1
 have s2:=set_at (i * 3+1) (.int .i64 (mostZ (al[i]'hi)).b) (0,0) s1
 have s3:=set_at (i * 3+2) (.int .i64 (mostZ (al[i]'hi)).c) (0,0) s2
 refine ⟨⟨_,s3,by simpa using h2,fun j hj hij=>?_⟩,((h.bel.setCell (p:=⟨w2.heap.size,i * 3,none⟩) (Nat.le_refl _) _).setCell (p:=⟨w2.heap.size,i * 3+1,none⟩) (Nat.le_refl _) _).setCell (p:=⟨w2.heap.size,i * 3+2,none⟩) (Nat.le_refl _) _⟩
 by_cases hj2:j=i
 ·subst hj2
  have b0:j * 3<cur.size:=by omega
  have b1:j * 3+1<cur.size:=by omega
  have b2:j * 3+2<cur.size:=by omega
  simp [b0,b1,b2]
 ·obtain ⟨q0,q1,q2⟩:=h3 j hj (by omega)
  refine ⟨?_,?_,?_⟩
  ·rw [Array.getElem?_setIfInBounds_ne (by omega),Array.getElem?_setIfInBounds_ne (by omega),Array.getElem?_setIfInBounds_ne (by omega)]
   exact q0
  ·rw [Array.getElem?_setIfInBounds_ne (by omega),Array.getElem?_setIfInBounds_ne (by omega),Array.getElem?_setIfInBounds_ne (by omega)]
   exact q1
  ·rw [Array.getElem?_setIfInBounds_ne (by omega),Array.getElem?_setIfInBounds_ne (by omega),Array.getElem?_setIfInBounds_ne (by omega)]
   exact q2
theorem most_any {W:World} {v:Value} {l:List Cx} (h:ClAt W v l) (hsz:szZ l≤1000000) :
  Calls Tryz.prog 22 #[v] W fun e w'=>e=.returned (mostZ l).v∧Below W.heap.size W w':=by
 obtain ⟨i0,hi0,hz0,hz1,hz2⟩:∃ i,Tryz.prog.info? 39=some i∧i.zero=some (.agg #[.int .i64 0,.int .i64 0,.int .i64 0])∧i.size=3∧i.bytes=24:=⟨_,by rfl,by rfl,by rfl,by rfl⟩
 obtain ⟨a,ll,cap,rfl⟩:∃ a n c,v=.slice a n c:=by
  obtain ⟨_,_,⟨a,cap,e,_⟩,_⟩:=h.at
  exact ⟨_,_,_,e⟩
 obtain ⟨W1,hW1⟩:∃ W1,W1=W.alloc (.cells #[.int .i64 0,.int .i64 0,.int .i64 0] 39):=⟨_,rfl⟩
 have hB1:Below W.heap.size W W1:=by rw [hW1];exact (Below.refl _ _).alloc (Nat.le_refl _) _
 have hR1:SB W1 W.heap.size z3:=by
  unfold SB
  rw [hW1]
  exact heap_alloc_last W _
 have hcall:=spread_any (h.keep hB1) hsz
 have HSZ:=hid_mk hsz
 have HB1:=hid_mk hB1
 have HR1:=hid_mk hR1
 have HW1:=hid_mk hW1
 clear h hB1 hR1 hsz hW1
 go_enter Tryz.func22,Tryz.ntmps22
 go_upto_region 1 with (fail)
 rw [← HW1.out]
 clear HW1
 go_wp2_with (go_at_call 48;fail)
 refine hcall.mono ?_
 rintro e w2 ⟨av,iv,al,ins,rfl,⟨us,hus,hf⟩,hin,hq,hb2⟩
 clear hcall
 obtain ⟨aa,an,ac,rfl⟩:=own_sl hus
 obtain ⟨ia,im,ic,rfl⟩:=own_sl hin
 have hnl:an=al.length:=own_n hus
 have hml:im=ins.length:=own_n hin
 have hql:=hq.len
 have hbig:an≤1000000:=by
  have:=hq.big
  have:=HSZ.out
  omega
 have hpos:0<an:=by
  have h1:=hq.first
  have:=(List.getElem?_eq_some_iff.1 h1).1
  omega
 have HCE:Hid (∀ i,i<an→∃ (hi:i<al.length) (k:Nat) (ag ig:Nat) (xa:Option Addr) (xn xc:Nat),aa=some ⟨ag,0,none⟩∧an≤ac∧ac≤9223372036854775807∧ia=some ⟨ig,0,none⟩∧im≤ic∧ic≤9223372036854775807∧ag<w2.heap.size∧ig<w2.heap.size∧w2.cell? ⟨ag,i,none⟩=some (.slice xa xn xc)∧w2.cell? ⟨ig,i,none⟩=some (.int .i64 (k:Int))∧ClAt W1 (.slice xa xn xc) (al[i]'hi)∧i<k∧k≤an∧∃ rest,al.drop k=wgL (al[i]'hi)++rest):=fun i hi=>by
  have hi':i<al.length:=by omega
  have hi2:i<ins.length:=by omega
  obtain ⟨ag,agc,x,e1,hag,_,hc1,hc2,hx,cx⟩:=own_cell hus hi'
  obtain ⟨ig,igc,y,e2,hig,_,hd1,hd2,hy,cy⟩:=own_cell hin hi2
  have hxi:i<us.length:=by have:=hf.len;omega
  rw [List.getElem?_eq_getElem hxi] at hx
  have hcl:=hf.get i hxi hi'
  rw [Option.some.inj hx] at hcl
  obtain ⟨xa,xn,xc,rfl⟩:∃ a n c,x=.slice a n c:=by
   obtain ⟨_,_,⟨a,cap,e,_⟩,_⟩:=hcl.at
   exact ⟨_,_,_,e⟩
  rw [List.getElem?_map,List.getElem?_eq_getElem hi2] at hy
  obtain ⟨o1,o2,rest,o3⟩:=hq.ok i hi2 hi'
  cases hy
  cases e1
  cases e2
  exact ⟨hi',_,ag,ig,xa,xn,xc,rfl,hc1,hc2,rfl,hd1,hd2,hag,hig,cx,cy,hcl,o1,o2,rest,o3⟩
 have HFI:Hid (∀ hi:0<al.length,al[0]'hi=l):=fun hi=>by
  have h1:=hq.first
  rw [List.getElem?_eq_getElem hi] at h1
  exact Option.some.inj h1
 have him:im=an:=by omega
 subst him
 have HB2:=hid_mk hb2
 have HNL:=hid_mk hnl
 have hszb:W.heap.size<w2.heap.size:=by
  have h1:=(Array.getElem?_eq_some_iff.1 HR1.out).1
  have h2:=hb2.size
  omega
 clear hus hf hin hq hb2 hnl hml hql
 go_wp2_with (at_make;with_reducible refine wpList_make_full _ rfl _ _ 96 rfl w2.heap.size 39 i0 (.agg #[.int .i64 0,.int .i64 0,.int .i64 0]) 3 Tryz.underlying96 hi0 hz0 hz1 .i64 .i64 _ _ im rfl rfl rfl rfl ?c1 ?c2 ?c3 ?_)
 case c1=>rw [hz2];omega
 case c2=>unfold maxLen;omega
 case c3=>exact Nat.le_refl _
 intro w3 ho3 hg3
 have HM0:Hid (Ms w2 al im w3):=by
  rw [Hid]
  rw [HNL.out] at ho3 ⊢
  exact Ms.start ho3 ((Below.refl _ _).grown hg3 (Nat.le_refl _) fun k hk=>by cases hk)
 clear ho3 hg3
 go_wp2
 go_loopw [6] (fun a6 wq=>∃ (m:Nat) (z:Int),m≤im∧z=(m:Int) - 1∧a6=.int .i64 z∧Hid (Ms w2 al m wq)) (fun a6 _=>(intOf a6+1).toNat)
 case atStart=>exact ⟨im,_,Nat.le_refl _,rfl,rfl,HM0⟩
 case round =>
  obtain ⟨m,z,hm,hz,rfl,HM⟩:=hrel
  clear HM0
  cases m with
  | zero =>
    obtain rfl:z=-1:=by omega
    clear hz hm
    have hn0:0<al.length:=by have:=HNL.out;omega
    obtain ⟨cur,h1,h2,h3⟩:=HM.out.row
    obtain ⟨q0,q1,q2⟩:=h3 0 hn0 (Nat.le_refl _)
    rw [HFI.out hn0] at q0 q1 q2
    rw [Nat.zero_mul] at q0 q1 q2
    have c0:wr.cell? ⟨w2.heap.size,0,none⟩=some (.int .i64 (mostZ l).a):=(cellAt h1 0).trans q0
    have c1:wr.cell? ⟨w2.heap.size,1,none⟩=some (.int .i64 (mostZ l).b):=(cellAt h1 1).trans q1
    have c2:wr.cell? ⟨w2.heap.size,2,none⟩=some (.int .i64 (mostZ l).c):=(cellAt h1 2).trans q2
    have hbw:Below W1.heap.size W1 wr:=HB2.out.trans (HM.out.bel.mono HB2.out.size)
    have hr:SB wr W.heap.size z3:=(hbw.block _ (Array.getElem?_eq_some_iff.1 HR1.out).1).trans HR1.out
    obtain ⟨⟨k0,k1,k2⟩,f0,f1,f2⟩:=cells3s hr
    have HBW:Hid (Below W.heap.size W wr):=HB1.out.trans (hbw.mono HB1.out.size)
    clear h1 h2 h3 q0 q1 q2 hr hbw HM HCE HFI
    go_wp2
    exact bodyPost_ret (by simp [results,Tryz.results22,go_sem,k0,k1,k2];rfl) rfl ⟨rfl,below_set3 HBW.out (Nat.le_refl _) _ _ _⟩
  | succ i =>
    obtain rfl:z=(i:Int):=by omega
    clear hz
    obtain ⟨hi,k,ag,ig,xa,xn,xc,rfl,hc1,hc2,rfl,hd1,hd2,hag,hig,cx,cy,hcl,o1,o2,rest,o3⟩:=HCE.out i (by omega)
    have cx':=(HM.out.bel.cell (p:=⟨ag,i,none⟩) hag).trans cx
    have cy':=(HM.out.bel.cell (p:=⟨ig,i,none⟩) hig).trans cy
    have hbw:Below W1.heap.size W1 wr:=HB2.out.trans (HM.out.bel.mono HB2.out.size)
    have HGR:Hid (∀ w' ia',Below wr.heap.size wr w'→(k<im→ia'=some ⟨w2.heap.size,k * 3,none⟩)→Calls Tryz.prog 49 #[.slice xa xn xc,.slice ia' (im - k) (im - k)] w' fun e w''=>e=.returned (.agg #[.int .i64 (mostZ (al[i]'hi)).a,.int .i64 (mostZ (al[i]'hi)).b,.int .i64 (mostZ (al[i]'hi)).c])∧Below wr.heap.size wr w''):=fun w' ia' hb hia=>by
     have hsp:=(HM.out.then hb).sp (k:=k) (ia:=ia') o1 (by have:=HNL.out;omega) (by have:=HNL.out;omega) (fun h=>hia (by have:=HNL.out;omega))
     rw [o3,List.map_append,← HNL.out] at hsp
     exact (greatest_any (hcl.keep (hbw.trans (hb.mono hbw.size))) hsp).mono fun _ _ q=>⟨q.1,hb.trans (q.2.mono hb.size)⟩
    have HCL:Hid (∀ w',Below wr.heap.size wr w'→(∃ x0 x1 x2,w'.cell? ⟨w2.heap.size,i * 3,none⟩=some x0∧w'.cell? ⟨w2.heap.size,i * 3+1,none⟩=some x1∧w'.cell? ⟨w2.heap.size,i * 3+2,none⟩=some x2)∧w'.frozen? ⟨w2.heap.size,i * 3,none⟩=false∧w'.frozen? ⟨w2.heap.size,i * 3+1,none⟩=false∧w'.frozen? ⟨w2.heap.size,i * 3+2,none⟩=false):=fun w' hb=>by
     obtain ⟨cur,h1,h2,h3⟩:=(HM.out.then hb).row
     have b2:i * 3+2<cur.size:=by omega
     refine ⟨⟨_,_,_,(cellAt h1 _).trans (Array.getElem?_eq_getElem (by omega)),(cellAt h1 _).trans (Array.getElem?_eq_getElem (by omega)),(cellAt h1 _).trans (Array.getElem?_eq_getElem b2)⟩,?_,?_,?_⟩ <;> simp [World.frozen?,h1]
    have HPU:Hid (∀ w',Below wr.heap.size wr w'→Ms w2 al i (((w'.setCell ⟨w2.heap.size,i * 3,none⟩ (.int .i64 (mostZ (al[i]'hi)).a)).setCell ⟨w2.heap.size,i * 3+1,none⟩ (.int .i64 (mostZ (al[i]'hi)).b)).setCell ⟨w2.heap.size,i * 3+2,none⟩ (.int .i64 (mostZ (al[i]'hi)).c))):=fun w' hb=>(HM.out.then hb).put hi
    generalize mostZ (al[i]'hi)=y at *
    have gr:Below wr.heap.size wr wr:=Below.refl _ _
    have gd:Below wr.heap.size wr wr.drew:=gr.drew
    have hin:i<im:=by omega
    clear cx cy hcl hbw o3 HM HCE HFI
    go_upto_region 6 with (fail)
    go_region_law (go_simp;go_at_call 49;refine (HGR.out _ _ ?_ ?_).mono ?_;assumption;(intro hkk;first | rw [if_neg (by omega)] | (simp;omega));rintro e w5 ⟨rfl,hb5⟩;obtain ⟨⟨x0,x1,x2,t0,t1,t2⟩,k0,k1,k2⟩:=HCL.out w5 hb5;have HS5:=hid_mk (HPU.out w5 hb5);clear hb5)
    all_goals
     obtain ⟨W6,hW6⟩:∃ W6,W6=((w5.setCell ⟨w2.heap.size,i * 3,none⟩ (.int .i64 y.a)).setCell ⟨w2.heap.size,i * 3+1,none⟩ (.int .i64 y.b)).setCell ⟨w2.heap.size,i * 3+2,none⟩ (.int .i64 y.c):=⟨_,rfl⟩
     rw [← hW6] at HS5 ⊢
     clear hW6 t0 t1 t2 k0 k1 k2 HCL HPU HGR cx' cy' gr gd
     go_wp2
     exact ⟨⟨i,_,by omega,rfl,rfl,HS5⟩,by simp only [intOf];omega⟩
theorem ClAt.one {W:World} {g:Nat} {pv cv:Value} {c:Cx} {bc oc bp op:Nat} {qv:Nat→Value} {bq oq:Nat→Nat} {lv:Nat→Nat→Value} (h:CxAt (ClAt W) W pv cv c bc oc bp op qv bq oq lv) (hg:g<W.heap.size) (h0:W.cell? ⟨g,0,none⟩=some pv) (h1:W.cell? ⟨g,1,none⟩=some cv):ClAt W (.slice (some ⟨g,0,none⟩) 1 1) [c]:=by
 have e:∀ i (hi:i < [c].length),[c][i]'hi=c:=fun i hi=>by
  have:i=0:=by simpa using hi
  subst this
  rfl
 refine .mk _ [c] g 0 (fun _=>pv) (fun _=>cv) (fun _=>bc) (fun _=>oc) (fun _=>bp) (fun _=>op) (fun _=>qv) (fun _=>bq) (fun _=>oq) (fun _=>lv) ⟨_,1,rfl,Nat.le_refl _,by decide,fun _=>⟨rfl,hg⟩⟩ (fun i hi=>?_) (fun i hi=>?_) (fun i hi t ht=>?_) (fun i hi=>?_) (fun i hi j hj=>?_) (fun i hi j hj=>?_) (fun i hi j hj t ht=>?_) (fun i hi j hj t ht=>?_)
 all_goals
  have:i=0:=by simpa using hi
  subst this
 ·exact ⟨h0,h1⟩
 ·exact h.cs
 ·exact h.cc t ht
 ·exact h.ps
 ·exact h.pc j hj
 ·exact h.qs j hj
 ·exact h.qc j hj t ht
 ·exact h.ls j hj t ht
theorem of_any {W:World} {pv cv:Value} {c:Cx} {bc oc bp op:Nat} {qv:Nat→Value} {bq oq:Nat→Nat} {lv:Nat→Nat→Value} (h:CxAt (ClAt W) W pv cv c bc oc bp op qv bq oq lv) (hsz:szZ [c]≤1000000) :
  Calls Tryz.prog 11 #[.agg #[pv,cv]] W fun e w'=>e=.returned (mostZ [c]).v∧Below W.heap.size W w':=by
 obtain ⟨pa,pc,rfl,_⟩:=h.ps
 obtain ⟨ca,cc,rfl,_⟩:=h.cs
 generalize c.parts.length=pn at *
 generalize c.combs.length=cn at *
 obtain ⟨W1,hW1⟩:∃ W1,W1=((W.alloc (.cells #[.slice pa pn pc,.slice ca cn cc] 44)).alloc (.cells #[.int .i64 0,.int .i64 0,.int .i64 0] 39)).alloc (.cells #[.slice pa pn pc,.slice ca cn cc] 44):=⟨_,rfl⟩
 have hB1:Below W.heap.size W W1:=by rw [hW1];exact (((Below.refl _ _).alloc (Nat.le_refl _) _).alloc (by simp) _).alloc (by simp;omega) _
 have x2:W1.heap[W.heap.size+2]? = some (.cells #[.slice pa pn pc,.slice ca cn cc] 44 (0,0)):=by
  have e:W.heap.size+2=((W.alloc (.cells #[.slice pa pn pc,.slice ca cn cc] 44)).alloc (.cells #[.int .i64 0,.int .i64 0,.int .i64 0] 39)).heap.size:=by simp
  rw [hW1,e]
  exact heap_alloc_last _ _
 have x1:SB W1 (W.heap.size+1) z3:=by
  have e:W.heap.size+1=(W.alloc (.cells #[.slice pa pn pc,.slice ca cn cc] 44)).heap.size:=by simp
  unfold SB
  rw [hW1,Below.heap_alloc _ _ _ (by simp),e]
  exact heap_alloc_last _ _
 have hcall:=most_any (ClAt.one (h.keep hB1) (Array.getElem?_eq_some_iff.1 x2).1 (cellAt x2 0) (cellAt x2 1)) hsz
 have HFR:Hid (∀ w',Below W1.heap.size W1 w'→SB w' (W.heap.size+1) z3∧Below W.heap.size W w'):=fun w' hb=>⟨(hb.block _ (Array.getElem?_eq_some_iff.1 x1).1).trans x1,hB1.trans (hb.mono hB1.size)⟩
 have HW1:=hid_mk hW1
 unfold S3.v at hcall ⊢
 generalize mostZ [c]=R at *
 clear h hsz hB1 x1 x2 hW1
 go_enter Tryz.func11,Tryz.ntmps11
 go_wp2_with (go_at_call 22;fail)
 rw [← HW1.out]
 refine hcall.mono ?_
 rintro e w2 ⟨rfl,hb⟩
 obtain ⟨hs,hbw⟩:=HFR.out w2 hb
 obtain ⟨⟨k0,k1,k2⟩,f0,f1,f2⟩:=cells3s hs
 have HBW:=hid_mk hbw
 clear hb hs hbw HFR hcall HW1
 go_wp2
 exact bodyPost_ret (by simp [results,Tryz.results11,go_sem,k0,k1,k2]) rfl ⟨rfl,below_set3 HBW.out (by omega) _ _ _⟩
theorem charsFrom_len (s:ByteArray):∀ (f pos:Nat),(charsFrom s f pos).length≤f
 | 0,_=>by simp [charsFrom]
 | f+1,pos=>by
   rw [charsFrom]
   split
   ·have:=charsFrom_len s f (pos+(Utf8.decode s pos).2)
    simp only [List.length_cons]
    omega
   ·simp
theorem norm_len:∀ (l:List Int) (last:Int),(normZ last l).length≤l.length
 | [],last=>by simp [normZ]
 | c::r,last=>by
   have h1:=norm_len r c
   rw [normZ]
   split
   ·simp only [List.length_cons];omega
   ·simp only [List.length_cons];omega
theorem runes_len (s:ByteArray):(runesZ s).length≤s.size:=Nat.le_trans (norm_len _ _) (charsFrom_len s _ _)
theorem runes_fine (s:ByteArray) (hs:s.size≤1000000000):Fine (runesZ s):=⟨Nat.le_trans (runes_len s) hs,fun c hc=>(runes_told s c hc).1⟩
def toT5 (t:Tok):T5:=⟨t.kind,strT t.text,strT t.unit,t.whole,t.flag⟩
def valsS (s:ByteArray):List V:=Y.valsZ ((toks (runesZ s)).map toT5)
theorem toks_at:∀ {ts:List Tok} {i:Nat} (h:i<ts.length) (j:Nat) (y:Value),(t5Cells (toT5 (ts[i]'h)))[j]? = some y→(ts.flatMap tokCells)[i * 5+j]? = some y
 | t::r,0,_,j,y,hy=>by
   have hy:(tokCells t)[j]? = some y:=hy
   rw [List.flatMap_cons,Nat.zero_mul,Nat.zero_add,List.getElem?_append_left (List.getElem?_eq_some_iff.1 hy).1]
   exact hy
 | t::r,i+1,h,j,y,hy=>by
   have hl:(tokCells t).length=5:=rfl
   rw [List.flatMap_cons,List.getElem?_append_right (by omega),hl,show (i+1) * 5+j - 5=i * 5+j by omega]
   exact toks_at (ts:=r) (i:=i) (by simpa using h) j y hy
theorem outs_ts {B:Nat} {w:World} {out:Value} {ts:List Tok} (h:Outs B w out ts):Y.TsAt w out (ts.map toT5):=by
 have hl:(ts.map toT5).length=ts.length:=List.length_map ..
 rcases h.2 with ⟨rfl,e⟩ | ⟨g,cap,cur,rfl,h1,h2,h3,h4,h5,h6⟩
 ·exact ⟨none,0,by rw [hl,e],by rw [hl,e];exact Nat.le_refl _,by decide,fun h0=>by rw [hl,e] at h0;omega⟩
 ·refine ⟨_,cap,by rw [hl],by rw [hl];exact h3,h4,fun _=>⟨g,0,rfl,(Array.getElem?_eq_some_iff.1 h2).1,fun i hi j y hy=>?_⟩⟩
  have hi':i<ts.length:=by rw [← hl];exact hi
  rw [List.getElem_map] at hy
  have h7:=own_news h (i * 5+j) y (toks_at hi' j y hy)
  rw [Addr.add_mid] at h7
  rw [Nat.add_assoc]
  exact h7
def TxPost (W:World) (R:Option (List Cx)) (e:Ending) (w':World):Prop:=match R with
 | none=>e=.returned (.tuple #[.slice none 0 0,.int .i64 4])∧Below W.heap.size W w'
 | some l=>∃ u,e=.returned (.tuple #[u,.int .i64 0])∧ClAt w' u l∧Below W.heap.size W w'
theorem text_any (s:ByteArray) (W:World) (hsg:Signs W) (hs:s.size≤65536) (hn:(toks (runesZ s)).length≤100000) (hf:Fit (valsS s)) (hc:cntL (valsS s)≤500000) :
  Calls Tryz.prog 10 #[.string s] W (TxPost W (parseZ (valsS s))):=by
 obtain ⟨g,cap,W1,hcv,hcap,hg,hcell,_,hB⟩:=bytesOf s W
 have hba:BytesAt W1 (.slice (some ⟨g,0,none⟩) s.size cap) s:=⟨_,_,rfl,hcap,fun _=>⟨g,0,rfl,fun j hj=>by simpa using hcell j hj⟩⟩
 have hru:=runes_any _ s W1 (by omega) hba
 have HFI:=hid_mk (runes_fine s (by omega))
 have HSG:Hid (∀ w,Below W.heap.size W w→Signs w):=fun w h=>hsg.keep h
 have HF:=hid_mk hf
 have HC:=hid_mk hc
 have HNN:=hid_mk hn
 have hd:decide ((65536:Int)<(s.size:Int))=false:=decide_eq_false (by omega)
 have hd2:¬ ((65536:Int)<(s.size:Int)):=by omega
 have HVS:Hid (valsS s=Y.valsZ ((toks (runesZ s)).map toT5)):=rfl
 generalize valsS s=vs at *
 have HB:=hid_mk hB
 clear hcell hba hf hc hsg hB hn
 go_enter Tryz.func10,Tryz.ntmps10
 go_wp2_with (go_at_call 21;fail)
 refine hru.mono ?_
 rintro e w2 ⟨u,rfl,hown,hb2⟩
 have hrow:=RowAt.own hown
 obtain ⟨a,c2,hu⟩:∃ a c2,u=.slice a (runesZ s).length c2:=by
  rcases hown.2 with ⟨hv,hz⟩ | ⟨g2,c2,cur,hv,_⟩
  ·exact ⟨none,0,by rw [hv,hz]⟩
  ·exact ⟨_,c2,hv⟩
 have hlow:∀ ad,a=some ad→ad.block<w2.heap.size:=by
  intro ad e
  rcases hown.2 with ⟨hv,_⟩ | ⟨g2,c3,cur,hv,_,hg2,_⟩
  ·rw [hv,e] at hu;cases hu
  ·rw [hv,e] at hu
   cases hu
   exact (Array.getElem?_eq_some_iff.1 hg2).1
 subst hu
 have ht:=tokens_any a c2 (runesZ s) w2 HFI.out hrow hlow
 have HB2:Hid (Below W.heap.size W w2):=HB.out.trans (hb2.mono HB.out.size)
 generalize runesZ s=xs at *
 clear hru hown hrow hlow hb2 HB
 go_wp2_with (go_at_call 20;fail)
 refine ht.mono ?_
 rintro e w3 ⟨out,rfl,ho,hb3⟩
 have hvl:=Y.values_any (outs_ts ho) (by rw [List.length_map];exact HNN.out)
 rw [← HVS.out] at hvl
 have HB3:Hid (Below W.heap.size W w3):=HB2.out.trans (hb3.mono HB2.out.size)
 obtain ⟨oa,on,oc,rfl⟩:=own_sl ho
 clear ht ho hb3
 go_wp2_with (go_at_call 19;fail)
 refine hvl.mono ?_
 rintro e w4 ⟨vo,rfl,hvo,hb4⟩
 have hB4:Below W.heap.size W w4:=HB3.out.trans (hb4.mono HB3.out.size)
 have hpa:=parse_any hvo (HSG.out w4 hB4) HF.out HC.out
 obtain ⟨va,vc,rfl,_,_⟩:=hvo.slice
 have HB4:=hid_mk hB4
 generalize parseZ vs=R at *
 clear hvl hvo hb4 hB4
 go_wp2_with (go_at_call 7;fail)
 refine hpa.mono ?_
 rintro e w5 hq
 cases R with
 | none =>
   obtain ⟨rfl,hb5⟩:=hq
   have HB5:Hid (Below W.heap.size W w5):=HB4.out.trans (hb5.mono HB4.out.size)
   clear hpa hb5
   go_wp2
   go_ret2
   exact ⟨rfl,HB5.out⟩
 | some l =>
   obtain ⟨u,rfl,hcl,hb5⟩:=hq
   have HB5:Hid (Below W.heap.size W w5):=HB4.out.trans (hb5.mono HB4.out.size)
   have HCL:=hid_mk hcl
   have hsl:∃ ua un uc,u=.slice ua un uc:=by
    obtain ⟨_,_,⟨a,c,e,_⟩,_⟩:=hcl.at
    exact ⟨_,_,_,e⟩
   obtain ⟨ua,un,uc,rfl⟩:=hsl
   clear hpa hb5 hcl
   go_wp2
   go_ret2
   exact ⟨_,rfl,HCL.out,HB5.out⟩
def fitD:Nat→List V→Bool
 | 0,_=>false
 | d+1,l=>decide (l.length≤100000) && l.all fun v=>decide (v.tok.tx.size+v.tok.un.size≤2000000) && fitD d v.kids
theorem fit_of:∀ (d:Nat) (l:List V),fitD d l=true→Fit l
 | 0,_,h=>by cases h
 | d+1,l,h=>by
   unfold fitD at h
   rw [Bool.and_eq_true,List.all_eq_true] at h
   refine .mk l (of_decide_eq_true h.1) (fun v hv=>?_) fun v hv=>?_
   ·have:=h.2 v hv
    rw [Bool.and_eq_true] at this
    exact of_decide_eq_true this.1
   ·have:=h.2 v hv
    rw [Bool.and_eq_true] at this
    exact fit_of d _ this.2
def exA:ByteArray:=⟨#[97,35,98,32,62,32,46,99,58,110,111,116,40,100,41]⟩
def exB:ByteArray:=⟨#[58,110,116,104,45,99,104,105,108,100,40,111,100,100,41]⟩
def exC:ByteArray:=⟨#[97,44,44,98]⟩
def ex1 (k:Int) (s:ByteArray):S6:=⟨k,s,0,⟨#[]⟩,0,0⟩
def exAC:List Cx:=[.mk [[(ex1 1 ⟨#[97]⟩,[]),(ex1 3 ⟨#[98]⟩,[])],[(ex1 2 ⟨#[99]⟩,[]),(ex1 5 ⟨#[]⟩,[.mk [[(ex1 1 ⟨#[100]⟩,[])]] []])]] [2]]
def exBC:List Cx:=[.mk [[(⟨8,⟨#[]⟩,0,⟨#[]⟩,2,1⟩,[])]] []]
theorem exA_len:decide ((toks (runesZ exA)).length≤100000)=true:=by kernel_rfl
theorem exB_len:decide ((toks (runesZ exB)).length≤100000)=true:=by kernel_rfl
theorem exC_len:decide ((toks (runesZ exC)).length≤100000)=true:=by kernel_rfl
theorem exA_fit:fitD 4 (valsS exA)=true:=by kernel_rfl
theorem exB_fit:fitD 4 (valsS exB)=true:=by kernel_rfl
theorem exC_fit:fitD 4 (valsS exC)=true:=by kernel_rfl
theorem exA_cnt:decide (cntL (valsS exA)≤500000)=true:=by kernel_rfl
theorem exB_cnt:decide (cntL (valsS exB)≤500000)=true:=by kernel_rfl
theorem exC_cnt:decide (cntL (valsS exC)≤500000)=true:=by kernel_rfl
theorem exA_parse:parseZ (valsS exA)=some exAC:=by kernel_rfl
theorem exB_parse:parseZ (valsS exB)=some exBC:=by kernel_rfl
theorem exC_parse:parseZ (valsS exC)=none:=by kernel_rfl
theorem exA_most:mostZ exAC=⟨1,1,2⟩:=by kernel_rfl
theorem exA_sz:szZ exAC=2:=by kernel_rfl
theorem text_A (W:World) (hsg:Signs W):Calls Tryz.prog 10 #[.string exA] W (TxPost W (some exAC)):=by
 rw [← exA_parse]
 exact text_any exA W hsg (by decide) (of_decide_eq_true exA_len) (fit_of _ _ exA_fit) (of_decide_eq_true exA_cnt)
theorem text_B (W:World) (hsg:Signs W):Calls Tryz.prog 10 #[.string exB] W (TxPost W (some exBC)):=by
 rw [← exB_parse]
 exact text_any exB W hsg (by decide) (of_decide_eq_true exB_len) (fit_of _ _ exB_fit) (of_decide_eq_true exB_cnt)
theorem text_C (W:World) (hsg:Signs W):Calls Tryz.prog 10 #[.string exC] W (TxPost W none):=by
 rw [← exC_parse]
 exact text_any exC W hsg (by decide) (of_decide_eq_true exC_len) (fit_of _ _ exC_fit) (of_decide_eq_true exC_cnt)
theorem lives_any (W:World) (hsg:Signs W):Calls Tryz.prog 6 #[] W fun e w'=>e=.returned (.bool true)∧Below W.heap.size W w':=by
 have hA:=text_A W hsg
 have HB0:Hid (∀ w,Below W.heap.size W w→Calls Tryz.prog 10 #[.string exB] w (TxPost w (some exBC))):=fun w h=>text_B w (hsg.keep h)
 have HC0:Hid (∀ w,Below W.heap.size W w→Calls Tryz.prog 10 #[.string exC] w (TxPost w none)):=fun w h=>text_C w (hsg.keep h)
 unfold exA at hA
 clear hsg
 go_enter Tryz.func6,Tryz.ntmps6
 go_wp2_with (go_at_call 10;fail)
 refine hA.mono ?_
 rintro e w1 ⟨u,rfl,hcl,hB1⟩
 have hb:=HB0.out w1 hB1
 unfold exB at hb
 obtain ⟨b,off,⟨a,cap,rfl,hc1,hc2,hsa⟩,hat⟩:=hcl.at
 obtain ⟨rfl,hbw⟩:=hsa (by decide)
 obtain ⟨p0,v0,bc0,oc0,bp0,op0,qv0,bq0,oq0,lv0,a0,b0,cx0⟩:=hat 0 (by decide)
 have HOF:Hid (∀ w,Below w1.heap.size w1 w→Calls Tryz.prog 11 #[.agg #[p0,v0]] w fun e w'=>e=.returned (mostZ exAC).v∧Below w.heap.size w w'):=fun w hw=>of_any (c:=exAC[0]) (cx0.keep hw) (by rw [show [exAC[0]]=exAC from rfl,exA_sz];decide)
 obtain ⟨pa0,pc0,hp0,_⟩:=cx0.ps
 obtain ⟨ca0,cc0,hv0,_⟩:=cx0.cs
 have HB1:=hid_mk hB1
 simp only [Nat.zero_mul,Nat.add_zero] at a0 b0
 rw [show exAC.length=1 from rfl] at *
 clear hA hcl hsa hat cx0 hB1 HB0
 go_wp2_with (go_at_call 10;fail)
 refine hb.mono ?_
 rintro e w2 ⟨u2,rfl,hcl2,hB2⟩
 have hB2':Below W.heap.size W w2:=HB1.out.trans (hB2.mono HB1.out.size)
 have hcc:=HC0.out w2 hB2'
 unfold exC at hcc
 have HB2:=hid_mk hB2
 have HB2':=hid_mk hB2'
 have HCL2:=hid_mk hcl2
 obtain ⟨b2,off2,⟨a2,cap2,rfl,hd1,hd2,hsa2⟩,hat2⟩:=hcl2.at
 obtain ⟨rfl,hbw2⟩:=hsa2 (by decide)
 rw [show exBC.length=1 from rfl] at *
 clear hb hcl2 hsa2 hat2 hB2 hB2' HC0
 go_wp2_with (go_at_call 10;fail)
 refine hcc.mono ?_
 rintro e w3 ⟨rfl,hB3⟩
 have hB13:Below w1.heap.size w1 w3:=HB2.out.trans (hB3.mono HB2.out.size)
 have hof:=HOF.out w3 hB13
 rw [exA_most] at hof
 unfold S3.v at hof
 have c0:=(hB13.cell (p:=⟨b,off,none⟩) hbw).trans a0
 have c1:=(hB13.cell (p:=⟨b,off+1,none⟩) hbw).trans b0
 have HB3:=hid_mk hB3
 subst hp0 hv0
 clear hcc hB3 HB1 HB2 hB13 a0 b0 HOF
 go_wp2_with (go_at_call 11;fail)
 refine hof.mono ?_
 rintro e w4 ⟨rfl,hB4⟩
 have hB24:Below w2.heap.size w2 w4:=HB3.out.trans (hB4.mono HB3.out.size)
 have HBW4:Hid (Below W.heap.size W w4):=HB2'.out.trans (hB24.mono HB2'.out.size)
 obtain ⟨b3,off3,⟨a3,cap3,he3,hd3,hd4,hsa3⟩,hat3⟩:=(HCL2.out.keep hB24).at
 obtain ⟨rfl,hbw3⟩:=hsa3 (by decide)
 obtain ⟨p1,v1,_,_,bp1,op1,qv1,bq1,oq1,lv1,a1,b1,cx1⟩:=hat3 0 (by decide)
 obtain ⟨hb3,ho3⟩:b2=b3∧off2=off3:=by
  cases he3
  exact ⟨rfl,rfl⟩
 subst hb3 ho3
 obtain ⟨pa1,pc1,rfl,hpn,hpm,hpa⟩:=cx1.ps
 obtain ⟨rfl,_⟩:=hpa (by decide)
 have q0:=cx1.pc 0 (by decide)
 obtain ⟨qa1,qc1,hq1,hqn,hqm,hqa⟩:=cx1.qs 0 (by decide)
 obtain ⟨rfl,_⟩:=hqa (by decide)
 rw [hq1] at q0
 have r4:=cx1.qc 0 (by decide) 0 (by decide) 4 _ rfl
 have r5:=cx1.qc 0 (by decide) 0 (by decide) 5 _ rfl
 simp only [Nat.zero_mul,Nat.add_zero] at a1 b1 q0 r4 r5
 have hl1:(exBC[0]'(by decide)).parts.length=1:=rfl
 have hl2:((exBC[0]'(by decide)).parts[0]'(by decide)).length=1:=rfl
 have hl4:(((exBC[0]'(by decide)).parts[0]'(by decide))[0]'(by decide)).1.a=2:=rfl
 have hl5:(((exBC[0]'(by decide)).parts[0]'(by decide))[0]'(by decide)).1.b=1:=rfl
 rw [hl1] at a1
 rw [hl2] at q0
 rw [hl4] at r4
 rw [hl5] at r5
 clear hof hB4 hB24 HB2' HB3 HCL2 hat3 hsa3 he3 cx1 hpa hqa hq1 hl1 hl2 hl4 hl5 hpn hpm hqn hqm c0 c1
 go_wp2
 go_ret
 exact ⟨rfl,HBW4.out⟩
theorem CxAt.ints {R:Value→List Cx→Prop} {W:World} {pv cv:Value} {c:Cx} {bc oc bp op:Nat} {qv:Nat→Value} {bq oq:Nat→Nat} {lv:Nat→Nat→Value} (h:CxAt R W pv cv c bc oc bp op qv bq oq lv):IsAt W cv c.combs:=⟨bc,oc,h.cs,h.cc⟩
theorem rsame_yes {W:World} {v1:Value} {l:List Cx} (h1:ClAt W v1 l):∀ v2,ClAt W v2 l→∀ w,Below W.heap.size W w→Calls Tryz.prog 9 #[v1,v2] w fun e w'=>e=.returned (.bool true)∧Below w.heap.size w w':=by
 induction h1 with
 | mk v1 l b off pv cv bc oc bp op qv bq oq lv hs hc h1 h2 h3 h4 h5 h6 hr ih =>
   intro v2 hv2 w hW
   cases hv2 with
   | mk v2 l b' off' pv' cv' bc' oc' bp' op' qv' bq' oq' lv' hs' hc' h1' h2' h3' h4' h5' h6' hr' =>
   have hk1:=fun i (hi:i<l.length)=>(⟨(h1 i hi).keep hW,fun t ht=>((h1 i hi).cell hW (by omega) _).trans (h2 i hi t ht)⟩:Sl w (cv i) (l[i]'hi).combs.length (bc i) (oc i)∧∀ t (ht:t<(l[i]'hi).combs.length),w.cell? ⟨bc i,oc i+t,none⟩=some (.int .i64 ((l[i]'hi).combs[t]'ht)))
   have hk2:=fun i (hi:i<l.length)=>(⟨(h1' i hi).keep hW,fun t ht=>((h1' i hi).cell hW (by omega) _).trans (h2' i hi t ht)⟩:Sl w (cv' i) (l[i]'hi).combs.length (bc' i) (oc' i)∧∀ t (ht:t<(l[i]'hi).combs.length),w.cell? ⟨bc' i,oc' i+t,none⟩=some (.int .i64 ((l[i]'hi).combs[t]'ht)))
   have HI:Hid (∀ w',Below w.heap.size w w'→∀ i (hi:i<l.length),Calls Tryz.prog 17 #[cv i,cv' i] w' fun e w''=>e=.returned (.bool true)∧Below w.heap.size w w''):=fun w' hw' i hi=>by
    have k1:=hk1 i hi
    have k2:=hk2 i hi
    refine (ints_yes (ks:=(l[i]'hi).combs) ⟨_,_,k1.1.keep hw',fun t ht=>(k1.1.cell hw' (by omega) _).trans (k1.2 t ht)⟩ ⟨_,_,k2.1.keep hw',fun t ht=>(k2.1.cell hw' (by omega) _).trans (k2.2 t ht)⟩).mono fun e w'' h=>⟨h.1,hw'.trans (h.2.mono hw'.size)⟩
   have HS:Hid (∀ w',Below w.heap.size w w'→∀ i (hi:i<l.length) j,j<(l[i]'hi).parts.length→Calls Tryz.prog 18 #[qv i j,qv' i j] w' fun e w''=>e=.returned (.bool true)∧Below w.heap.size w w''):=fun w' hw' i hi j hj=>by
    refine (same_yes (R1:=fun u L=>∀ v2,ClAt W v2 L→∀ w,Below W.heap.size W w→Calls Tryz.prog 9 #[u,v2] w fun e w'=>e=.returned (.bool true)∧Below w.heap.size w w') (R2:=ClAt W) (p:=(l[i]'hi).parts[j]'hj) ⟨bq i j,oq i j,h5 i hi j hj,lv i j,h6 i hi j hj,fun t ht=>⟨?_,ih i hi j hj t ht⟩⟩ ⟨bq' i j,oq' i j,h5' i hi j hj,lv' i j,h6' i hi j hj,fun t ht=>⟨?_,hr' i hi j hj t ht⟩⟩ (fun u1 u2 L a b w hw=>a u2 b w hw) w' (hW.trans (hw'.mono hW.size))).mono fun e w'' h=>⟨h.1,hw'.trans (h.2.mono hw'.size)⟩
    ·obtain ⟨_,_,⟨la,lc,e,_⟩,_⟩:=(hr i hi j hj t ht).at
     exact ⟨_,_,_,e⟩
    ·obtain ⟨_,_,⟨la,lc,e,_⟩,_⟩:=(hr' i hi j hj t ht).at
     exact ⟨_,_,_,e⟩
   have HC:Hid (∀ w',Below w.heap.size w w'→∀ i (hi:i<l.length),(w'.cell? ⟨b,off+i * 2,none⟩=some (pv i)∧w'.cell? ⟨b,off+i * 2+1,none⟩=some (cv i))∧w'.cell? ⟨b',off'+i * 2,none⟩=some (pv' i)∧w'.cell? ⟨b',off'+i * 2+1,none⟩=some (cv' i)):=fun w' hw' i hi=>by
    have hB:=hW.trans (hw'.mono hW.size)
    rw [hs.cell hB (by omega),hs.cell hB (by omega),hs'.cell hB (by omega),hs'.cell hB (by omega)]
    exact ⟨hc i hi,hc' i hi⟩
   have HP:Hid (∀ w',Below w.heap.size w w'→∀ i (hi:i<l.length) j,j<(l[i]'hi).parts.length→w'.cell? ⟨bp i,op i+j,none⟩=some (qv i j)∧w'.cell? ⟨bp' i,op' i+j,none⟩=some (qv' i j)):=fun w' hw' i hi j hj=>by
    have hB:=hW.trans (hw'.mono hW.size)
    rw [(h3 i hi).cell hB (by omega),(h3' i hi).cell hB (by omega)]
    exact ⟨h4 i hi j hj,h4' i hi j hj⟩
   have HQ:Hid (∀ i (hi:i<l.length) j (hj:j<(l[i]'hi).parts.length),(∃ a c,qv i j=.slice a ((l[i]'hi).parts[j]'hj).length c)∧∃ a c,qv' i j=.slice a ((l[i]'hi).parts[j]'hj).length c):=fun i hi j hj=>by
    obtain ⟨a,c,e,_⟩:=h5 i hi j hj
    obtain ⟨a',c',e',_⟩:=h5' i hi j hj
    exact ⟨⟨a,c,e⟩,a',c',e'⟩
   have H3:Hid (∀ i (hi:i<l.length),(∃ a c,pv i=.slice a (l[i]'hi).parts.length c∧(l[i]'hi).parts.length≤c∧c≤9223372036854775807∧(0<(l[i]'hi).parts.length→a=some ⟨bp i,op i,none⟩))∧(∃ a c,pv' i=.slice a (l[i]'hi).parts.length c∧(l[i]'hi).parts.length≤c∧c≤9223372036854775807∧(0<(l[i]'hi).parts.length→a=some ⟨bp' i,op' i,none⟩))∧(∃ a n c,cv i=.slice a n c)∧∃ a n c,cv' i=.slice a n c):=fun i hi=>by
    obtain ⟨a,c,e,q1,q2,q3⟩:=h3 i hi
    obtain ⟨a',c',e',q1',q2',q3'⟩:=h3' i hi
    obtain ⟨ca,cc,ce,_⟩:=h1 i hi
    obtain ⟨ca',cc',ce',_⟩:=h1' i hi
    exact ⟨⟨a,c,e,q1,q2,fun h=>(q3 h).1⟩,⟨a',c',e',q1',q2',fun h=>(q3' h).1⟩,⟨_,_,_,ce⟩,_,_,_,ce'⟩
   obtain ⟨a,cap,rfl,hcn,hcm,hsa⟩:=hs
   obtain ⟨a',cap',rfl,hcn',hcm',hsa'⟩:=hs'
   have HSA:Hid (0<l.length→a=some ⟨b,off,none⟩∧a'=some ⟨b',off',none⟩):=fun h=>⟨(hsa h).1,(hsa' h).1⟩
   have hln:l.length≤9223372036854775807:=by omega
   clear hc h1 h2 h3 h4 h5 h6 hr ih hsa hc' h1' h2' h3' h4' h5' h6' hr' hsa' hk1 hk2 hW
   go_enter Tryz.func9,Tryz.ntmps9
   go_wp2
   go_loopw [14] (fun a14 wq=>∃ i:Nat,i≤l.length∧a14=.int .i64 (i:Int)∧Hid (Below w.heap.size w wq)) (fun a14 _=>l.length+1 - (intOf a14).toNat)
   case atStart=>exact ⟨0,Nat.zero_le _,rfl,hid_mk (Below.refl _ _)⟩
   case round =>
    obtain ⟨i,hi,rfl,HBi⟩:=hrel
    by_cases hil:i<l.length
    ·obtain ⟨rfl,rfl⟩:=HSA.out (by omega)
     obtain ⟨⟨pa,pc,e1,hp1,hp2,hp3⟩,⟨qa,qc,e2,hq1,hq2,hq3⟩,⟨ca,cn,cc,e3⟩,da,dn,dc,e4⟩:=H3.out i hil
     have HCi:Hid (∀ w',Below w.heap.size w w'→_):=fun w' hw'=>HC.out w' hw' i hil
     have HPi:Hid (∀ w',Below w.heap.size w w'→∀ j,j<(l[i]'hil).parts.length→_):=fun w' hw' j hj=>HP.out w' hw' i hil j hj
     have HIi:Hid (∀ w',Below w.heap.size w w'→_):=fun w' hw'=>HI.out w' hw' i hil
     have HSi:Hid (∀ w',Below w.heap.size w w'→∀ j,j<(l[i]'hil).parts.length→_):=fun w' hw' j hj=>HS.out w' hw' i hil j hj
     have HQi:Hid (∀ j (hj:j<(l[i]'hil).parts.length),(∃ a n c,qv i j=.slice a n c)∧∃ a n c,qv' i j=.slice a n c):=fun j hj=>by
      obtain ⟨⟨a,c,e⟩,a',c',e'⟩:=HQ.out i hil j hj
      exact ⟨⟨_,_,_,e⟩,_,_,_,e'⟩
     rw [e1,e2,e3,e4] at HCi
     rw [e3,e4] at HIi
     generalize (l[i]'hil).parts.length=pn at *
     have HP3:=hid_mk hp3
     have HQ3:=hid_mk hq3
     have gd:Below w.heap.size w wr:=HBi.out
     have ge:Below w.heap.size w wr.drew:=HBi.out.drew
     have hpn:pn≤9223372036854775807:=by omega
     clear e1 e2 e3 e4 HC HP HI HS HQ H3 hp3 hq3 HSA
     go_upto_region 6 with (fail)
     go_region_held3 (fun w'=>(w'.cell? ⟨b,off+i * 2,none⟩=some (.slice pa pn pc)∧w'.cell? ⟨b,off+i * 2+1,none⟩=some (.slice ca cn cc))∧w'.cell? ⟨b',off'+i * 2,none⟩=some (.slice qa pn qc)∧w'.cell? ⟨b',off'+i * 2+1,none⟩=some (.slice da dn dc))
      (first | with_reducible exact HCi.out _ gd | with_reducible exact HCi.out _ ge | with_reducible exact HCi.out _ ga)
      (first
        | (go_at_call 17;with_reducible refine (HIi.out _ ge).mono ?_;rintro e wa ⟨rfl,ga⟩))
     have HBa:=hid_mk ga
     have hca:=HCi.out wa ga
     obtain ⟨⟨x0,x1⟩,x2,x3⟩:=hca
     clear gd ge ga HIi HBi
     go_wp2
     clear x0 x1 x2 x3
     go_loopw [50] (fun a50 wq=>∃ j:Nat,j≤pn∧a50=.int .i64 (j:Int)∧Hid (Below w.heap.size w wq)) (fun a50 _=>pn+1 - (intOf a50).toNat)
     case atStart=>exact ⟨0,Nat.zero_le _,rfl,HBa⟩
     case round =>
      obtain ⟨j,hj,rfl,HBj⟩:=hrel
      by_cases hjl:j<pn
      ·have e5:=HP3.out (by omega)
       have e6:=HQ3.out (by omega)
       subst e5 e6
       obtain ⟨⟨ra,rn,rc,e7⟩,sa,sn,sc,e8⟩:=HQi.out j hjl
       have HSS:Hid (∀ w',Below w.heap.size w w'→((w'.cell? ⟨b,off+i * 2,none⟩=some (.slice (some ⟨bp i,op i,none⟩) pn pc))∧w'.cell? ⟨b',off'+i * 2,none⟩=some (.slice (some ⟨bp' i,op' i,none⟩) pn qc))∧w'.cell? ⟨bp i,op i+j,none⟩=some (.slice ra rn rc)∧w'.cell? ⟨bp' i,op' i+j,none⟩=some (.slice sa sn sc)):=fun w' hw'=>by
        obtain ⟨⟨c0,_⟩,c2,_⟩:=HCi.out w' hw'
        have:=HPi.out w' hw' j hjl
        rw [e7,e8] at this
        exact ⟨⟨c0,c2⟩,this⟩
       have HSj:Hid (∀ w',Below w.heap.size w w'→_):=fun w' hw'=>HSi.out w' hw' j hjl
       rw [e7,e8] at HSj
       have gd:Below w.heap.size w wr:=HBj.out
       have ge:Below w.heap.size w wr.drew:=HBj.out.drew
       clear e7 e8 HCi HPi HSi HQi HP3 HQ3 HBa HBj
       go_upto_region 11 with (fail)
       go_region_held3 (fun w'=>((w'.cell? ⟨b,off+i * 2,none⟩=some (.slice (some ⟨bp i,op i,none⟩) pn pc))∧w'.cell? ⟨b',off'+i * 2,none⟩=some (.slice (some ⟨bp' i,op' i,none⟩) pn qc))∧w'.cell? ⟨bp i,op i+j,none⟩=some (.slice ra rn rc)∧w'.cell? ⟨bp' i,op' i+j,none⟩=some (.slice sa sn sc))
        (first | with_reducible exact HSS.out _ gd | with_reducible exact HSS.out _ ge | with_reducible exact HSS.out _ gb)
        (first
          | (go_at_call 18;with_reducible refine (HSj.out _ ge).mono ?_;rintro e wb ⟨rfl,gb⟩))
       have HBb:=hid_mk gb
       clear gd ge gb HSS HSj
       go_wp2
       exact ⟨⟨j+1,hjl,by go_num,HBb⟩,by simp only [intOf];omega⟩
      ·obtain rfl:j=pn:=by omega
       clear HCi HPi HSi HQi HP3 HQ3
       go_wp2
       exact ⟨⟨i+1,hil,by go_num,HBj⟩,by simp only [intOf];omega⟩
    ·obtain rfl:i=l.length:=by omega
     clear HC HP HI HS HQ H3 HSA
     go_wp2
     go_ret
     exact ⟨rfl,HBi.out⟩
end Go.Proofs.YtdneaeokljoijaaGreatDoor.L
