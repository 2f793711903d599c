/- gouacheref05.attr, whatever the values. -/
import Derived.Test.YtdneaeokljoijaaGreatDoorYFold
import Derived.Test.YtdneaeokljoijaaGreatDoorLCh
import Derived.Deep.CutBlock
set_option maxRecDepth 100000
set_option maxHeartbeats 8000000
namespace Go.Proofs.YtdneaeokljoijaaGreatDoor.L
open Go.RowKit
theorem rfold_any (s:ByteArray) (w:World) (hs:s.size≤1000000000000):Calls Tryz.prog 52 #[.string s] w fun e w'=>e=.returned (.string (foldS s))∧Below w.heap.size w w':=Y.refFold_any s w hs
def sgs:List ByteArray:=[⟨#[126]⟩,⟨#[124]⟩,⟨#[94]⟩,⟨#[36]⟩,⟨#[42]⟩]
def opI (s:ByteArray) (q:Bool):Nat→Int
 | 0=>0
 | i+1=>if (s.toList == (sgs.getD i ⟨#[]⟩).toList && q)=true then 2+(i:Int) else opI s q i
theorem sgs_l:(sgs.getD 0 ⟨#[]⟩).toList=[126]∧(sgs.getD 1 ⟨#[]⟩).toList=[124]∧(sgs.getD 2 ⟨#[]⟩).toList=[94]∧(sgs.getD 3 ⟨#[]⟩).toList=[36]∧(sgs.getD 4 ⟨#[]⟩).toList=[42]:=⟨by kernel_rfl,by kernel_rfl,by kernel_rfl,by kernel_rfl,by kernel_rfl⟩
theorem num1 (s:ByteArray):numZ 1 s=if (s.toList == [126])=true then 2 else if (s.toList == [124])=true then 3 else if (s.toList == [94])=true then 4 else if (s.toList == [36])=true then 5 else if (s.toList == [42])=true then 6 else 0:=by
 have e:∀ a:List UInt8,(a == s.toList)=(s.toList == a):=fun a=>by
  rw [Bool.eq_iff_iff,beq_iff_eq,beq_iff_eq]
  exact eq_comm
 unfold numZ sgn
 simp only [numL]
 simp [e]
theorem opI_5 (s:ByteArray) (q:Bool):opI s q 5=if q=true then numZ 1 s else 0:=by
 obtain ⟨h0,h1,h2,h3,h4⟩:=sgs_l
 unfold opI opI opI opI opI opI
 rw [h0,h1,h2,h3,h4,num1]
 cases q with
 | false=>simp
 | true =>
   simp only [Bool.and_true]
   generalize s.toList=l
   by_cases e0:l=[126]
   ·subst e0;rfl
   by_cases e1:l=[124]
   ·subst e1;rfl
   by_cases e2:l=[94]
   ·subst e2;rfl
   by_cases e3:l=[36]
   ·subst e3;rfl
   by_cases e4:l=[42]
   ·subst e4;rfl
   simp [e0,e1,e2,e3,e4]
theorem VC.to {w w':World} {b o:Nat} {t:T5} {k:Value} (h:VC w b o t k) (hb:w'.heap[b]? = w.heap[b]?):VC w' b o t k:=by
 obtain ⟨h0,h1,h2,h3,h4,h5⟩:=h
 exact ⟨(cell_of_heap hb).trans h0,(cell_of_heap hb).trans h1,(cell_of_heap hb).trans h2,(cell_of_heap hb).trans h3,(cell_of_heap hb).trans h4,(cell_of_heap hb).trans h5⟩
def zS (nm:ByteArray) (op:Int) (vl:ByteArray):Array Value:=#[.int .i64 4,.string nm,.int .i64 op,.string vl,.int .i64 0,.int .i64 0,.slice none 0 0]
structure Sq2 (W:World) (gS:Nat) (nm:ByteArray) (op:Int) (w:World):Prop where
 r:w.heap[W.heap.size]? = some (.cells #[.int .i64 0,.string ⟨#[]⟩,.int .i64 0,.string ⟨#[]⟩,.int .i64 0,.int .i64 0,.slice none 0 0] 46 (0,0))
 s:w.heap[gS]? = some (.cells #[.int .i64 4,.string nm,.int .i64 op,.string ⟨#[]⟩,.int .i64 0,.int .i64 0,.slice none 0 0] 46 (0,0))
 lt:W.heap.size<gS
 b:Below W.heap.size W w
theorem Sq2.to {W w w':World} {gS:Nat} {nm:ByteArray} {op:Int} (h:Sq2 W gS nm op w) (hb:Below w.heap.size w w'):Sq2 W gS nm op w' :=
 ⟨(hb.block _ (Array.getElem?_eq_some_iff.1 h.r).1).trans h.r,(hb.block _ (Array.getElem?_eq_some_iff.1 h.s).1).trans h.s,h.lt,h.b.trans (hb.mono h.b.size)⟩
theorem Sq2.set {W w:World} {gS:Nat} {nm:ByteArray} {op:Int} (h:Sq2 W gS nm op w) (o:Int):Sq2 W gS nm o (w.setCell ⟨gS,2,none⟩ (.int .i64 o)) :=
 ⟨(heap_ne (by have:=h.lt;omega)).trans h.r,by rw [set_at 2 _ _ h.s];rfl,h.lt,Below.set h.b (Nat.le_of_lt h.lt) _⟩
def opU (d:ByteArray) (us:List V):Int:=match us with
 | x::_=>if ((dlT x.tok).toList == [61])=true then numZ 1 d else 0
 | []=>0
theorem sgs_at {w:World} {g:Nat} (h:w.heap[g]? = some (.cells #[.string ⟨#[126]⟩,.string ⟨#[124]⟩,.string ⟨#[94]⟩,.string ⟨#[36]⟩,.string ⟨#[42]⟩] 9 (0,0))) {i:Nat} (hi:i<5):w.cell? ⟨g,i,none⟩=some (.string (sgs.getD i ⟨#[]⟩)):=by
 rw [cellAt h]
 have:i=0∨i=1∨i=2∨i=3∨i=4:=by omega
 rcases this with rfl | rfl | rfl | rfl | rfl <;> rfl
theorem VsAt.blk {P:Nat→Prop} {W:World} {b off n cap:Nat} {vs:List V} (h:VsAt P W (.slice (some ⟨b,off,none⟩) n cap) vs) (h0:0<vs.length):P b∧b<W.heap.size:=by
 generalize hv:Value.slice (some ⟨b,off,none⟩) n cap=v at h
 cases h with
 | mk a cap vs b' off' kv h1 h2 ha hc hr =>
   cases hv
   obtain ⟨e,h3,h4⟩:=ha h0
   cases e
   exact ⟨h4,h3⟩
theorem atX2_eq (nm:ByteArray) (u:V) (us:List V):atX2 nm (u::us)=if ((dlT u.tok).toList == [61])=true then atX3 nm 1 (trm us) else if opX u us=0 then none else atX3 nm (opX u us) (trm (us.drop 1)):=rfl
theorem rattr_any {P:Nat→Prop} {W:World} {v:Value} {vs:List V} (hv:VsAt P W v vs) (hn:vs.length≤100000) (hf:∀ x∈vs,x.tok.tx.size≤1000000000000):Calls Tryz.prog 84 #[v] W (SqPost W (attrX vs)):=by
 obtain ⟨W1,hW1⟩:∃ W1,W1=W.alloc (.cells #[.int .i64 0,.string ⟨#[]⟩,.int .i64 0,.string ⟨#[]⟩,.int .i64 0,.int .i64 0,.slice none 0 0] 46):=⟨_,rfl⟩
 have hB1:Below W.heap.size W W1:=by rw [hW1];exact (Below.refl _ _).alloc (Nat.le_refl _) _
 have x0:W1.heap[W.heap.size]? = some (.cells #[.int .i64 0,.string ⟨#[]⟩,.int .i64 0,.string ⟨#[]⟩,.int .i64 0,.int .i64 0,.slice none 0 0] 46 (0,0)):=by rw [hW1];exact heap_alloc_last W _
 cases vs with
 | nil =>
   obtain ⟨a,cap,rfl,_,_⟩:=hv.slice
   have HW1:=hid_mk hW1
   have HB1:=hid_mk hB1
   obtain ⟨⟨k0,k1,k2,k3,k4,k5,k6⟩,f0,f1,f2,f3,f4,f5,f6⟩:=cells7 x0
   clear hv hW1 hB1 x0
   rw [show attrX []=none from rfl,List.length_nil]
   go_enter Tryz.func84,Tryz.ntmps84
   go_upto_region 1 with (fail)
   rw [← HW1.out]
   go_wp2
   refine bodyPost_ret (v:=.tuple #[.agg #[.int .i64 0,.string ⟨#[]⟩,.int .i64 0,.string ⟨#[]⟩,.int .i64 0,.int .i64 0,.slice none 0 0],.bool false]) (by simp [results,Tryz.results84,go_sem,k0,k1,k2,k3,k4,k5,k6]) rfl (SqPost.no (s0:=⟨0,⟨#[]⟩,0,⟨#[]⟩,0,0⟩) (Below.set7 HB1.out (Nat.le_refl _) _ _ _ _ _ _ _))
 | cons x r =>
   obtain ⟨b,off,cap,ka,kn,kc,rfl,hc1,hc2,hcell,_,htl⟩:=(hv.wider (Q:=fun b=>b<W.heap.size) fun b _ h=>h).item
   have hx:=hf x (by simp)
   have hrn:r.length≤100000:=by simp only [List.length_cons] at hn;omega
   have hfr:∀ y∈r,y.tok.tx.size≤1000000000000:=fun y hy=>hf y (by simp [hy])
   have HA:Hid (attrX (x::r)=if (x.tok.k == 1)=true then atX2 (foldS x.tok.tx) (trm r) else none):=rfl
   obtain ⟨q0,q1,q2,q3,q4,q5⟩:=hcell W1 hB1
   have HCELL:=hid_mk hcell
   have HTL:=hid_mk htl
   have hi:=ris_any W1 x.tok ka kn kc 1
   unfold vAg at hi
   generalize attrX (x::r)=R at *
   generalize x.tok=t at *
   clear hf hn
   obtain ⟨tk,tx,un,wh,fl⟩:=t
   dsimp only at *
   have HW1:=hid_mk hW1
   have HB1:=hid_mk hB1
   have HX0:=hid_mk x0
   clear hv hcell htl hW1 hB1 x0
   go_enter Tryz.func84,Tryz.ntmps84
   go_upto_region 1 with (fail)
   rw [← HW1.out]
   clear HW1
   go_wp2_with (go_at_call 29;fail)
   refine hi.mono ?_
   rintro e w2 ⟨rfl,hb2⟩
   have x2:=(hb2.block _ (Array.getElem?_eq_some_iff.1 HX0.out).1).trans HX0.out
   have hB2:Below W.heap.size W w2:=HB1.out.trans (hb2.mono HB1.out.size)
   clear hi HX0 q0 q1 q2 q3 q4 q5
   cases hk:(tk == 1) with
   | false =>
     have HE:Hid (R=none):=by rw [Hid,HA.out,hk];rfl
     obtain ⟨⟨k0,k1,k2,k3,k4,k5,k6⟩,f0,f1,f2,f3,f4,f5,f6⟩:=cells7 x2
     have HB:=hid_mk hB2
     clear x2 hB2 hb2 HA HCELL HTL hk HB1
     go_wp2
     rw [HE.out]
     refine bodyPost_ret (v:=.tuple #[.agg #[.int .i64 0,.string ⟨#[]⟩,.int .i64 0,.string ⟨#[]⟩,.int .i64 0,.int .i64 0,.slice none 0 0],.bool false]) (by simp [results,Tryz.results84,go_sem,k0,k1,k2,k3,k4,k5,k6]) rfl (SqPost.no (s0:=⟨0,⟨#[]⟩,0,⟨#[]⟩,0,0⟩) (Below.set7 HB.out (Nat.le_refl _) _ _ _ _ _ _ _))
   | true =>
     have HE:Hid (R=atX2 (foldS tx) (trm r)):=by rw [Hid,HA.out,hk];rfl
     obtain ⟨q0,q1,q2,q3,q4,q5⟩:=HCELL.out w2 hB2
     have hfo:=rfold_any tx w2 hx
     have HX2:=hid_mk x2
     have HB2:=hid_mk hB2
     clear x2 hB2 hb2 HA HCELL hk HB1
     go_wp2_with (go_at_call 52;fail)
     refine hfo.mono ?_
     rintro e w3 ⟨rfl,hb3⟩
     generalize foldS tx=nm at *
     obtain ⟨w4,hw4⟩:∃ w4,w4=w3.alloc (.cells #[.int .i64 4,.string nm,.int .i64 0,.string ⟨#[]⟩,.int .i64 0,.int .i64 0,.slice none 0 0] 46):=⟨_,rfl⟩
     have hb34:Below w3.heap.size w3 w4:=by rw [hw4];exact (Below.refl _ _).alloc (Nat.le_refl _) _
     have hb24:Below w2.heap.size w2 w4:=hb3.trans (hb34.mono hb3.size)
     have hl2:W.heap.size<w2.heap.size:=(Array.getElem?_eq_some_iff.1 HX2.out).1
     have S4:Sq2 W w3.heap.size nm 0 w4:=⟨(hb24.block _ hl2).trans HX2.out,by rw [hw4];exact heap_alloc_last w3 _,Nat.lt_of_lt_of_le hl2 hb3.size,HB2.out.trans (hb24.mono HB2.out.size)⟩
     have HTR:Hid (∀ v',VsAt (fun b=>b<W.heap.size) W v' r→Calls Tryz.prog 16 #[v'] w4 fun e w'=>∃ a n c,e=.returned (.slice a n c)∧VsAt (fun b=>b<W.heap.size∨w4.heap.size≤b) w' (.slice a n c) (trm r)∧n=(trm r).length∧n≤c∧c≤9223372036854775807∧Below w4.heap.size w4 w'):=fun v' h=>trim_any (h.keep S4.b) hrn
     have HS4:=hid_mk S4
     have HW4:=hid_mk hw4
     have hgS:w3.heap.size<w4.heap.size:=(Array.getElem?_eq_some_iff.1 S4.s).1
     clear hfo hb3 hb34 hb24 S4 hw4 HX2 HB2 q0 q1 q2 q3 q4 q5
     go_upto_region 4 with (fail)
     rw [← HW4.out]
     clear HW4
     go_cut [0] (fun a0 wx=>∃ la ln lc,a0=.slice la ln lc∧Hid (ln=(trm r).length)∧ln≤lc∧lc≤9223372036854775807∧Hid (VsAt (fun b=>b<W.heap.size∨w4.heap.size≤b) wx (.slice la ln lc) (trm r))∧Hid (Sq2 W w3.heap.size nm 0 wx))
     case first =>
      go_wp2_with (go_at_call 16;fail)
      all_goals
       first
        | with_reducible refine (HTR.out (.slice (some ⟨b,off+6,none⟩) r.length (cap - 1)) (HTL.out _ _ _ rfl rfl fun _=>rfl)).mono ?_
        | with_reducible refine (HTR.out (.slice (some ⟨b,off,none⟩) r.length 0) (HTL.out _ _ _ rfl (by omega) fun h=>by omega)).mono ?_
       rintro e w5 ⟨la,ln,lc,rfl,hvl,hln,hl1,hl2',hb5⟩
       have HV5:=hid_mk hvl
       have HS5:=hid_mk (HS4.out.to hb5)
       have HLN:=hid_mk hln
       clear hvl hb5 HTR HTL HS4 hln
       go_wp2
       go_meet
       exact ⟨la,ln,lc,rfl,HLN,hl1,hl2',HV5,HS5⟩
     case rest =>
     obtain ⟨la,ln,lc,rfl,HLN,hl1,hl2',HV5,HS5⟩:=hcut
     have htm:=trm_len r
     have hfm:∀ y∈trm r,y.tok.tx.size≤1000000000000:=fun y hy=>hfr y (trm_mem r y hy)
     obtain ⟨P',hP'⟩:∃ P':Nat→Prop,P'=fun b=>b<W.heap.size∨w4.heap.size≤b:=⟨_,rfl⟩
     rw [← hP'] at HV5
     have HPN:Hid (¬ P' w3.heap.size):=by
      rw [Hid,hP']
      have:=HS5.out.lt
      simp only []
      omega
     generalize trm r=m at *
     generalize w3.heap.size=gS at *
     clear HTR HTL HS4 hP' hfr hx hl2
     cases m with
     | nil =>
       have hln:=HLN.out
       rw [List.length_nil] at hln
       subst hln
       have HE2:Hid (R=some ⟨4,nm,0,⟨#[]⟩,0,0⟩):=HE.out
       obtain ⟨⟨k0,k1,k2,k3,k4,k5,k6⟩,f0,f1,f2,f3,f4,f5,f6⟩:=cells7 HS5.out.r
       obtain ⟨⟨j0,j1,j2,j3,j4,j5,j6⟩,_⟩:=cells7 HS5.out.s
       have HB:=hid_mk HS5.out.b
       have hne:gS≠W.heap.size:=by have:=HS5.out.lt;omega
       clear HLN HV5 HS5 HE hfm
       go_wp2
       rw [HE2.out]
       refine bodyPost_ret (v:=.tuple #[.agg #[.int .i64 4,.string nm,.int .i64 0,.string ⟨#[]⟩,.int .i64 0,.int .i64 0,.slice none 0 0],.bool true]) (by simp [results,Tryz.results84,go_sem,k0,k1,k2,k3,k4,k5,k6]) rfl (SqPost.yes (s:=⟨4,nm,0,⟨#[]⟩,0,0⟩) (Below.set7 HB.out (Nat.le_refl _) _ _ _ _ _ _ _))
     | cons u us =>
     obtain ⟨mb,mo,mc,na,nn,nc,e1,hm1,hm2,hmc,_,hmt⟩:=HV5.out.item
     injection e1 with ea en ec
     subst ea ec
     have HLN2:=hid_mk en
     have h0n:0<ln:=by omega
     clear en
     have hmn:us.length+1≤100000:=by simp only [List.length_cons] at htm;omega
     have hd:=rdelim_any wc u.tok na nn nc
     unfold vAg at hd
     obtain ⟨q0,q1,q2,q3,q4,q5⟩:=hmc wc (Below.refl _ _)
     have HMC:=hid_mk hmc
     have HMT:=hid_mk hmt
     have HE2:Hid (R=if ((dlT u.tok).toList == [61])=true then atX3 nm 1 (trm us) else if opU (dlT u.tok) us=0 then none else atX3 nm (opU (dlT u.tok) us) (trm (us.drop 1))):=HE.out
     have hfu:∀ y∈us,y.tok.tx.size≤1000000000000:=fun y hy=>hfm y (by simp [hy])
     have HFU:=hid_mk hfu
     generalize hut:u.tok=t at *
     clear hmc hmt HE hfm hfu HLN htm
     obtain ⟨uk,utx,uun,uwh,ufl⟩:=t
     dsimp only at q0 q1 q2 q3 q4 q5 hd
     go_wp2_with (go_at_call 32;fail)
     refine hd.mono ?_
     rintro e w6 ⟨rfl,hb6⟩
     have S6:=HS5.out.to hb6
     have HS6:=hid_mk S6
     have HB6:=hid_mk hb6
     generalize hDD:dlT ⟨uk,utx,uun,uwh,ufl⟩=D at *
     have HDD:=hid_mk hDD
     clear hDD
     clear hd hb6 q0 q1 q2 q3 q4 q5 S6
     go_upto_if 36 with (fail)
     go_cut [0] (fun a0 wx=>∃ (op:Int) (l2:List V) (pa:Option Addr) (pn pc:Nat),a0=.slice pa pn pc∧op≠0∧Hid (R=atX3 nm op (trm l2))∧Hid (l2.length≤100000∧∀ y∈l2,y.tok.tx.size≤1000000000000)∧Hid (VsAt P' wx (.slice pa pn pc) l2)∧Hid (Sq2 W gS nm op wx))
     case first =>
      cases h1:(D.toList == [61]) with
      | true =>
        have HE3:Hid (R=atX3 nm 1 (trm us)):=by rw [Hid,HE2.out,h1];rfl
        obtain ⟨⟨j0,j1,j2,j3,j4,j5,j6⟩,_,_,f2,_⟩:=cells7 HS6.out.s
        have HS7:Hid (Sq2 W gS nm 1 (w6.setCell ⟨gS,2,none⟩ (.int .i64 1))):=HS6.out.set 1
        have HV7:Hid (∀ a' n' c',n'=us.length→c'=lc - 1→(0<us.length→a'=some ⟨mb,mo+6,none⟩)→VsAt P' (w6.setCell ⟨gS,2,none⟩ (.int .i64 1)) (.slice a' n' c') us):=fun a' n' c' h1 h2 h3=>((HMT.out a' n' c' h1 h2 h3).keep HB6.out).stay (by simp) fun b hb _=>heap_ne (fun e=>HPN.out (by rw [← e];exact hb))
        have HFZ:Hid (us.length≤100000∧∀ y∈us,y.tok.tx.size≤1000000000000):=⟨by omega,HFU.out⟩
        clear HE2 HMC HMT HS6 HB6 HFU HPN HS5 HV5
        go_wp2
        all_goals go_meet
        ·exact ⟨1,us,_,_,_,rfl,by decide,HE3,HFZ,HV7.out _ _ _ (by have:=HLN2.out;omega) (by omega) (fun h=>by have:=HLN2.out;omega),HS7⟩
        ·exact ⟨1,us,_,_,_,rfl,by decide,HE3,HFZ,HV7.out _ _ _ (by have:=HLN2.out;omega) (by omega) (fun h=>rfl),HS7⟩
      | false =>
        have HE3:Hid (R=if opU D us=0 then none else atX3 nm (opU D us) (trm (us.drop 1))):=by rw [Hid,HE2.out,h1];rfl
        obtain ⟨w7,hw7⟩:∃ w7,w7=w6.alloc (.cells #[.string ⟨#[126]⟩,.string ⟨#[124]⟩,.string ⟨#[94]⟩,.string ⟨#[36]⟩,.string ⟨#[42]⟩] 9):=⟨_,rfl⟩
        have hb7:Below w6.heap.size w6 w7:=by rw [hw7];exact (Below.refl _ _).alloc (Nat.le_refl _) _
        have hx7:w7.heap[w6.heap.size]? = some (.cells #[.string ⟨#[126]⟩,.string ⟨#[124]⟩,.string ⟨#[94]⟩,.string ⟨#[36]⟩,.string ⟨#[42]⟩] 9 (0,0)):=by rw [hw7];exact heap_alloc_last w6 _
        have hgL:gS≠w6.heap.size:=by have:=(Array.getElem?_eq_some_iff.1 HS6.out.s).1;omega
        have hl7:w6.heap.size<w7.heap.size:=(Array.getElem?_eq_some_iff.1 hx7).1
        have HS7:=hid_mk (HS6.out.to hb7)
        have HBC7:Hid (Below wc.heap.size wc w7):=HB6.out.trans (hb7.mono HB6.out.size)
        have HSG:Hid (∀ w,KeepX gS w7 w→∀ i,i<5→w.cell? ⟨w6.heap.size,i,none⟩=some (.string (sgs.getD i ⟨#[]⟩))):=fun w hk i hi=>sgs_at ((hk.block _ hl7 (Ne.symm hgL)).trans hx7) hi
        have HSK:Hid (∀ w op,KeepX gS w7 w→w.heap[gS]? = some (.cells #[.int .i64 4,.string nm,.int .i64 op,.string ⟨#[]⟩,.int .i64 0,.int .i64 0,.slice none 0 0] 46 (0,0))→Sq2 W gS nm op w):=fun w op hk hs=>⟨(hk.block _ (Array.getElem?_eq_some_iff.1 HS7.out.r).1 (by have:=HS7.out.lt;omega)).trans HS7.out.r,hs,HS7.out.lt,HS7.out.b.trans (hk.below (Nat.le_of_lt HS7.out.lt) HS7.out.b.size)⟩
        have HW7:=hid_mk hw7
        clear HE2 HS6 HB6 hb7 hx7 hl7 hw7 HS5
        cases us with
        | nil =>
          have HE4:Hid (R=none):=HE3.out
          have hlen:decide ((1:Int)<(ln:Int))=false:=decide_eq_false (by have:=HLN2.out;rw [List.length_nil] at this;omega)
          clear HE3 HMC HMT HFU HV5 HPN HLN2 hm1
          go_upto_block 0 with fail
          rw [← HW7.out]
          go_wp2
          go_loopw [42] (fun a42 wq=>∃ i:Nat,i≤5∧a42=.int .i64 (i:Int)∧Hid (Sq2 W gS nm 0 wq)∧Hid (KeepX gS w7 wq)) (fun a42 _=>6 - (intOf a42).toNat)
          case atStart=>exact ⟨0,by omega,rfl,HS7,KeepX.of (Below.refl _ _)⟩
          case round =>
           obtain ⟨i,hi,rfl,HSi,HKi⟩:=hrel
           by_cases hi5:i<5
           ·have qs:=HSG.out wr HKi.out i hi5
            generalize sgs.getD i ⟨#[]⟩=sg at *
            clear HSG HSK
            go_wp2
            exact ⟨⟨i+1,by omega,by go_num,HSi,HKi⟩,by simp only [intOf];omega⟩
           ·obtain rfl:i=5:=by omega
            obtain ⟨⟨k0,k1,k2,k3,k4,k5,k6⟩,f0,f1,f2,f3,f4,f5,f6⟩:=cells7 HSi.out.r
            obtain ⟨⟨j0,j1,j2,j3,j4,j5,j6⟩,_⟩:=cells7 HSi.out.s
            have HB:=hid_mk HSi.out.b
            clear HSG HSK HSi HKi HS7
            go_wp2
            rw [HE4.out]
            refine bodyPost_ret (v:=.tuple #[.agg #[.int .i64 0,.string ⟨#[]⟩,.int .i64 0,.string ⟨#[]⟩,.int .i64 0,.int .i64 0,.slice none 0 0],.bool false]) (by simp [results,Tryz.results84,go_sem,k0,k1,k2,k3,k4,k5,k6]) rfl (SqPost.no (s0:=⟨0,⟨#[]⟩,0,⟨#[]⟩,0,0⟩) (Below.set7 HB.out (Nat.le_refl _) _ _ _ _ _ _ _))
        | cons y ys =>
          obtain ⟨b2,o2,cap2,ka2,kn2,kc2,ya,yn,yc,e2,hcp1,hcp2,hv2,_,_,ht2,_⟩:=HV5.out.item2
          injection e2 with ea2 en2 ec2
          cases ea2
          subst ec2
          have h2n:2≤ln:=by omega
          have HLN3:=hid_mk en2
          clear en2
          obtain ⟨hPb,hbl⟩:=HV5.out.blk (by simp)
          have hbne:mb≠gS:=fun e=>HPN.out (by rw [← e];exact hPb)
          have HVY:Hid (∀ w,KeepX gS w7 w→VC w mb mo ⟨uk,utx,uun,uwh,ufl⟩ (.slice na nn nc)∧VC w mb (mo+6) y.tok (.slice ya yn yc)):=fun w hk=>by
           have hlt:mb<w7.heap.size:=Nat.lt_of_lt_of_le hbl HBC7.out.size
           have e:=hk.block mb hlt hbne
           exact ⟨(HMC.out w7 HBC7.out).to e,((hv2 w7 HBC7.out).2).to e⟩
          have HT2:Hid (∀ w,KeepX gS w7 w→∀ a' n' c',n'=ys.length→c'=lc - 2→(0<ys.length→a'=some ⟨mb,mo+12,none⟩)→VsAt P' w (.slice a' n' c') ys):=fun w hk a' n' c' h1 h2 h3=>((ht2 a' n' c' h1 h2 h3).keep HBC7.out).stay hk.size fun b hb hlt=>hk.block b hlt (fun e=>HPN.out (by rw [← e];exact hb))
          have HFZ:Hid (ys.length≤100000∧∀ z∈ys,z.tok.tx.size≤1000000000000):=⟨by simp only [List.length_cons] at hmn;omega,fun z hz=>HFU.out z (by simp [hz])⟩
          obtain ⟨q,hq⟩:∃ q,q=((dlT y.tok).toList == [61]):=⟨_,rfl⟩
          have HE4:Hid (R=if opI D q 5=0 then none else atX3 nm (opI D q 5) (trm ys)):=by
           rw [Hid,HE3.out,opI_5,hq]
           rfl
          have HQ:=hid_mk hq
          generalize y.tok=yt at *
          obtain ⟨yk,ytx,yun,ywh,yfl⟩:=yt
          have HOP0:Hid (opI D q 0=0):=rfl
          have HOPS:Hid (∀ i,opI D q (i+1)=if (D.toList == (sgs.getD i ⟨#[]⟩).toList && q)=true then 2+(i:Int) else opI D q i):=fun i=>rfl
          have HOPB:Hid (∀ i:Nat,i≤5→0≤opI D q i∧opI D q i≤7):=fun i hi=>by
           have:i=0∨i=1∨i=2∨i=3∨i=4∨i=5:=by omega
           rcases this with rfl | rfl | rfl | rfl | rfl | rfl <;> (unfold opI;repeat' split) <;> (try (unfold opI;repeat' split)) <;> (try (unfold opI;repeat' split)) <;> (try (unfold opI;repeat' split)) <;> (try (unfold opI;repeat' split)) <;> (try (unfold opI)) <;> omega
          generalize opI D q=O at *
          have HS70:Hid (w7.heap[gS]? = some (.cells #[.int .i64 4,.string nm,.int .i64 (O 0),.string ⟨#[]⟩,.int .i64 0,.int .i64 0,.slice none 0 0] 46 (0,0))):=by rw [Hid,HOP0.out];exact HS7.out.s
          have hlen:decide ((1:Int)<(ln:Int))=true:=decide_eq_true (by omega)
          clear hq HE3 HMC HMT HFU HV5 hv2 ht2 hPb hbl HOP0 HLN2 hm1 hcp1
          go_upto_block 0 with fail
          rw [← HW7.out]
          clear HW7
          go_wp2
          go_loopw [42] (fun a42 wq=>∃ i:Nat,i≤5∧a42=.int .i64 (i:Int)∧Hid (wq.heap[gS]? = some (.cells #[.int .i64 4,.string nm,.int .i64 (O i),.string ⟨#[]⟩,.int .i64 0,.int .i64 0,.slice none 0 0] 46 (0,0)))∧Hid (KeepX gS w7 wq)) (fun a42 _=>6 - (intOf a42).toNat)
          case atStart=>exact ⟨0,by omega,rfl,HS70,KeepX.of (Below.refl _ _)⟩
          case round =>
           obtain ⟨i,hi,rfl,HSi,HKi⟩:=hrel
           by_cases hi5:i<5
           ·have qs:=HSG.out wr HKi.out i hi5
            obtain ⟨⟨p0,p1,p2,p3,p4,p5⟩,⟨r0,r1,r2,r3,r4,r5⟩⟩:=HVY.out wr HKi.out
            have hdu:=rdelim_any wr ⟨uk,utx,uun,uwh,ufl⟩ na nn nc
            rw [HDD.out] at hdu
            unfold vAg at hdu
            have HST:=hid_mk (HOPS.out i)
            generalize sgs.getD i ⟨#[]⟩=sg at *
            dsimp only at hdu p0 p1 p2 p3 p4 p5 r0 r1 r2 r3 r4 r5
            clear HSG HSK HOPS HOPB
            go_wp2_with (go_at_call 32;fail)
            refine hdu.mono ?_
            rintro e wa ⟨rfl,hba⟩
            have HKa:Hid (KeepX gS w7 wa):=HKi.out.trans (KeepX.of hba)
            have HSa:Hid (wa.heap[gS]? = _):=(hba.block _ (Array.getElem?_eq_some_iff.1 HSi.out).1).trans HSi.out
            clear hdu hba p0 p1 p2 p3 p4 p5 r0 r1 r2 r3 r4 r5 qs
            cases hs:(D.toList == sg.toList) with
            | false =>
              have HOS:Hid (O (i+1)=O i):=by rw [Hid,HST.out,hs];rfl
              have HSb:Hid (wa.heap[gS]? = some (.cells #[.int .i64 4,.string nm,.int .i64 (O (i+1)),.string ⟨#[]⟩,.int .i64 0,.int .i64 0,.slice none 0 0] 46 (0,0))):=by rw [Hid,HOS.out];exact HSa.out
              clear HST HOS HVY
              go_wp2
              exact ⟨⟨i+1,by omega,by go_num,HSb,HKa⟩,by simp only [intOf];omega⟩
            | true =>
              obtain ⟨_,⟨r0,r1,r2,r3,r4,r5⟩⟩:=HVY.out wa HKa.out
              have hdy:=rdelim_any wa ⟨yk,ytx,yun,ywh,yfl⟩ ya yn yc
              have hqq:=HQ.out
              generalize dlT ⟨yk,ytx,yun,ywh,yfl⟩=E at *
              unfold vAg at hdy
              dsimp only at hdy r0 r1 r2 r3 r4 r5
              clear HVY
              go_wp2_with (go_at_call 32;fail)
              refine hdy.mono ?_
              rintro e wb ⟨rfl,hbb⟩
              have HKb:Hid (KeepX gS w7 wb):=HKa.out.trans (KeepX.of hbb)
              have HSb:Hid (wb.heap[gS]? = some (.cells #[.int .i64 4,.string nm,.int .i64 (O i),.string ⟨#[]⟩,.int .i64 0,.int .i64 0,.slice none 0 0] 46 (0,0))):=(hbb.block _ (Array.getElem?_eq_some_iff.1 HSa.out).1).trans HSa.out
              clear hdy hbb r0 r1 r2 r3 r4 r5 HSa HKa
              cases q with
              | false =>
                have h61:(E.toList == [61])=false:=hqq.symm
                have HOS:Hid (O (i+1)=O i):=by rw [Hid,HST.out,hs];rfl
                have HSc:Hid (wb.heap[gS]? = some (.cells #[.int .i64 4,.string nm,.int .i64 (O (i+1)),.string ⟨#[]⟩,.int .i64 0,.int .i64 0,.slice none 0 0] 46 (0,0))):=by rw [Hid,HOS.out];exact HSb.out
                clear HST HOS hqq
                go_wp2
                exact ⟨⟨i+1,by omega,by go_num,HSc,HKb⟩,by simp only [intOf];omega⟩
              | true =>
                have h61:(E.toList == [61])=true:=hqq.symm
                have HOS:Hid (O (i+1)=2+(i:Int)):=by rw [Hid,HST.out,hs];rfl
                obtain ⟨⟨j0,j1,j2,j3,j4,j5,j6⟩,_,_,f2,_⟩:=cells7 HSb.out
                have HSc:Hid ((wb.setCell ⟨gS,2,none⟩ (.int .i64 (2+(i:Int)))).heap[gS]? = some (.cells #[.int .i64 4,.string nm,.int .i64 (O (i+1)),.string ⟨#[]⟩,.int .i64 0,.int .i64 0,.slice none 0 0] 46 (0,0))):=by
                 rw [Hid,HOS.out,set_at 2 _ _ HSb.out]
                 rfl
                have HKc:Hid (KeepX gS w7 (wb.setCell ⟨gS,2,none⟩ (.int .i64 (2+(i:Int))))):=HKb.out.trans ⟨rfl,rfl,rfl,by simp,fun k _ hk=>heap_ne hk⟩
                clear HST HOS hqq HKb HSb
                go_wp2
                exact ⟨⟨i+1,by omega,by go_num,HSc,HKc⟩,by simp only [intOf];omega⟩
           ·obtain rfl:i=5:=by omega
            have hSq:=HSK.out wr _ HKi.out HSi.out
            obtain ⟨⟨j0,j1,j2,j3,j4,j5,j6⟩,_⟩:=cells7 hSq.s
            have hOb:=HOPB.out 5 (Nat.le_refl _)
            generalize O 5=op at *
            by_cases hop:op=0
            ·subst hop
             have HE5:Hid (R=none):=by rw [Hid,HE4.out,if_pos rfl]
             obtain ⟨⟨k0,k1,k2,k3,k4,k5,k6⟩,f0,f1,f2,f3,f4,f5,f6⟩:=cells7 hSq.r
             have HB:=hid_mk hSq.b
             clear HSG HSK HSi HKi HS7 HVY HT2 HOPS HOPB hSq HE4
             go_wp2
             rw [HE5.out]
             refine bodyPost_ret (v:=.tuple #[.agg #[.int .i64 0,.string ⟨#[]⟩,.int .i64 0,.string ⟨#[]⟩,.int .i64 0,.int .i64 0,.slice none 0 0],.bool false]) (by simp [results,Tryz.results84,go_sem,k0,k1,k2,k3,k4,k5,k6]) rfl (SqPost.no (s0:=⟨0,⟨#[]⟩,0,⟨#[]⟩,0,0⟩) (Below.set7 HB.out (Nat.le_refl _) _ _ _ _ _ _ _))
            ·have HE5:Hid (R=atX3 nm op (trm ys)):=by rw [Hid,HE4.out,if_neg hop]
             have hop0:(op == 0)=false:=by simpa using hop
             have HSQ:=hid_mk hSq
             have HT3:Hid (∀ a' n' c',n'=ys.length→c'=lc - 2→(0<ys.length→a'=some ⟨mb,mo+12,none⟩)→VsAt P' wr (.slice a' n' c') ys):=HT2.out wr HKi.out
             clear HSG HSK HSi HKi HS7 HVY HT2 HOPS HOPB hSq HE4
             go_wp2
             all_goals go_meet
             ·exact ⟨op,ys,_,_,_,rfl,hop,HE5,HFZ,HT3.out _ _ _ (by have:=HLN3.out;omega) (by omega) (fun h=>by have:=HLN3.out;omega),HSQ⟩
             ·exact ⟨op,ys,_,_,_,rfl,hop,HE5,HFZ,HT3.out _ _ _ (by have:=HLN3.out;omega) (by omega) (fun h=>rfl),HSQ⟩
     case rest =>
     obtain ⟨op,l2,pa,pn,pc,rfl,hop,HE5,HFZ,HVl,HSq⟩:=hcut
     have htr:=trim_any HVl.out HFZ.out.1
     have hfz:∀ y∈trm l2,y.tok.tx.size≤1000000000000:=fun y hy=>HFZ.out.2 y (trm_mem l2 y hy)
     generalize trm l2=m2 at *
     clear HE2 HMC HMT HS6 HB6 HFU HPN HS5 HV5 HFZ HVl
     go_wp2_with (go_at_call 16;fail)
     refine htr.mono ?_
     rintro e w8 ⟨ra,rn,rc,rfl,hv8,hn8,hc8,hc8',hb8⟩
     have HS8:=hid_mk (HSq.out.to hb8)
     clear htr hb8 HSq
     cases m2 with
     | nil =>
       rw [List.length_nil] at hn8
       subst hn8
       have HE6:Hid (R=none):=HE5.out
       obtain ⟨⟨k0,k1,k2,k3,k4,k5,k6⟩,f0,f1,f2,f3,f4,f5,f6⟩:=cells7 HS8.out.r
       have HB:=hid_mk HS8.out.b
       clear HE5 hv8 HS8 hfz
       go_wp2
       rw [HE6.out]
       refine bodyPost_ret (v:=.tuple #[.agg #[.int .i64 0,.string ⟨#[]⟩,.int .i64 0,.string ⟨#[]⟩,.int .i64 0,.int .i64 0,.slice none 0 0],.bool false]) (by simp [results,Tryz.results84,go_sem,k0,k1,k2,k3,k4,k5,k6]) rfl (SqPost.no (s0:=⟨0,⟨#[]⟩,0,⟨#[]⟩,0,0⟩) (Below.set7 HB.out (Nat.le_refl _) _ _ _ _ _ _ _))
     | cons x m3 =>
       cases m3 with
       | nil =>
         obtain ⟨xb,xo,xcp,xa,xn,xc,e8,hx1,hx2,hxc,_,_⟩:=hv8.item
         injection e8 with ea8 en8 ec8
         subst ea8 ec8
         rw [List.length_nil] at en8
         subst en8
         have HE6:Hid (R=if (x.tok.k == 1 || x.tok.k == 5)=true then some ⟨4,nm,op,x.tok.tx,0,0⟩ else none):=HE5.out
         have HXC:=hid_mk hxc
         obtain ⟨p0,p1,p2,p3,p4,p5⟩:=hxc w8 (Below.refl _ _)
         generalize x.tok=xt at *
         obtain ⟨xk,xtx,xun,xwh,xfl⟩:=xt
         have hi1:=ris_any w8 ⟨xk,xtx,xun,xwh,xfl⟩ xa xn xc 1
         unfold vAg at hi1
         dsimp only at hi1 p0 p1 p2 p3 p4 p5
         dsimp only at HE6
         clear HE5 hv8 hxc hfz hn8
         go_wp2_with (go_at_call 29;fail)
         refine hi1.mono ?_
         rintro e w9 ⟨rfl,hb9⟩
         have HS9:=hid_mk (HS8.out.to hb9)
         have HB9:=hid_mk hb9
         clear hi1 hb9 p0 p1 p2 p3 p4 p5 HS8
         cases hk1:(xk == 1) with
         | true =>
           have hk5:(xk == 5)=false:=by
            have:xk=1:=by simpa using hk1
            rw [this];rfl
           have HE7:Hid (R=some ⟨4,nm,op,xtx,0,0⟩):=by rw [Hid,HE6.out];simp [hk1,hk5]
           obtain ⟨p0,p1,p2,p3,p4,p5⟩:=HXC.out w9 HB9.out
           obtain ⟨⟨j0,j1,j2,j3,j4,j5,j6⟩,g0,g1,g2,g3,g4,g5,g6⟩:=cells7 HS9.out.s
           obtain ⟨wz,hwz⟩:∃ wz,wz=w9.setCell ⟨gS,3,none⟩ (.string xtx):=⟨_,rfl⟩
           have sz:wz.heap[gS]? = some (.cells #[.int .i64 4,.string nm,.int .i64 op,.string xtx,.int .i64 0,.int .i64 0,.slice none 0 0] 46 (0,0)):=by rw [hwz,set_at 3 _ _ HS9.out.s];rfl
           have rz:wz.heap[W.heap.size]? = some (.cells #[.int .i64 0,.string ⟨#[]⟩,.int .i64 0,.string ⟨#[]⟩,.int .i64 0,.int .i64 0,.slice none 0 0] 46 (0,0)):=by rw [hwz];exact (heap_ne (by have:=HS9.out.lt;omega)).trans HS9.out.r
           have HBz:Hid (Below W.heap.size W wz):=by rw [Hid,hwz];exact Below.set HS9.out.b (Nat.le_of_lt HS9.out.lt) _
           have HWZ:=hid_mk hwz
           have HSZ:=hid_mk sz
           have HRZ:=hid_mk rz
           dsimp only at p0 p1 p2 p3 p4 p5
           clear HE6 HXC hwz sz rz HS9 HB9
           go_upto_region 23 with (fail)
           rw [← HWZ.out]
           clear HWZ p0 p1 p2 p3 p4 p5 j0 j1 j2 j3 j4 j5 j6 g0 g1 g2 g3 g4 g5 g6
           obtain ⟨⟨k0,k1,k2,k3,k4,k5,k6⟩,f0,f1,f2,f3,f4,f5,f6⟩:=cells7 HRZ.out
           obtain ⟨⟨j0,j1,j2,j3,j4,j5,j6⟩,_⟩:=cells7 HSZ.out
           go_wp2
           rw [HE7.out]
           refine bodyPost_ret (v:=.tuple #[.agg #[.int .i64 4,.string nm,.int .i64 op,.string xtx,.int .i64 0,.int .i64 0,.slice none 0 0],.bool true]) (by simp [results,Tryz.results84,go_sem,k0,k1,k2,k3,k4,k5,k6]) rfl (SqPost.yes (s:=⟨4,nm,op,xtx,0,0⟩) (Below.set7 HBz.out (Nat.le_refl _) _ _ _ _ _ _ _))
         | false =>
           obtain ⟨p0,p1,p2,p3,p4,p5⟩:=HXC.out w9 HB9.out
           have hi5:=ris_any w9 ⟨xk,xtx,xun,xwh,xfl⟩ xa xn xc 5
           unfold vAg at hi5
           dsimp only at hi5 p0 p1 p2 p3 p4 p5
           go_wp2_with (go_at_call 29;fail)
           refine hi5.mono ?_
           rintro e w10 ⟨rfl,hb10⟩
           have HS10:=hid_mk (HS9.out.to hb10)
           have HB10:=hid_mk (HB9.out.trans (hb10.mono HB9.out.size))
           clear hi5 hb10 p0 p1 p2 p3 p4 p5 HS9 HB9
           cases hk5:(xk == 5) with
           | true =>
             have HE7:Hid (R=some ⟨4,nm,op,xtx,0,0⟩):=by rw [Hid,HE6.out];simp [hk1,hk5]
             obtain ⟨p0,p1,p2,p3,p4,p5⟩:=HXC.out w10 HB10.out
             obtain ⟨⟨j0,j1,j2,j3,j4,j5,j6⟩,g0,g1,g2,g3,g4,g5,g6⟩:=cells7 HS10.out.s
             obtain ⟨wz,hwz⟩:∃ wz,wz=w10.setCell ⟨gS,3,none⟩ (.string xtx):=⟨_,rfl⟩
             have sz:wz.heap[gS]? = some (.cells #[.int .i64 4,.string nm,.int .i64 op,.string xtx,.int .i64 0,.int .i64 0,.slice none 0 0] 46 (0,0)):=by rw [hwz,set_at 3 _ _ HS10.out.s];rfl
             have rz:wz.heap[W.heap.size]? = some (.cells #[.int .i64 0,.string ⟨#[]⟩,.int .i64 0,.string ⟨#[]⟩,.int .i64 0,.int .i64 0,.slice none 0 0] 46 (0,0)):=by rw [hwz];exact (heap_ne (by have:=HS10.out.lt;omega)).trans HS10.out.r
             have HBz:Hid (Below W.heap.size W wz):=by rw [Hid,hwz];exact Below.set HS10.out.b (Nat.le_of_lt HS10.out.lt) _
             have HWZ:=hid_mk hwz
             have HSZ:=hid_mk sz
             have HRZ:=hid_mk rz
             dsimp only at p0 p1 p2 p3 p4 p5
             clear HE6 HXC hwz sz rz HS10 HB10
             go_upto_region 23 with (fail)
             rw [← HWZ.out]
             clear HWZ p0 p1 p2 p3 p4 p5 j0 j1 j2 j3 j4 j5 j6 g0 g1 g2 g3 g4 g5 g6
             obtain ⟨⟨k0,k1,k2,k3,k4,k5,k6⟩,f0,f1,f2,f3,f4,f5,f6⟩:=cells7 HRZ.out
             obtain ⟨⟨j0,j1,j2,j3,j4,j5,j6⟩,_⟩:=cells7 HSZ.out
             go_wp2
             rw [HE7.out]
             refine bodyPost_ret (v:=.tuple #[.agg #[.int .i64 4,.string nm,.int .i64 op,.string xtx,.int .i64 0,.int .i64 0,.slice none 0 0],.bool true]) (by simp [results,Tryz.results84,go_sem,k0,k1,k2,k3,k4,k5,k6]) rfl (SqPost.yes (s:=⟨4,nm,op,xtx,0,0⟩) (Below.set7 HBz.out (Nat.le_refl _) _ _ _ _ _ _ _))
           | false =>
             have HE7:Hid (R=none):=by rw [Hid,HE6.out];simp [hk1,hk5]
             obtain ⟨⟨k0,k1,k2,k3,k4,k5,k6⟩,f0,f1,f2,f3,f4,f5,f6⟩:=cells7 HS10.out.r
             have HB:=hid_mk HS10.out.b
             clear HE6 HXC HS10 HB10
             go_wp2
             rw [HE7.out]
             refine bodyPost_ret (v:=.tuple #[.agg #[.int .i64 0,.string ⟨#[]⟩,.int .i64 0,.string ⟨#[]⟩,.int .i64 0,.int .i64 0,.slice none 0 0],.bool false]) (by simp [results,Tryz.results84,go_sem,k0,k1,k2,k3,k4,k5,k6]) rfl (SqPost.no (s0:=⟨0,⟨#[]⟩,0,⟨#[]⟩,0,0⟩) (Below.set7 HB.out (Nat.le_refl _) _ _ _ _ _ _ _))
       | cons y zs =>
         have hne:((rn:Int) != 1)=true:=by rw [hn8];simp;omega
         have HE6:Hid (R=none):=HE5.out
         obtain ⟨⟨k0,k1,k2,k3,k4,k5,k6⟩,f0,f1,f2,f3,f4,f5,f6⟩:=cells7 HS8.out.r
         have HB:=hid_mk HS8.out.b
         clear HE5 hv8 HS8 hn8 hfz
         go_wp2
         rw [HE6.out]
         refine bodyPost_ret (v:=.tuple #[.agg #[.int .i64 0,.string ⟨#[]⟩,.int .i64 0,.string ⟨#[]⟩,.int .i64 0,.int .i64 0,.slice none 0 0],.bool false]) (by simp [results,Tryz.results84,go_sem,k0,k1,k2,k3,k4,k5,k6]) rfl (SqPost.no (s0:=⟨0,⟨#[]⟩,0,⟨#[]⟩,0,0⟩) (Below.set7 HB.out (Nat.le_refl _) _ _ _ _ _ _ _))
end Go.Proofs.YtdneaeokljoijaaGreatDoor.L
