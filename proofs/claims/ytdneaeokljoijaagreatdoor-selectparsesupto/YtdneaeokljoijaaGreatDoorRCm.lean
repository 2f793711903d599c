/- gouacheref05.compound, plainly: it is the program's, its Lists read. -/
import Derived.Test.YtdneaeokljoijaaGreatDoorRPs
import Derived.Test.YtdneaeokljoijaaGreatDoorNRParse
import Derived.Test.YtdneaeokljoijaaGreatDoorLCh
import Derived.Test.YtdneaeokljoijaaGreatDoorLId
import Derived.Maps.AppendAt
import Derived.Deep.CutBlock
set_option maxRecDepth 100000
set_option maxHeartbeats 8000000
namespace Go.Proofs.YtdneaeokljoijaaGreatDoor.L
open Go.RowKit
theorem rnth_any {P:Nat→Prop} {W:World} {v:Value} {vs:List V} (hv:VsAt P W v vs) (hf:Fit vs):Calls Tryz.prog 111 #[v] W fun e w'=>e=.returned (.tuple #[.int .i64 (nthR vs).1,.int .i64 (nthR vs).2.1,.bool (nthR vs).2.2])∧Below W.heap.size W w':=by
 obtain ⟨ts,h1,h2,h3,h4⟩:=hv.vals
 have h:=N.rparse_any W v ts h1 (by rw [h3];exact hf.len) (fun t ht=>by
  obtain ⟨x,hx,e1,e2⟩:=h4 t ht
  rw [e1,e2]
  exact hf.tx x hx)
 rw [N.parse_same,h2] at h
 exact h
def lsX (k:Int) (o:Option (List Cx)):Option (List SX):=match o with
 | some l=>some [(⟨k,⟨#[]⟩,0,⟨#[]⟩,0,0⟩,l)]
 | none=>none
def fnX (t:T5) (ks:List V):Option (List SX):=if plcB (numZ 2 (foldS t.tx))=true then (if (nthR ks).2.2=true then some [(⟨numZ 2 (foldS t.tx),⟨#[]⟩,0,⟨#[]⟩,(nthR ks).1,(nthR ks).2.1⟩,[])] else none)
  else if lstB (numZ 2 (foldS t.tx))=true then lsX (numZ 2 (foldS t.tx)) (parseZ ks) else none
theorem n2_nth {nm:ByteArray} (h:(nm.toList == [110,116,104,45,99,104,105,108,100])=true):numZ 2 nm=8:=by
 have h:nm.toList=[110,116,104,45,99,104,105,108,100]:=by simpa using h
 rw [num2,h]
 rfl
theorem n2_nlast {nm:ByteArray} (h:(nm.toList == [110,116,104,45,108,97,115,116,45,99,104,105,108,100])=true):numZ 2 nm=9:=by
 have h:nm.toList=[110,116,104,45,108,97,115,116,45,99,104,105,108,100]:=by simpa using h
 rw [num2,h]
 rfl
theorem n2_not {nm:ByteArray} (h:(nm.toList == [110,111,116])=true):numZ 2 nm=5:=by
 have h:nm.toList=[110,111,116]:=by simpa using h
 rw [num2,h]
 rfl
theorem n2_is {nm:ByteArray} (h:(nm.toList == [105,115])=true):numZ 2 nm=6:=by
 have h:nm.toList=[105,115]:=by simpa using h
 rw [num2,h]
 rfl
theorem n2_where {nm:ByteArray} (h:(nm.toList == [119,104,101,114,101])=true):numZ 2 nm=7:=by
 have h:nm.toList=[119,104,101,114,101]:=by simpa using h
 rw [num2,h]
 rfl
theorem n2_else {nm:ByteArray} (hnth:(nm.toList == [110,116,104,45,99,104,105,108,100])=false) (hnlast:(nm.toList == [110,116,104,45,108,97,115,116,45,99,104,105,108,100])=false) (hnot:(nm.toList == [110,111,116])=false) (his:(nm.toList == [105,115])=false) (hwhere:(nm.toList == [119,104,101,114,101])=false):plcB (numZ 2 nm)=false∧lstB (numZ 2 nm)=false:=by
 rw [num2,hnot,his,hwhere,hnth,hnlast]
 simp only [Bool.false_eq_true,if_false]
 repeat' split
 all_goals decide
theorem PsP.lst {W w w2:World} {s:S6} {ua:Option Addr} {un uc:Nat} {L:List Cx} {g lo hi:Nat} (hb:Below W.heap.size W w2) (hlo:W.heap.size≤lo) (hhi:hi≤w2.heap.size) (hr:Rob lo hi w2 fun w=>ClAt w (.slice ua un uc) L) (hw:w=w2.alloc (.cells (s7a s (.slice ua un uc)) 46)) (hg:g=w2.heap.size) :
  PsP W (some [(s,L)]) (.returned (.tuple #[.slice (some ⟨g,0,none⟩) 1 1,.bool true])) w:=by
 subst hw hg
 refine ⟨_,_,_,hb.alloc hb.size _,rfl,_,fun w3 h3=>pt_one ((h3 _ hb.size (by simp)).trans (heap_alloc_last w2 _)) (hr w3 fun k h1 h2=>?_)⟩
 rw [h3 k (by omega) (by simp;omega),Below.heap_alloc _ _ _ (by omega)]
theorem rps_fn {P:Nat→Prop} {W:World} (t:T5) (ka:Option Addr) (kn kc:Nat) (ks:List V) (hv:VsAt P W (.slice ka kn kc) ks) (hf:Fit ks) (hk:t.k=2) (hs:t.tx.size≤1000000000000)
  (hp:∀ w,Below W.heap.size W w→Calls Tryz.prog 8 #[.slice ka kn kc] w (PaP w (parseZ ks))):Calls Tryz.prog 85 #[vAg t (.slice ka kn kc)] W (PsP W (fnX t ks)):=by
 obtain ⟨tk,tx,un,wh,fl⟩:=t
 dsimp only at hk hs
 subst hk
 obtain ⟨W1,hW1⟩:∃ W1,W1=W.alloc (.cells #[.int .i64 2,.string tx,.string un,.bool wh,.bool fl,.slice ka kn kc] 34):=⟨_,rfl⟩
 have hB1:Below W.heap.size W W1:=by rw [hW1];exact (Below.refl _ _).alloc (Nat.le_refl _) _
 have x1:W1.heap[W.heap.size]? = some (.cells #[.int .i64 2,.string tx,.string un,.bool wh,.bool fl,.slice ka kn kc] 34 (0,0)):=by rw [hW1];exact heap_alloc_last W _
 have hl1:W.heap.size<W1.heap.size:=(Array.getElem?_eq_some_iff.1 x1).1
 have hfo:=rfold2_any tx W1 hs
 have HE:Hid (fnX ⟨2,tx,un,wh,fl⟩ ks=if plcB (numZ 2 (foldS tx))=true then (if (nthR ks).2.2=true then some [(⟨numZ 2 (foldS tx),⟨#[]⟩,0,⟨#[]⟩,(nthR ks).1,(nthR ks).2.1⟩,[])] else none)
  else if lstB (numZ 2 (foldS tx))=true then lsX (numZ 2 (foldS tx)) (parseZ ks) else none):=rfl
 have HN:Hid (∀ w,Below W.heap.size W w→Calls Tryz.prog 111 #[.slice ka kn kc] w fun e w'=>e=.returned (.tuple #[.int .i64 (nthR ks).1,.int .i64 (nthR ks).2.1,.bool (nthR ks).2.2])∧Below w.heap.size w w'):=fun w hb=>rnth_any (hv.keep hb) hf
 have HP:=hid_mk hp
 generalize fnX ⟨2,tx,un,wh,fl⟩ ks=R at *
 generalize foldS tx=nm at *
 generalize nthR ks=NR at *
 obtain ⟨na,nb,nok⟩:=NR
 generalize parseZ ks=PZ at *
 have y1:W1.cell? ⟨W.heap.size,1,none⟩=some (.string tx):=cellAt x1 1
 have HW1:=hid_mk hW1
 unfold vAg
 dsimp only at HE HN ⊢
 have HIS:Hid (∀ w k,Calls Tryz.prog 29 #[.agg #[.int .i64 2,.string tx,.string un,.bool wh,.bool fl,.slice ka kn kc],.int .i64 k] w fun e w'=>e=.returned (.bool ((2:Int) == k))∧Below w.heap.size w w'):=fun w k=>ris_any w ⟨2,tx,un,wh,fl⟩ ka kn kc k
 have HX:Hid (∀ w,Below W1.heap.size W1 w→w.heap[W.heap.size]? = some (.cells #[.int .i64 2,.string tx,.string un,.bool wh,.bool fl,.slice ka kn kc] 34 (0,0))):=fun w hb=>(hb.block _ hl1).trans x1
 have HB1:=hid_mk hB1
 clear hW1 hv hf hp x1 hB1
 go_enter Tryz.func85,Tryz.ntmps85
 go_upto_region 1 with (fail)
 rw [← HW1.out]
 go_wp2_with (go_at_call 52;fail)
 refine hfo.mono ?_
 rintro e w2 ⟨rfl,hb2⟩
 have x2:=HX.out w2 hb2
 have q0:w2.cell? ⟨W.heap.size,0,none⟩=some (.int .i64 2):=cellAt x2 0
 have q1:w2.cell? ⟨W.heap.size,1,none⟩=some (.string tx):=cellAt x2 1
 have q2:w2.cell? ⟨W.heap.size,2,none⟩=some (.string un):=cellAt x2 2
 have q3:w2.cell? ⟨W.heap.size,3,none⟩=some (.bool wh):=cellAt x2 3
 have q4:w2.cell? ⟨W.heap.size,4,none⟩=some (.bool fl):=cellAt x2 4
 have q5:w2.cell? ⟨W.heap.size,5,none⟩=some (.slice ka kn kc):=cellAt x2 5
 have hi:=HIS.out w2 1
 have HB2:=hid_mk hb2
 clear hfo hb2 x2 y1 HW1
 go_wp2_with (go_at_call 29;fail)
 refine hi.mono ?_
 rintro e w3 ⟨rfl,hb3⟩
 have hB3:Below W1.heap.size W1 w3:=HB2.out.trans (hb3.mono HB2.out.size)
 have x3:=HX.out w3 hB3
 have q0':w3.cell? ⟨W.heap.size,0,none⟩=some (.int .i64 2):=cellAt x3 0
 have q1':w3.cell? ⟨W.heap.size,1,none⟩=some (.string tx):=cellAt x3 1
 have q2':w3.cell? ⟨W.heap.size,2,none⟩=some (.string un):=cellAt x3 2
 have q3':w3.cell? ⟨W.heap.size,3,none⟩=some (.bool wh):=cellAt x3 3
 have q4':w3.cell? ⟨W.heap.size,4,none⟩=some (.bool fl):=cellAt x3 4
 have q5':w3.cell? ⟨W.heap.size,5,none⟩=some (.slice ka kn kc):=cellAt x3 5
 have hi2:=HIS.out w3 2
 have HB3:=hid_mk hB3
 clear hi hb3 q0 q1 q2 q3 q4 q5 HB2 hB3 x3
 rw [show ((2:Int) == 1)=false from rfl]
 go_wp2_with (go_at_call 29;fail)
 refine hi2.mono ?_
 rintro e w4 ⟨rfl,hb4⟩
 have hB4:Below W1.heap.size W1 w4:=HB3.out.trans (hb4.mono HB3.out.size)
 rw [show ((2:Int) == 2)=true from rfl]
 obtain ⟨w5,hw5⟩:∃ w5,w5=w4.alloc (.cells #[.int .i64 0,.string ⟨#[]⟩,.int .i64 0,.string ⟨#[]⟩,.int .i64 0,.int .i64 0,.slice none 0 0] 46):=⟨_,rfl⟩
 have hb45:Below w4.heap.size w4 w5:=by rw [hw5];exact (Below.refl _ _).alloc (Nat.le_refl _) _
 have x5:w5.heap[w4.heap.size]? = some (.cells #[.int .i64 0,.string ⟨#[]⟩,.int .i64 0,.string ⟨#[]⟩,.int .i64 0,.int .i64 0,.slice none 0 0] 46 (0,0)):=by rw [hw5];exact heap_alloc_last w4 _
 have hB5:Below W1.heap.size W1 w5:=hB4.trans (hb45.mono hB4.size)
 have hBW5:Below W.heap.size W w5:=HB1.out.trans (hB5.mono HB1.out.size)
 have hg:W1.heap.size≤w4.heap.size:=hB4.size
 have hgl:w4.heap.size<w5.heap.size:=(Array.getElem?_eq_some_iff.1 x5).1
 have HX5:=hid_mk x5
 have HB5:=hid_mk hB5
 have HBW5:=hid_mk hBW5
 have HW5:=hid_mk hw5
 clear hi2 hb4 hB4 q0' q1' q2' q3' q4' q5' HB3 hw5 hb45 x5 hB5 hBW5 HIS
 go_upto_region 18 with (fail)
 rw [← HW5.out]
 clear HW5
 generalize w4.heap.size=gS at *
 cases hnth:(nm.toList == [110,116,104,45,99,104,105,108,100]) with
 | true =>
   obtain ⟨⟨j0,j1,j2,j3,j4,j5,j6⟩,f0,f1,f2,f3,f4,f5,f6⟩:=cells7 HX5.out
   obtain ⟨w6,hw6⟩:∃ w6,w6=w5.setCell ⟨gS,0,none⟩ (.int .i64 8):=⟨_,rfl⟩
   have x6:w6.heap[gS]? = some (.cells #[.int .i64 8,.string ⟨#[]⟩,.int .i64 0,.string ⟨#[]⟩,.int .i64 0,.int .i64 0,.slice none 0 0] 46 (0,0)):=by rw [hw6,set_at 0 _ _ HX5.out];rfl
   have hB6:Below W1.heap.size W1 w6:=by rw [hw6];exact Below.set HB5.out hg _
   have hBW6:Below W.heap.size W w6:=HB1.out.trans (hB6.mono HB1.out.size)
   have y6:w6.cell? ⟨W.heap.size,5,none⟩=some (.slice ka kn kc):=cellAt (HX.out w6 hB6) 5
   have HX6:=hid_mk x6
   have HBW6:=hid_mk hBW6
   have HW6:=hid_mk hw6
   have hg6:gS<w6.heap.size:=(Array.getElem?_eq_some_iff.1 x6).1
   have HE2:Hid (R=if nok=true then some [(⟨8,⟨#[]⟩,0,⟨#[]⟩,na,nb⟩,[])] else none):=by rw [Hid,HE.out,n2_nth hnth];rfl
   have hcall:=HN.out w6 hBW6
   clear HE HN HP HX HX5 HB5 HBW5 hw6 x6 hB6 hBW6
   go_upto_region 23 with (fail)
   rw [← HW6.out]
   clear HW6 j0 j1 j2 j3 j4 j5 j6 f0 f1 f2 f3 f4 f5 f6
   go_wp2_with (go_at_call 111;fail)
   refine hcall.mono ?_
   rintro e w7 ⟨rfl,hb7⟩
   have x7:=(hb7.block _ hg6).trans HX6.out
   have hBW7:Below W.heap.size W w7:=HBW6.out.trans (hb7.mono HBW6.out.size)
   obtain ⟨⟨j0,j1,j2,j3,j4,j5,j6⟩,f0,f1,f2,f3,f4,f5,f6⟩:=cells7 x7
   obtain ⟨w8,hw8⟩:∃ w8,w8=(w7.setCell ⟨gS,4,none⟩ (.int .i64 na)).setCell ⟨gS,5,none⟩ (.int .i64 nb):=⟨_,rfl⟩
   have x8:w8.heap[gS]? = some (.cells #[.int .i64 8,.string ⟨#[]⟩,.int .i64 0,.string ⟨#[]⟩,.int .i64 na,.int .i64 nb,.slice none 0 0] 46 (0,0)):=by rw [hw8,set_at 5 _ _ (set_at 4 _ _ x7)];rfl
   have hBW8:Below W.heap.size W w8:=by rw [hw8];exact Below.set (Below.set hBW7 (by omega) _) (by omega) _
   have HX8:=hid_mk x8
   have HBW8:=hid_mk hBW8
   have HW8:=hid_mk hw8
   clear hcall hb7 x7 hBW7 y6 HX6 HBW6 hw8 x8 hBW8
   go_upto_region 36 with (fail)
   rw [← HW8.out]
   clear HW8 j0 j1 j2 j3 j4 j5 j6 f0 f1 f2 f3 f4 f5 f6
   obtain ⟨⟨j0,j1,j2,j3,j4,j5,j6⟩,_⟩:=cells7 HX8.out
   cases nok with
   | true =>
     go_wp2
     go_ret2
     rw [HE2.out]
     exact PsP.one (s:=⟨8,⟨#[]⟩,0,⟨#[]⟩,na,nb⟩) HBW8.out HBW8.out.size
   | false =>
     go_wp2
     go_ret2
     rw [HE2.out]
     exact PsP.no (HBW8.out.alloc HBW8.out.size _)
 | false =>
   cases hnlast:(nm.toList == [110,116,104,45,108,97,115,116,45,99,104,105,108,100]) with
   | true =>
     obtain ⟨⟨j0,j1,j2,j3,j4,j5,j6⟩,f0,f1,f2,f3,f4,f5,f6⟩:=cells7 HX5.out
     obtain ⟨w6,hw6⟩:∃ w6,w6=w5.setCell ⟨gS,0,none⟩ (.int .i64 9):=⟨_,rfl⟩
     have x6:w6.heap[gS]? = some (.cells #[.int .i64 9,.string ⟨#[]⟩,.int .i64 0,.string ⟨#[]⟩,.int .i64 0,.int .i64 0,.slice none 0 0] 46 (0,0)):=by rw [hw6,set_at 0 _ _ HX5.out];rfl
     have hB6:Below W1.heap.size W1 w6:=by rw [hw6];exact Below.set HB5.out hg _
     have hBW6:Below W.heap.size W w6:=HB1.out.trans (hB6.mono HB1.out.size)
     have y6:w6.cell? ⟨W.heap.size,5,none⟩=some (.slice ka kn kc):=cellAt (HX.out w6 hB6) 5
     have HX6:=hid_mk x6
     have HBW6:=hid_mk hBW6
     have HW6:=hid_mk hw6
     have hg6:gS<w6.heap.size:=(Array.getElem?_eq_some_iff.1 x6).1
     have HE2:Hid (R=if nok=true then some [(⟨9,⟨#[]⟩,0,⟨#[]⟩,na,nb⟩,[])] else none):=by rw [Hid,HE.out,n2_nlast hnlast];rfl
     have hcall:=HN.out w6 hBW6
     clear HE HN HP HX HX5 HB5 HBW5 hw6 x6 hB6 hBW6
     go_upto_region 26 with (fail)
     rw [← HW6.out]
     clear HW6 j0 j1 j2 j3 j4 j5 j6 f0 f1 f2 f3 f4 f5 f6
     go_wp2_with (go_at_call 111;fail)
     refine hcall.mono ?_
     rintro e w7 ⟨rfl,hb7⟩
     have x7:=(hb7.block _ hg6).trans HX6.out
     have hBW7:Below W.heap.size W w7:=HBW6.out.trans (hb7.mono HBW6.out.size)
     obtain ⟨⟨j0,j1,j2,j3,j4,j5,j6⟩,f0,f1,f2,f3,f4,f5,f6⟩:=cells7 x7
     obtain ⟨w8,hw8⟩:∃ w8,w8=(w7.setCell ⟨gS,4,none⟩ (.int .i64 na)).setCell ⟨gS,5,none⟩ (.int .i64 nb):=⟨_,rfl⟩
     have x8:w8.heap[gS]? = some (.cells #[.int .i64 9,.string ⟨#[]⟩,.int .i64 0,.string ⟨#[]⟩,.int .i64 na,.int .i64 nb,.slice none 0 0] 46 (0,0)):=by rw [hw8,set_at 5 _ _ (set_at 4 _ _ x7)];rfl
     have hBW8:Below W.heap.size W w8:=by rw [hw8];exact Below.set (Below.set hBW7 (by omega) _) (by omega) _
     have HX8:=hid_mk x8
     have HBW8:=hid_mk hBW8
     have HW8:=hid_mk hw8
     clear hcall hb7 x7 hBW7 y6 HX6 HBW6 hw8 x8 hBW8
     go_upto_region 36 with (fail)
     rw [← HW8.out]
     clear HW8 j0 j1 j2 j3 j4 j5 j6 f0 f1 f2 f3 f4 f5 f6
     obtain ⟨⟨j0,j1,j2,j3,j4,j5,j6⟩,_⟩:=cells7 HX8.out
     cases nok with
     | true =>
       go_wp2
       go_ret2
       rw [HE2.out]
       exact PsP.one (s:=⟨9,⟨#[]⟩,0,⟨#[]⟩,na,nb⟩) HBW8.out HBW8.out.size
     | false =>
       go_wp2
       go_ret2
       rw [HE2.out]
       exact PsP.no (HBW8.out.alloc HBW8.out.size _)
   | false =>
     cases hnot:(nm.toList == [110,111,116]) with
     | true =>
       obtain ⟨⟨j0,j1,j2,j3,j4,j5,j6⟩,f0,f1,f2,f3,f4,f5,f6⟩:=cells7 HX5.out
       obtain ⟨w6,hw6⟩:∃ w6,w6=w5.setCell ⟨gS,0,none⟩ (.int .i64 5):=⟨_,rfl⟩
       have x6:w6.heap[gS]? = some (.cells #[.int .i64 5,.string ⟨#[]⟩,.int .i64 0,.string ⟨#[]⟩,.int .i64 0,.int .i64 0,.slice none 0 0] 46 (0,0)):=by rw [hw6,set_at 0 _ _ HX5.out];rfl
       have hB6:Below W1.heap.size W1 w6:=by rw [hw6];exact Below.set HB5.out hg _
       have hBW6:Below W.heap.size W w6:=HB1.out.trans (hB6.mono HB1.out.size)
       have y6:w6.cell? ⟨W.heap.size,5,none⟩=some (.slice ka kn kc):=cellAt (HX.out w6 hB6) 5
       have HX6:=hid_mk x6
       have HBW6:=hid_mk hBW6
       have HW6:=hid_mk hw6
       have hg6:gS<w6.heap.size:=(Array.getElem?_eq_some_iff.1 x6).1
       have HE2:Hid (R=lsX 5 PZ):=by rw [Hid,HE.out,n2_not hnot];rfl
       have hcall:=HP.out w6 hBW6
       clear HE HN HP HX HX5 HB5 HBW5 hw6 x6 hB6 hBW6
       go_upto_region 29 with (fail)
       rw [← HW6.out]
       clear HW6 j0 j1 j2 j3 j4 j5 j6 f0 f1 f2 f3 f4 f5 f6
       go_wp2_with (go_at_call 8;fail)
       refine hcall.mono ?_
       rintro e w7 hq
       cases PZ with
       | none =>
         obtain ⟨rfl,hb7⟩:=hq
         have HE3:Hid (R=none):=HE2.out
         have x7:=(hb7.block _ hg6).trans HX6.out
         have hBW7:Below W.heap.size W w7:=HBW6.out.trans (hb7.mono HBW6.out.size)
         obtain ⟨⟨j0,j1,j2,j3,j4,j5,j6⟩,f0,f1,f2,f3,f4,f5,f6⟩:=cells7 x7
         obtain ⟨w8,hw8⟩:∃ w8,w8=w7.setCell ⟨gS,6,none⟩ (.slice none 0 0):=⟨_,rfl⟩
         have x8:w8.heap[gS]? = some (.cells #[.int .i64 5,.string ⟨#[]⟩,.int .i64 0,.string ⟨#[]⟩,.int .i64 0,.int .i64 0,.slice none 0 0] 46 (0,0)):=by rw [hw8,set_at 6 _ _ x7];rfl
         have hBW8:Below W.heap.size W w8:=by rw [hw8];exact Below.set hBW7 (by omega) _
         have HX8:=hid_mk x8
         have HBW8:=hid_mk hBW8
         have HW8:=hid_mk hw8
         clear hcall hb7 x7 hBW7 y6 HX6 HBW6 hw8 x8 hBW8 HE2
         go_upto_region 36 with (fail)
         rw [← HW8.out]
         clear HW8 j0 j1 j2 j3 j4 j5 j6 f0 f1 f2 f3 f4 f5 f6
         obtain ⟨⟨j0,j1,j2,j3,j4,j5,j6⟩,_⟩:=cells7 HX8.out
         go_wp2
         go_ret2
         rw [HE3.out]
         exact PsP.no (HBW8.out.alloc HBW8.out.size _)
       | some l =>
         obtain ⟨ua,un',uc,rfl,hrob,hb7⟩:=hq
         have HE3:Hid (R=some [(⟨5,⟨#[]⟩,0,⟨#[]⟩,0,0⟩,l)]):=HE2.out
         have x7:=(hb7.block _ hg6).trans HX6.out
         have hBW7:Below W.heap.size W w7:=HBW6.out.trans (hb7.mono HBW6.out.size)
         obtain ⟨⟨j0,j1,j2,j3,j4,j5,j6⟩,f0,f1,f2,f3,f4,f5,f6⟩:=cells7 x7
         obtain ⟨w8,hw8⟩:∃ w8,w8=w7.setCell ⟨gS,6,none⟩ (.slice ua un' uc):=⟨_,rfl⟩
         have x8:w8.heap[gS]? = some (.cells #[.int .i64 5,.string ⟨#[]⟩,.int .i64 0,.string ⟨#[]⟩,.int .i64 0,.int .i64 0,.slice ua un' uc] 46 (0,0)):=by rw [hw8,set_at 6 _ _ x7];rfl
         have hBW8:Below W.heap.size W w8:=by rw [hw8];exact Below.set hBW7 (by omega) _
         have HR8:Hid (Rob w6.heap.size w7.heap.size w8 fun w=>ClAt w (.slice ua un' uc) l):=hrob.to fun k h1 h2=>by rw [hw8];exact heap_ne (by omega)
         have hsz8:w7.heap.size≤w8.heap.size:=by rw [hw8];simp
         have HX8:=hid_mk x8
         have HBW8:=hid_mk hBW8
         have HW8:=hid_mk hw8
         have hs6:W.heap.size≤w6.heap.size:=HBW6.out.size
         clear hcall hb7 x7 hBW7 y6 HX6 HBW6 hw8 x8 hBW8 HE2 hrob
         go_upto_region 36 with (fail)
         rw [← HW8.out]
         clear HW8 j0 j1 j2 j3 j4 j5 j6 f0 f1 f2 f3 f4 f5 f6
         obtain ⟨⟨j0,j1,j2,j3,j4,j5,j6⟩,_⟩:=cells7 HX8.out
         go_wp2
         go_ret2
         rw [HE3.out]
         exact PsP.lst (s:=⟨5,⟨#[]⟩,0,⟨#[]⟩,0,0⟩) HBW8.out hs6 hsz8 HR8.out rfl rfl
     | false =>
       cases his:(nm.toList == [105,115]) with
       | true =>
         obtain ⟨⟨j0,j1,j2,j3,j4,j5,j6⟩,f0,f1,f2,f3,f4,f5,f6⟩:=cells7 HX5.out
         obtain ⟨w6,hw6⟩:∃ w6,w6=w5.setCell ⟨gS,0,none⟩ (.int .i64 6):=⟨_,rfl⟩
         have x6:w6.heap[gS]? = some (.cells #[.int .i64 6,.string ⟨#[]⟩,.int .i64 0,.string ⟨#[]⟩,.int .i64 0,.int .i64 0,.slice none 0 0] 46 (0,0)):=by rw [hw6,set_at 0 _ _ HX5.out];rfl
         have hB6:Below W1.heap.size W1 w6:=by rw [hw6];exact Below.set HB5.out hg _
         have hBW6:Below W.heap.size W w6:=HB1.out.trans (hB6.mono HB1.out.size)
         have y6:w6.cell? ⟨W.heap.size,5,none⟩=some (.slice ka kn kc):=cellAt (HX.out w6 hB6) 5
         have HX6:=hid_mk x6
         have HBW6:=hid_mk hBW6
         have HW6:=hid_mk hw6
         have hg6:gS<w6.heap.size:=(Array.getElem?_eq_some_iff.1 x6).1
         have HE2:Hid (R=lsX 6 PZ):=by rw [Hid,HE.out,n2_is his];rfl
         have hcall:=HP.out w6 hBW6
         clear HE HN HP HX HX5 HB5 HBW5 hw6 x6 hB6 hBW6
         go_upto_region 32 with (fail)
         rw [← HW6.out]
         clear HW6 j0 j1 j2 j3 j4 j5 j6 f0 f1 f2 f3 f4 f5 f6
         go_wp2_with (go_at_call 8;fail)
         refine hcall.mono ?_
         rintro e w7 hq
         cases PZ with
         | none =>
           obtain ⟨rfl,hb7⟩:=hq
           have HE3:Hid (R=none):=HE2.out
           have x7:=(hb7.block _ hg6).trans HX6.out
           have hBW7:Below W.heap.size W w7:=HBW6.out.trans (hb7.mono HBW6.out.size)
           obtain ⟨⟨j0,j1,j2,j3,j4,j5,j6⟩,f0,f1,f2,f3,f4,f5,f6⟩:=cells7 x7
           obtain ⟨w8,hw8⟩:∃ w8,w8=w7.setCell ⟨gS,6,none⟩ (.slice none 0 0):=⟨_,rfl⟩
           have x8:w8.heap[gS]? = some (.cells #[.int .i64 6,.string ⟨#[]⟩,.int .i64 0,.string ⟨#[]⟩,.int .i64 0,.int .i64 0,.slice none 0 0] 46 (0,0)):=by rw [hw8,set_at 6 _ _ x7];rfl
           have hBW8:Below W.heap.size W w8:=by rw [hw8];exact Below.set hBW7 (by omega) _
           have HX8:=hid_mk x8
           have HBW8:=hid_mk hBW8
           have HW8:=hid_mk hw8
           clear hcall hb7 x7 hBW7 y6 HX6 HBW6 hw8 x8 hBW8 HE2
           go_upto_region 36 with (fail)
           rw [← HW8.out]
           clear HW8 j0 j1 j2 j3 j4 j5 j6 f0 f1 f2 f3 f4 f5 f6
           obtain ⟨⟨j0,j1,j2,j3,j4,j5,j6⟩,_⟩:=cells7 HX8.out
           go_wp2
           go_ret2
           rw [HE3.out]
           exact PsP.no (HBW8.out.alloc HBW8.out.size _)
         | some l =>
           obtain ⟨ua,un',uc,rfl,hrob,hb7⟩:=hq
           have HE3:Hid (R=some [(⟨6,⟨#[]⟩,0,⟨#[]⟩,0,0⟩,l)]):=HE2.out
           have x7:=(hb7.block _ hg6).trans HX6.out
           have hBW7:Below W.heap.size W w7:=HBW6.out.trans (hb7.mono HBW6.out.size)
           obtain ⟨⟨j0,j1,j2,j3,j4,j5,j6⟩,f0,f1,f2,f3,f4,f5,f6⟩:=cells7 x7
           obtain ⟨w8,hw8⟩:∃ w8,w8=w7.setCell ⟨gS,6,none⟩ (.slice ua un' uc):=⟨_,rfl⟩
           have x8:w8.heap[gS]? = some (.cells #[.int .i64 6,.string ⟨#[]⟩,.int .i64 0,.string ⟨#[]⟩,.int .i64 0,.int .i64 0,.slice ua un' uc] 46 (0,0)):=by rw [hw8,set_at 6 _ _ x7];rfl
           have hBW8:Below W.heap.size W w8:=by rw [hw8];exact Below.set hBW7 (by omega) _
           have HR8:Hid (Rob w6.heap.size w7.heap.size w8 fun w=>ClAt w (.slice ua un' uc) l):=hrob.to fun k h1 h2=>by rw [hw8];exact heap_ne (by omega)
           have hsz8:w7.heap.size≤w8.heap.size:=by rw [hw8];simp
           have HX8:=hid_mk x8
           have HBW8:=hid_mk hBW8
           have HW8:=hid_mk hw8
           have hs6:W.heap.size≤w6.heap.size:=HBW6.out.size
           clear hcall hb7 x7 hBW7 y6 HX6 HBW6 hw8 x8 hBW8 HE2 hrob
           go_upto_region 36 with (fail)
           rw [← HW8.out]
           clear HW8 j0 j1 j2 j3 j4 j5 j6 f0 f1 f2 f3 f4 f5 f6
           obtain ⟨⟨j0,j1,j2,j3,j4,j5,j6⟩,_⟩:=cells7 HX8.out
           go_wp2
           go_ret2
           rw [HE3.out]
           exact PsP.lst (s:=⟨6,⟨#[]⟩,0,⟨#[]⟩,0,0⟩) HBW8.out hs6 hsz8 HR8.out rfl rfl
       | false =>
         cases hwhere:(nm.toList == [119,104,101,114,101]) with
         | true =>
           obtain ⟨⟨j0,j1,j2,j3,j4,j5,j6⟩,f0,f1,f2,f3,f4,f5,f6⟩:=cells7 HX5.out
           obtain ⟨w6,hw6⟩:∃ w6,w6=w5.setCell ⟨gS,0,none⟩ (.int .i64 7):=⟨_,rfl⟩
           have x6:w6.heap[gS]? = some (.cells #[.int .i64 7,.string ⟨#[]⟩,.int .i64 0,.string ⟨#[]⟩,.int .i64 0,.int .i64 0,.slice none 0 0] 46 (0,0)):=by rw [hw6,set_at 0 _ _ HX5.out];rfl
           have hB6:Below W1.heap.size W1 w6:=by rw [hw6];exact Below.set HB5.out hg _
           have hBW6:Below W.heap.size W w6:=HB1.out.trans (hB6.mono HB1.out.size)
           have y6:w6.cell? ⟨W.heap.size,5,none⟩=some (.slice ka kn kc):=cellAt (HX.out w6 hB6) 5
           have HX6:=hid_mk x6
           have HBW6:=hid_mk hBW6
           have HW6:=hid_mk hw6
           have hg6:gS<w6.heap.size:=(Array.getElem?_eq_some_iff.1 x6).1
           have HE2:Hid (R=lsX 7 PZ):=by rw [Hid,HE.out,n2_where hwhere];rfl
           have hcall:=HP.out w6 hBW6
           clear HE HN HP HX HX5 HB5 HBW5 hw6 x6 hB6 hBW6
           go_upto_region 35 with (fail)
           rw [← HW6.out]
           clear HW6 j0 j1 j2 j3 j4 j5 j6 f0 f1 f2 f3 f4 f5 f6
           go_wp2_with (go_at_call 8;fail)
           refine hcall.mono ?_
           rintro e w7 hq
           cases PZ with
           | none =>
             obtain ⟨rfl,hb7⟩:=hq
             have HE3:Hid (R=none):=HE2.out
             have x7:=(hb7.block _ hg6).trans HX6.out
             have hBW7:Below W.heap.size W w7:=HBW6.out.trans (hb7.mono HBW6.out.size)
             obtain ⟨⟨j0,j1,j2,j3,j4,j5,j6⟩,f0,f1,f2,f3,f4,f5,f6⟩:=cells7 x7
             obtain ⟨w8,hw8⟩:∃ w8,w8=w7.setCell ⟨gS,6,none⟩ (.slice none 0 0):=⟨_,rfl⟩
             have x8:w8.heap[gS]? = some (.cells #[.int .i64 7,.string ⟨#[]⟩,.int .i64 0,.string ⟨#[]⟩,.int .i64 0,.int .i64 0,.slice none 0 0] 46 (0,0)):=by rw [hw8,set_at 6 _ _ x7];rfl
             have hBW8:Below W.heap.size W w8:=by rw [hw8];exact Below.set hBW7 (by omega) _
             have HX8:=hid_mk x8
             have HBW8:=hid_mk hBW8
             have HW8:=hid_mk hw8
             clear hcall hb7 x7 hBW7 y6 HX6 HBW6 hw8 x8 hBW8 HE2
             go_upto_region 36 with (fail)
             rw [← HW8.out]
             clear HW8 j0 j1 j2 j3 j4 j5 j6 f0 f1 f2 f3 f4 f5 f6
             obtain ⟨⟨j0,j1,j2,j3,j4,j5,j6⟩,_⟩:=cells7 HX8.out
             go_wp2
             go_ret2
             rw [HE3.out]
             exact PsP.no (HBW8.out.alloc HBW8.out.size _)
           | some l =>
             obtain ⟨ua,un',uc,rfl,hrob,hb7⟩:=hq
             have HE3:Hid (R=some [(⟨7,⟨#[]⟩,0,⟨#[]⟩,0,0⟩,l)]):=HE2.out
             have x7:=(hb7.block _ hg6).trans HX6.out
             have hBW7:Below W.heap.size W w7:=HBW6.out.trans (hb7.mono HBW6.out.size)
             obtain ⟨⟨j0,j1,j2,j3,j4,j5,j6⟩,f0,f1,f2,f3,f4,f5,f6⟩:=cells7 x7
             obtain ⟨w8,hw8⟩:∃ w8,w8=w7.setCell ⟨gS,6,none⟩ (.slice ua un' uc):=⟨_,rfl⟩
             have x8:w8.heap[gS]? = some (.cells #[.int .i64 7,.string ⟨#[]⟩,.int .i64 0,.string ⟨#[]⟩,.int .i64 0,.int .i64 0,.slice ua un' uc] 46 (0,0)):=by rw [hw8,set_at 6 _ _ x7];rfl
             have hBW8:Below W.heap.size W w8:=by rw [hw8];exact Below.set hBW7 (by omega) _
             have HR8:Hid (Rob w6.heap.size w7.heap.size w8 fun w=>ClAt w (.slice ua un' uc) l):=hrob.to fun k h1 h2=>by rw [hw8];exact heap_ne (by omega)
             have hsz8:w7.heap.size≤w8.heap.size:=by rw [hw8];simp
             have HX8:=hid_mk x8
             have HBW8:=hid_mk hBW8
             have HW8:=hid_mk hw8
             have hs6:W.heap.size≤w6.heap.size:=HBW6.out.size
             clear hcall hb7 x7 hBW7 y6 HX6 HBW6 hw8 x8 hBW8 HE2 hrob
             go_upto_region 36 with (fail)
             rw [← HW8.out]
             clear HW8 j0 j1 j2 j3 j4 j5 j6 f0 f1 f2 f3 f4 f5 f6
             obtain ⟨⟨j0,j1,j2,j3,j4,j5,j6⟩,_⟩:=cells7 HX8.out
             go_wp2
             go_ret2
             rw [HE3.out]
             exact PsP.lst (s:=⟨7,⟨#[]⟩,0,⟨#[]⟩,0,0⟩) HBW8.out hs6 hsz8 HR8.out rfl rfl
         | false =>
           obtain ⟨e1,e2⟩:=n2_else hnth hnlast hnot his hwhere
           have HE2:Hid (R=none):=by rw [Hid,HE.out,e1,e2];rfl
           obtain ⟨⟨j0,j1,j2,j3,j4,j5,j6⟩,_⟩:=cells7 HX5.out
           clear HE HN HP HX HX5 HB5 e1 e2
           go_wp2
           go_ret2
           rw [HE2.out]
           exact PsP.no (HBW5.out.alloc HBW5.out.size _)
theorem cells6 {W:World} {b:Nat} {x0 x1 x2 x3 x4 x5:Value} {T:TypeId} (h:W.heap[b]? = some (.cells #[x0,x1,x2,x3,x4,x5] T (0,0))) :
  W.cell? ⟨b,0,none⟩=some x0∧W.cell? ⟨b,1,none⟩=some x1∧W.cell? ⟨b,2,none⟩=some x2∧W.cell? ⟨b,3,none⟩=some x3∧W.cell? ⟨b,4,none⟩=some x4∧W.cell? ⟨b,5,none⟩=some x5:=⟨cellAt h 0,cellAt h 1,cellAt h 2,cellAt h 3,cellAt h 4,cellAt h 5⟩
theorem rps_no {W:World} (t:T5) (ka:Option Addr) (kn kc:Nat) (h1:(t.k == 1)=false) (h2:(t.k == 2)=false) (hs:t.tx.size≤1000000000000):Calls Tryz.prog 85 #[vAg t (.slice ka kn kc)] W (PsP W none):=by
 obtain ⟨tk,tx,un,wh,fl⟩:=t
 dsimp only at h1 h2 hs
 obtain ⟨W1,hW1⟩:∃ W1,W1=W.alloc (.cells #[.int .i64 tk,.string tx,.string un,.bool wh,.bool fl,.slice ka kn kc] 34):=⟨_,rfl⟩
 have hB1:Below W.heap.size W W1:=by rw [hW1];exact (Below.refl _ _).alloc (Nat.le_refl _) _
 have x1:W1.heap[W.heap.size]? = some (.cells #[.int .i64 tk,.string tx,.string un,.bool wh,.bool fl,.slice ka kn kc] 34 (0,0)):=by rw [hW1];exact heap_alloc_last W _
 have hl1:W.heap.size<W1.heap.size:=(Array.getElem?_eq_some_iff.1 x1).1
 have hfo:=rfold2_any tx W1 hs
 have HX:Hid (∀ w,Below W1.heap.size W1 w→w.heap[W.heap.size]? = some (.cells #[.int .i64 tk,.string tx,.string un,.bool wh,.bool fl,.slice ka kn kc] 34 (0,0))):=fun w hb=>(hb.block _ hl1).trans x1
 have HI1:Hid (∀ w,Calls Tryz.prog 29 #[.agg #[.int .i64 tk,.string tx,.string un,.bool wh,.bool fl,.slice ka kn kc],.int .i64 1] w fun e w'=>e=.returned (.bool false)∧Below w.heap.size w w'):=fun w=>(ris_any w ⟨tk,tx,un,wh,fl⟩ ka kn kc 1).mono fun e w' h=>⟨by rw [h.1];simp only [];rw [h1],h.2⟩
 have HI2:Hid (∀ w,Calls Tryz.prog 29 #[.agg #[.int .i64 tk,.string tx,.string un,.bool wh,.bool fl,.slice ka kn kc],.int .i64 2] w fun e w'=>e=.returned (.bool false)∧Below w.heap.size w w'):=fun w=>(ris_any w ⟨tk,tx,un,wh,fl⟩ ka kn kc 2).mono fun e w' h=>⟨by rw [h.1];simp only [];rw [h2],h.2⟩
 obtain ⟨_,y1,_⟩:=cells6 x1
 have HW1:=hid_mk hW1
 have HB1:=hid_mk hB1
 unfold vAg
 dsimp only
 clear hW1 x1 hB1 h1 h2
 go_enter Tryz.func85,Tryz.ntmps85
 go_upto_region 1 with (fail)
 rw [← HW1.out]
 go_wp2_with (go_at_call 52;fail)
 refine hfo.mono ?_
 rintro e w2 ⟨rfl,hb2⟩
 obtain ⟨q0,q1,q2,q3,q4,q5⟩:=cells6 (HX.out w2 hb2)
 have hi:=HI1.out w2
 have HB2:=hid_mk hb2
 clear hfo hb2 y1 HW1
 go_wp2_with (go_at_call 29;fail)
 refine hi.mono ?_
 rintro e w3 ⟨rfl,hb3⟩
 have hB3:Below W1.heap.size W1 w3:=HB2.out.trans (hb3.mono HB2.out.size)
 have hi2:=HI2.out w3
 clear hi hb3 q0 q1 q2 q3 q4 q5 HB2
 obtain ⟨q0,q1,q2,q3,q4,q5⟩:=cells6 (HX.out w3 hB3)
 have HB3:=hid_mk hB3
 clear hB3
 go_wp2_with (go_at_call 29;fail)
 refine hi2.mono ?_
 rintro e w4 ⟨rfl,hb4⟩
 have HB4:Hid (Below W.heap.size W w4):=by
  have h:=HB3.out.trans (hb4.mono HB3.out.size)
  exact HB1.out.trans (h.mono HB1.out.size)
 clear hi2 hb4 HB3 q0 q1 q2 q3 q4 q5 HX
 go_wp2
 go_ret2
 exact PsP.no HB4.out
theorem rpseudo_any {P:Nat→Prop} {W:World} (u:V) (ka:Option Addr) (kn kc:Nat) (hv:VsAt P W (.slice ka kn kc) u.kids) (hf:Fit u.kids) (hs:u.tok.tx.size≤1000000000000)
  (hp:∀ w,Below W.heap.size W w→Calls Tryz.prog 8 #[.slice ka kn kc] w (PaP w (parseZ u.kids))):Calls Tryz.prog 85 #[vAg u.tok (.slice ka kn kc)] W (PsP W (psX u)):=by
 cases h1:(u.tok.k == 1) with
 | true =>
   have e:psX u=stP u.tok:=by unfold psX;rw [h1];rfl
   rw [e]
   exact rps_name u.tok ka kn kc (by simpa using h1) hs
 | false =>
   cases h2:(u.tok.k == 2) with
   | true =>
     have e:psX u=fnX u.tok u.kids:=by unfold psX fnX lsX;rw [h1,h2];rfl
     rw [e]
     exact rps_fn u.tok ka kn kc u.kids hv hf (by simpa using h2) hs hp
   | false =>
     have e:psX u=none:=by unfold psX;rw [h1,h2];rfl
     rw [e]
     exact rps_no u.tok ka kn kc h1 h2 hs
def OtP (W:World) (r:Option (List SX×Nat)) (e:Ending) (w':World):Prop:=Below W.heap.size W w'∧match r with
 | none=>∃ va vn vc n,e=.returned (.tuple #[.slice va vn vc,.int .i64 n,.bool false])
 | some (p,n)=>∃ va vn vc,e=.returned (.tuple #[.slice va vn vc,.int .i64 (n:Int),.bool true])∧∃ lv,Rob W.heap.size w'.heap.size w' (fun w2=>PtL w2 (.slice va vn vc) p lv)
theorem OtP.no {W w':World} {va:Option Addr} {vn vc:Nat} {n:Int} (h:Below W.heap.size W w'):OtP W none (.returned (.tuple #[.slice va vn vc,.int .i64 n,.bool false])) w':=⟨h,_,_,_,_,rfl⟩
theorem pt_nilR (w:World):PtL w (.slice none 0 0) [] (fun _=>.slice none 0 0):=⟨0,0,⟨none,0,rfl,Nat.le_refl _,by decide,fun h=>absurd h (by simp)⟩,fun t h=>absurd h (by simp),fun t h=>absurd h (by simp)⟩
theorem OtP.stop {W w':World} (h:Below W.heap.size W w'):OtP W (some ([],0)) (.returned (.tuple #[.slice none 0 0,.int .i64 0,.bool true])) w':=⟨h,_,_,_,rfl,_,fun w2 _=>pt_nilR w2⟩
theorem OtP.one {W w:World} {s:S6} {n:Nat} (h:Below W.heap.size W w):OtP W (some ([(s,[])],n)) (.returned (.tuple #[.slice (some ⟨w.heap.size,0,none⟩) 1 1,.int .i64 (n:Int),.bool true])) (w.alloc (.cells (s7a s (.slice none 0 0)) 46)) :=
 ⟨h.alloc h.size _,_,_,_,rfl,_,fun w2 h2=>pt_one ((h2 _ h.size (by simp)).trans (heap_alloc_last w _)) (cl_nil w2)⟩
theorem otX_cons (v:V) (r:List V):otX (v::r)=if (v.tok.k == 4)=true then (if v.tok.fl=true then some ([(⟨3,v.tok.tx,0,⟨#[]⟩,0,0⟩,[])],1) else none)
  else if ((dlT v.tok).toList == [46])=true then (match r with | u::_=>if (u.tok.k == 1)=true then some ([(⟨2,u.tok.tx,0,⟨#[]⟩,0,0⟩,[])],2) else none | []=>none)
  else if (v.tok.k == 19)=true then (match attrX (trm v.kids) with | some s=>some ([(s,[])],1) | none=>none)
  else if (v.tok.k == 16)=true then (match r with | u::_=>(match psX u with | some p=>some (p,2) | none=>none) | []=>none)
  else if (v.tok.k == 13 || decide (0<cbT (dlT v.tok)))=true then some ([],0) else none:=rfl
theorem OtP.drew {W w':World} {r:Option (List SX×Nat)} {e:Ending} (h:OtP W r e w'):OtP W r e w'.drew:=by
 obtain ⟨h1,h2⟩:=h
 refine ⟨h1.drew,?_⟩
 cases r with
 | none=>exact h2
 | some x=>exact h2
def AttrC:Prop:=∀ (Q:Nat→Prop) (w:World) (v:Value) (vs:List V),VsAt Q w v vs→vs.length≤100000→(∀ x∈vs,x.tok.tx.size≤1000000000000)→Calls Tryz.prog 84 #[v] w (SqPost w (attrX vs))
theorem rother_any (hatt:AttrC) {P:Nat→Prop} {W:World} {val:Value} {v:V} {r:List V} (hv:VsAt P W val (v::r)) (hf:Fit (v::r))
  (hp:∀ u∈v::r,∀ kv,VsAt P W kv u.kids→∀ w,Below W.heap.size W w→Calls Tryz.prog 8 #[kv] w (PaP w (parseZ u.kids))):Calls Tryz.prog 53 #[val] W (OtP W (otX (v::r))):=by
 obtain ⟨b,off,cap,ka,kn,kc,rfl,hc1,hc2,hcell,hkid,htl⟩:=hv.item
 have HOX:=hid_mk (otX_cons v r)
 have hn:r.length+1≤100000:=hf.len
 have hkf:Fit v.kids:=hf.kids v (by simp)
 have HTX:Hid (∀ u∈v::r,u.tok.tx.size≤1000000000000):=fun u hu=>hf.tx' u hu
 have HPP:=hid_mk hp
 have HKID:=hid_mk hkid
 have HFU:Hid (∀ u∈r,Fit u.kids):=fun u hu=>hf.kids u (by simp [hu])
 -- the second one
 have H2:Hid (∀ y ys,r=y::ys→∃ ya yn yc,(∀ w,Below W.heap.size W w→VC w b (off+6) y.tok (.slice ya yn yc))∧VsAt P W (.slice ya yn yc) y.kids):=fun y ys e=>by
  subst e
  obtain ⟨b',off',cap',_,_,_,ya,yn,yc,e',_,_,h3,_,h4,_,_⟩:=hv.item2
  cases e'
  exact ⟨ya,yn,yc,fun w hb=>(h3 w hb).2,h4⟩
 obtain ⟨p0,p1,p2,p3,p4,p5⟩:=hcell W (Below.refl _ _)
 obtain ⟨t,ht⟩:∃ t,t=v.tok:=⟨_,rfl⟩
 have HT:Hid (v.tok=t):=ht.symm
 rw [← ht] at p0 p1 p2 p3 p4
 obtain ⟨N,hN⟩:∃ N,N=r.length+1:=⟨_,rfl⟩
 rw [← hN] at hc1 hn ⊢
 have HN:=hid_mk hN
 have h0N:0<N:=by omega
 obtain ⟨tk,tx,un,wh,fl⟩:=t
 dsimp only at p0 p1 p2 p3 p4 p5
 obtain ⟨W1,hW1⟩:∃ W1,W1=W.alloc (.cells #[.int .i64 tk,.string tx,.string un,.bool wh,.bool fl,.slice ka kn kc] 34):=⟨_,rfl⟩
 have hB1:Below W.heap.size W W1:=by rw [hW1];exact (Below.refl _ _).alloc (Nat.le_refl _) _
 have x1:W1.heap[W.heap.size]? = some (.cells #[.int .i64 tk,.string tx,.string un,.bool wh,.bool fl,.slice ka kn kc] 34 (0,0)):=by rw [hW1];exact heap_alloc_last W _
 have hl1:W.heap.size<W1.heap.size:=(Array.getElem?_eq_some_iff.1 x1).1
 have HX:Hid (∀ w,Below W1.heap.size W1 w→w.heap[W.heap.size]? = some (.cells #[.int .i64 tk,.string tx,.string un,.bool wh,.bool fl,.slice ka kn kc] 34 (0,0))):=fun w hb=>(hb.block _ hl1).trans x1
 have HIS:Hid (∀ w k,Below W1.heap.size W1 w→Calls Tryz.prog 29 #[.agg #[.int .i64 tk,.string tx,.string un,.bool wh,.bool fl,.slice ka kn kc],.int .i64 k] w fun e w'=>e=.returned (.bool (tk == k))∧Below W1.heap.size W1 w'):=fun w k hb=>(ris_any w ⟨tk,tx,un,wh,fl⟩ ka kn kc k).mono fun e w' h=>⟨h.1,hb.trans (h.2.mono hb.size)⟩
 have HDE:Hid (∀ w,Below W1.heap.size W1 w→Calls Tryz.prog 32 #[.agg #[.int .i64 tk,.string tx,.string un,.bool wh,.bool fl,.slice ka kn kc]] w fun e w'=>e=.returned (.string (dlT ⟨tk,tx,un,wh,fl⟩))∧Below W1.heap.size W1 w'):=fun w hb=>(rdelim_any w ⟨tk,tx,un,wh,fl⟩ ka kn kc).mono fun e w' h=>⟨h.1,hb.trans (h.2.mono hb.size)⟩
 have HBW:Hid (∀ w,Below W1.heap.size W1 w→Below W.heap.size W w):=fun w hb=>hB1.trans (hb.mono hB1.size)
 obtain ⟨q0,q1,q2,q3,q4,q5⟩:=cells6 x1
 have hi4:=HIS.out W1 4 (Below.refl _ _)
 generalize hR:otX (v::r)=R at *
 generalize hD:dlT ⟨tk,tx,un,wh,fl⟩=D at *
 have HD:=hid_mk hD
 have HCELL:=hid_mk hcell
 have HW1:=hid_mk hW1
 clear hv hf hp hkid hcell htl hR hD ht hN hW1 hB1 x1 hl1
 go_enter Tryz.func53,Tryz.ntmps53
 go_upto_region 2 with (fail)
 rw [← HW1.out]
 clear HW1 p0 p1 p2 p3 p4 p5
 go_wp2_with (go_at_call 29;fail)
 refine hi4.mono ?_
 rintro e w2 ⟨rfl,hb2⟩
 clear hi4 q0 q1 q2 q3 q4 q5
 cases h4:(tk == 4) with
 | true =>
   have HE:Hid (R=if fl=true then some ([(⟨3,tx,0,⟨#[]⟩,0,0⟩,[])],1) else none):=by
    have h:=HOX.out
    rw [HT.out] at h
    simp only [h4,if_true] at h
    exact h
   obtain ⟨q0,q1,q2,q3,q4,q5⟩:=cells6 (HX.out w2 hb2)
   have HB2:=hid_mk (HBW.out w2 hb2)
   clear HOX HX HIS HDE HBW HCELL H2 HPP HKID HFU HTX hb2
   go_upto_region 3 with (fail)
   have z4:((w2.alloc (.cells #[.int .i64 3,.string tx,.int .i64 0,.string ⟨#[]⟩,.int .i64 0,.int .i64 0,.slice none 0 0] 46)).drew).cell? ⟨W.heap.size,4,none⟩=some (.bool fl):=by
    have hb:Below w2.heap.size w2 (w2.alloc (.cells #[.int .i64 3,.string tx,.int .i64 0,.string ⟨#[]⟩,.int .i64 0,.int .i64 0,.slice none 0 0] 46)).drew:=((Below.refl _ _).alloc (Nat.le_refl _) _).drew
    exact (hb.cell (p:=⟨W.heap.size,4,none⟩) (World.block_lt_of_cell? w2 _ q4)).trans q4
   go_region
   all_goals
    go_wp2
    refine bodyPost_ret (v:=.tuple #[.slice (some ⟨w2.heap.size,0,none⟩) 1 1,.int .i64 1,.bool fl]) (by simp [results,Tryz.results53,go_sem]) rfl ?_
    rw [HE.out]
    cases fl with
    | true=>exact (OtP.one (s:=⟨3,tx,0,⟨#[]⟩,0,0⟩) (n:=1) HB2.out).drew
    | false=>exact (OtP.no (HB2.out.alloc HB2.out.size _)).drew
 | false =>
   have HO2:Hid (R=if (D.toList == [46])=true then (match r with | u::_=>if (u.tok.k == 1)=true then some ([(⟨2,u.tok.tx,0,⟨#[]⟩,0,0⟩,[])],2) else none | []=>none)
    else if (tk == 19)=true then (match attrX (trm v.kids) with | some s=>some ([(s,[])],1) | none=>none)
    else if (tk == 16)=true then (match r with | u::_=>(match psX u with | some p=>some (p,2) | none=>none) | []=>none)
    else if (tk == 13 || decide (0<cbT D))=true then some ([],0) else none):=by
    have h:=HOX.out
    rw [HT.out] at h
    simp only [h4,Bool.false_eq_true,if_false] at h
    rw [HD.out] at h
    exact h
   obtain ⟨q0,q1,q2,q3,q4,q5⟩:=cells6 (HX.out w2 hb2)
   have hde:=HDE.out w2 hb2
   clear HOX hb2
   go_wp2_with (go_at_call 32;fail)
   refine hde.mono ?_
   rintro e w3 ⟨rfl,hb3⟩
   clear hde q0 q1 q2 q3 q4 q5
   cases hd:(D.toList == [46]) with
   | true =>
     have HB3:=hid_mk (HBW.out w3 hb3)
     cases r with
     | nil =>
       have HE:Hid (R=none):=by rw [Hid,HO2.out,hd];rfl
       have hlt:decide ((N:Int)<2)=true:=decide_eq_true (by have:=HN.out;rw [List.length_nil] at this;omega)
       clear HO2 HX HIS HDE HBW HCELL H2 HPP HKID HFU HTX hb3
       go_wp2
       go_ret3
       rw [HE.out]
       exact OtP.no HB3.out
     | cons y ys =>
       have HE:Hid (R=if (y.tok.k == 1)=true then some ([(⟨2,y.tok.tx,0,⟨#[]⟩,0,0⟩,[])],2) else none):=by rw [Hid,HO2.out,hd];rfl
       have hN2:2≤N:=by have:=HN.out;rw [List.length_cons] at this;omega
       have hlt:decide ((N:Int)<2)=false:=decide_eq_false (by omega)
       obtain ⟨ya,yn,yc,hyc,_⟩:=H2.out y ys rfl
       have HYC:=hid_mk hyc
       obtain ⟨p0,p1,p2,p3,p4,p5⟩:=hyc w3 HB3.out
       generalize y.tok=yt at *
       obtain ⟨yk,ytx,yun,ywh,yfl⟩:=yt
       have hi1:=ris_any w3 ⟨yk,ytx,yun,ywh,yfl⟩ ya yn yc 1
       unfold vAg at hi1
       dsimp only at hi1 p0 p1 p2 p3 p4 p5 HE
       clear HO2 HX HIS HDE HBW HCELL H2 HPP HKID HFU HTX hb3 hyc
       go_wp2_with (go_at_call 29;fail)
       refine hi1.mono ?_
       rintro e w4 ⟨rfl,hb4⟩
       have HB4:Hid (Below W.heap.size W w4):=HB3.out.trans (hb4.mono HB3.out.size)
       clear hi1 p0 p1 p2 p3 p4 p5
       cases hy:(yk == 1) with
       | false =>
         have HE2:Hid (R=none):=by rw [Hid,HE.out,hy];rfl
         clear HE HYC hb4 HB3
         go_wp2
         go_ret3
         rw [HE2.out]
         exact OtP.no HB4.out
       | true =>
         have HE2:Hid (R=some ([(⟨2,ytx,0,⟨#[]⟩,0,0⟩,[])],2)):=by rw [Hid,HE.out,hy];rfl
         obtain ⟨p0,p1,p2,p3,p4,p5⟩:=HYC.out w4 HB4.out
         dsimp only at p0 p1 p2 p3 p4 p5
         clear HE HYC hb4 HB3
         go_wp2
         go_ret3
         rw [HE2.out]
         exact OtP.one (s:=⟨2,ytx,0,⟨#[]⟩,0,0⟩) (n:=2) HB4.out
   | false =>
     have HO3:Hid (R=if (tk == 19)=true then (match attrX (trm v.kids) with | some s=>some ([(s,[])],1) | none=>none)
      else if (tk == 16)=true then (match r with | u::_=>(match psX u with | some p=>some (p,2) | none=>none) | []=>none)
      else if (tk == 13 || decide (0<cbT D))=true then some ([],0) else none):=by rw [Hid,HO2.out,hd];rfl
     obtain ⟨q0,q1,q2,q3,q4,q5⟩:=cells6 (HX.out w3 hb3)
     have hi19:=HIS.out w3 19 hb3
     clear HO2 hb3
     go_wp2_with (go_at_call 29;fail)
     refine hi19.mono ?_
     rintro e w4 ⟨rfl,hb4⟩
     clear hi19 q0 q1 q2 q3 q4 q5
     cases h19:(tk == 19) with
     | true =>
       have HE:Hid (R=match attrX (trm v.kids) with | some s=>some ([(s,[])],1) | none=>none):=by rw [Hid,HO3.out,h19];rfl
       obtain ⟨q0,q1,q2,q3,q4,q5⟩:=cells6 (HX.out w4 hb4)
       have hB4:=HBW.out w4 hb4
       have htr:=trim_any (HKID.out.keep hB4) hkf.len
       have HB4:=hid_mk hB4
       have htm:=trm_len v.kids
       have hkl:(trm v.kids).length≤100000:=Nat.le_trans htm hkf.len
       have htx:∀ x∈trm v.kids,x.tok.tx.size≤1000000000000:=fun x hx=>hkf.tx' x (trm_mem _ x hx)
       generalize trm v.kids=tm at *
       clear HO3 HX HIS HDE HBW HCELL H2 HPP HKID HFU HTX hb4 hB4 htm hkf
       go_wp2_with (go_at_call 16;fail)
       refine htr.mono ?_
       rintro e w5 ⟨ra,rn,rc,rfl,hv5,hz1,hz2,hz3,hb5⟩
       have hat:=hatt _ w5 _ _ hv5 hkl htx
       have hB5:Below W.heap.size W w5:=HB4.out.trans (hb5.mono HB4.out.size)
       have HB5:=hid_mk hB5
       generalize attrX tm=Z at *
       clear htr hb5 hv5 hkl htx q0 q1 q2 q3 q4 q5 hB5 HB4 hz1
       go_wp2_with (go_at_call 84;fail)
       refine hat.mono ?_
       rintro e w6 ⟨⟨s0,rfl,hs0⟩,hb6⟩
       have hB6:Below W.heap.size W w6:=HB5.out.trans (hb6.mono HB5.out.size)
       have HS0:=hid_mk hs0
       have HB6:=hid_mk hB6
       obtain ⟨sk,snm,sop,sv,sa,sb⟩:=s0
       rw [show (sC ⟨sk,snm,sop,sv,sa,sb⟩).toArray=#[.int .i64 sk,.string snm,.int .i64 sop,.string sv,.int .i64 sa,.int .i64 sb,.slice none 0 0] from rfl]
       obtain ⟨w7,hw7⟩:∃ w7,w7=w6.alloc (.cells #[.int .i64 sk,.string snm,.int .i64 sop,.string sv,.int .i64 sa,.int .i64 sb,.slice none 0 0] 46):=⟨_,rfl⟩
       have x7:w7.heap[w6.heap.size]? = some (.cells #[.int .i64 sk,.string snm,.int .i64 sop,.string sv,.int .i64 sa,.int .i64 sb,.slice none 0 0] 46 (0,0)):=by rw [hw7];exact heap_alloc_last w6 _
       have HB7:Hid (Below W.heap.size W w7):=by rw [Hid,hw7];exact hB6.alloc hB6.size _
       obtain ⟨⟨j0,j1,j2,j3,j4,j5,j6⟩,_⟩:=cells7 x7
       have HW7:=hid_mk hw7
       clear hat hs0 hb6 hB6 hw7 x7 HB5
       go_upto_region 10 with (fail)
       rw [← HW7.out]
       clear HW7
       cases Z with
       | none =>
         have HE2:Hid (R=none):=HE.out
         clear HE HS0
         rw [show (none:Option S6).isSome=false from rfl]
         go_wp2
         go_ret3
         rw [HE2.out]
         exact OtP.no (HB7.out.alloc HB7.out.size _)
       | some z =>
         have HE2:Hid (R=some ([(z,[])],1)):=HE.out
         have hz:=HS0.out z rfl
         have HZ:=hid_mk hz
         clear HE HS0 hz
         rw [show (some z).isSome=true from rfl]
         go_wp2
         go_ret3
         rw [HE2.out,← HZ.out]
         exact OtP.one (s:=⟨sk,snm,sop,sv,sa,sb⟩) (n:=1) HB7.out
     | false =>
       have HO4:Hid (R=if (tk == 16)=true then (match r with | u::_=>(match psX u with | some p=>some (p,2) | none=>none) | []=>none)
        else if (tk == 13 || decide (0<cbT D))=true then some ([],0) else none):=by rw [Hid,HO3.out,h19];rfl
       obtain ⟨q0,q1,q2,q3,q4,q5⟩:=cells6 (HX.out w4 hb4)
       have hi16:=HIS.out w4 16 hb4
       clear HO3 hb4
       go_wp2_with (go_at_call 29;fail)
       refine hi16.mono ?_
       rintro e w5 ⟨rfl,hb5⟩
       clear hi16 q0 q1 q2 q3 q4 q5
       cases h16:(tk == 16) with
       | true =>
         have HB5:=hid_mk (HBW.out w5 hb5)
         cases r with
         | nil =>
           have HE:Hid (R=none):=by rw [Hid,HO4.out,h16];rfl
           have hlt:decide ((N:Int)<2)=true:=decide_eq_true (by have:=HN.out;rw [List.length_nil] at this;omega)
           clear HO4 HX HIS HDE HBW HCELL H2 HPP HKID HFU HTX hb5
           go_wp2
           go_ret3
           rw [HE.out]
           exact OtP.no HB5.out
         | cons y ys =>
           have HE:Hid (R=match psX y with | some p=>some (p,2) | none=>none):=by rw [Hid,HO4.out,h16];rfl
           have hN2:2≤N:=by have:=HN.out;rw [List.length_cons] at this;omega
           have hlt:decide ((N:Int)<2)=false:=decide_eq_false (by omega)
           obtain ⟨ya,yn,yc,hyc,hyk⟩:=H2.out y ys rfl
           obtain ⟨p0,p1,p2,p3,p4,p5⟩:=hyc w5 HB5.out
           have hps:=rpseudo_any y ya yn yc (hyk.keep HB5.out) (HFU.out y (by simp)) (HTX.out y (by simp)) (fun w hb=>HPP.out y (by simp) _ hyk w (HB5.out.trans (hb.mono HB5.out.size)))
           unfold vAg at hps
           generalize psX y=Z at *
           generalize y.tok=yt at *
           obtain ⟨yk,ytx,yun,ywh,yfl⟩:=yt
           dsimp only at hps p0 p1 p2 p3 p4 p5
           clear HO4 HX HIS HDE HBW HCELL H2 HPP HKID HFU HTX hb5 hyc hyk
           go_wp2_with (go_at_call 85;fail)
           refine hps.mono ?_
           rintro e w6 ⟨va,vn,vc,hb6,hq⟩
           have hB6:Below W.heap.size W w6:=HB5.out.trans (hb6.mono HB5.out.size)
           have HB6:=hid_mk hB6
           have h56:W.heap.size≤w5.heap.size:=HB5.out.size
           clear hps hb6 hB6 p0 p1 p2 p3 p4 p5
           cases Z with
           | none =>
             have hq:e=.returned (.tuple #[.slice va vn vc,.bool false]):=hq
             subst hq
             have HE2:Hid (R=none):=HE.out
             clear HE
             go_wp2
             go_ret3
             rw [HE2.out]
             exact OtP.no HB6.out
           | some z =>
             obtain ⟨rfl,lvz,hrob⟩:=hq
             have HE2:Hid (R=some (z,2)):=HE.out
             have HRO:=hid_mk (hrob.wide h56 (Nat.le_refl _))
             clear HE hrob
             go_wp2
             go_ret3
             rw [HE2.out]
             exact ⟨HB6.out,_,_,_,rfl,_,HRO.out⟩
       | false =>
         have HO5:Hid (R=if (tk == 13 || decide (0<cbT D))=true then some ([],0) else none):=by rw [Hid,HO4.out,h16];rfl
         obtain ⟨q0,q1,q2,q3,q4,q5⟩:=cells6 (HX.out w5 hb5)
         have hi13:=HIS.out w5 13 hb5
         clear HO4 hb5
         go_wp2_with (go_at_call 29;fail)
         refine hi13.mono ?_
         rintro e w6 ⟨rfl,hb6⟩
         clear hi13 q0 q1 q2 q3 q4 q5
         cases h13:(tk == 13) with
         | true =>
           have HE:Hid (R=some ([],0)):=by rw [Hid,HO5.out,h13];rfl
           have HB6:=hid_mk (HBW.out w6 hb6)
           clear HO5 HX HIS HDE HBW HCELL H2 HPP HKID HFU HTX hb6
           go_wp2
           go_ret3
           rw [HE.out]
           exact OtP.stop HB6.out
         | false =>
           have HO6:Hid (R=if decide (0<cbT D)=true then some ([],0) else none):=by rw [Hid,HO5.out,h13];rfl
           obtain ⟨q0,q1,q2,q3,q4,q5⟩:=cells6 (HX.out w6 hb6)
           have hde:=HDE.out w6 hb6
           clear HO5 hb6
           go_wp2_with (go_at_call 32;fail)
           refine hde.mono ?_
           rintro e w7 ⟨rfl,hb7⟩
           have hcb:=rcomb_any w7 D
           have HB7:=hid_mk (HBW.out w7 hb7)
           clear hde q0 q1 q2 q3 q4 q5 hb7
           generalize cbT D=cb at *
           go_wp2_with (go_at_call 31;fail)
           refine hcb.mono ?_
           rintro e w8 ⟨rfl,hb8⟩
           have HB8:Hid (Below W.heap.size W w8):=HB7.out.trans (hb8.mono HB7.out.size)
           clear hcb hb8
           cases hc:decide (0<cb) with
           | true =>
             have HE:Hid (R=some ([],0)):=by rw [Hid,HO6.out,hc];rfl
             clear HO6 HX HIS HDE HBW HCELL H2 HPP HKID HFU HTX HB7
             go_wp2
             go_ret3
             rw [HE.out]
             exact OtP.stop HB8.out
           | false =>
             have HE:Hid (R=none):=by rw [Hid,HO6.out,hc];rfl
             clear HO6 HX HIS HDE HBW HCELL H2 HPP HKID HFU HTX HB7
             go_wp2
             go_ret3
             rw [HE.out]
             exact OtP.no HB8.out
abbrev TX:=S6×Value×List Cx
def rowS (ps:List TX):List Value:=ps.flatMap fun x=>s7 x.1 x.2.1
def prT (x:TX):SX:=(x.1,x.2.2)
theorem rowS_len:∀ ps:List TX,(rowS ps).length=ps.length * 7
 | []=>rfl
 | x::r=>by
   unfold rowS
   rw [List.flatMap_cons,List.length_append]
   have:=rowS_len r
   unfold rowS at this
   rw [this,List.length_cons]
   show 7+_=_
   omega
theorem rowS_at:∀ {ps:List TX} {i:Nat} (h:i<ps.length) (y:Nat) (_:y<7),(rowS ps)[i * 7+y]? = (s7 (ps[i]'h).1 (ps[i]'h).2.1)[y]?
 | x::r,0,_,y,hy=>by
   unfold rowS
   rw [List.flatMap_cons,Nat.zero_mul,Nat.zero_add,List.getElem?_append_left (by show y<7;exact hy)]
   rfl
 | x::r,i+1,h,y,hy=>by
   unfold rowS
   rw [List.flatMap_cons,List.getElem?_append_right (by show 7≤_;omega)]
   have:=rowS_at (ps:=r) (i:=i) (by simpa using h) y hy
   unfold rowS at this
   rw [show (i+1) * 7+y - (s7 x.1 x.2.1).length=i * 7+y by show _ - 7=_;omega,this]
   rfl
theorem rowS_app (a b:List TX):rowS (a++b)=rowS a++rowS b:=List.flatMap_append
def trip (p:List SX) (lv:Nat→Value):List TX:=p.mapIdx fun t x=>(x.1,lv t,x.2)
theorem trip_len (p:List SX) (lv:Nat→Value):(trip p lv).length=p.length:=by simp [trip]
theorem trip_at (p:List SX) (lv:Nat→Value) (t:Nat) (h:t<p.length) (h':t<(trip p lv).length):(trip p lv)[t]'h'=((p[t]'h).1,lv t,(p[t]'h).2):=by simp [trip]
theorem trip_pr (p:List SX) (lv:Nat→Value):(trip p lv).map prT=p:=by
 refine List.ext_getElem (by simp [trip]) fun i h1 h2=>?_
 rw [List.getElem_map,trip_at p lv i h2]
 rfl
theorem PtL.news {w:World} {b off n c:Nat} {p:List SX} {lv:Nat→Value} (h:PtL w (.slice (some ⟨b,off,none⟩) n c) p lv) (hp:0<p.length):n=p.length∧(∀ j u,(rowS (trip p lv))[j]? = some u→w.cell? (Addr.add ⟨b,off,none⟩ j)=some u)∧∀ u∈rowS (trip p lv),u.oneCell'=true:=by
 obtain ⟨b',off',⟨a,cap,e,_,_,ha⟩,h1,h2⟩:=h
 cases e
 obtain ⟨e,_⟩:=ha hp
 cases e
 refine ⟨rfl,fun j u hu=>?_,fun u hu=>?_⟩
 ·have hj:=(List.getElem?_eq_some_iff.1 hu).1
  rw [rowS_len,trip_len] at hj
  have hi:j / 7<p.length:=by omega
  have hj2:j=j / 7 * 7+j % 7:=by omega
  rw [hj2,rowS_at (by rw [trip_len];exact hi) _ (by omega),trip_at p lv _ hi] at hu
  have:=h1 (j / 7) hi (j % 7) u hu
  rw [Addr.add_mid,show off+j=off+j / 7 * 7+j % 7 by omega]
  exact this
 ·unfold rowS at hu
  obtain ⟨x,hx,hu⟩:=List.mem_flatMap.1 hu
  obtain ⟨t,ht,rfl⟩:=List.mem_iff_getElem.1 hx
  rw [trip_len] at ht
  rw [trip_at p lv t ht] at hu
  obtain ⟨la,ln,lc,e⟩:=(h2 t ht).1
  simp only [s7,e,List.mem_cons,List.not_mem_nil,or_false] at hu
  rcases hu with rfl | rfl | rfl | rfl | rfl | rfl | rfl <;> rfl
structure CoI (B:Nat) (w:World) (v:Value) (ps:List TX):Prop where
 own:w.ownsRow B 46 7 v ps.length (rowS ps)
 ls:∀ x∈ps,(∃ a n c,x.2.1=.slice a n c)∧∃ lo hi,B≤lo∧hi≤w.heap.size∧Rob lo hi w (fun w2=>ClAt w2 x.2.1 x.2.2)∧∀ g,v.ownBlock=some g→g<lo∨hi≤g
theorem CoI.nil (B:Nat) (w:World):CoI B w (.slice none 0 0) []:=⟨World.ownsRow_nil w B 46 7,fun x hx=>absurd hx (by simp)⟩
theorem own_keep {w w':World} {B:Nat} {T:TypeId} {s n:Nat} {v:Value} {xs:List Value} (h:w.ownsRow B T s v n xs) (hb:Below w.heap.size w w'):w'.ownsRow B T s v n xs:=own_stay h fun g hg _ _=>hb.block g hg
theorem CoI.keep {B:Nat} {w w':World} {v:Value} {ps:List TX} (h:CoI B w v ps) (hb:Below w.heap.size w w'):CoI B w' v ps:=by
 refine ⟨own_keep h.own hb,fun x hx=>?_⟩
 obtain ⟨h1,lo,hi,h2,h3,h4,h5⟩:=h.ls x hx
 exact ⟨h1,lo,hi,h2,Nat.le_trans h3 hb.size,h4.to fun k _ hk=>hb.block k (by omega),h5⟩
theorem own_blk {w:World} {B:Nat} {T:TypeId} {s n:Nat} {v:Value} {xs:List Value} (h:w.ownsRow B T s v n xs):∀ g,v.ownBlock=some g→B≤g∧g<w.heap.size:=fun g e=>by
 rcases h.2 with ⟨rfl,_⟩ | ⟨g',cap,cur,rfl,hB,hg,_⟩
 ·cases e
 ·cases e
  exact ⟨hB,(Array.getElem?_eq_some_iff.1 hg).1⟩
theorem CoI.add {B:Nat} {w0 w w2:World} {v v2 u:Value} {ps:List TX} {p:List SX} {lv:Nat→Value} (h:CoI B w0 v ps) (hb:Below w0.heap.size w0 w) (hB:B≤w0.heap.size) (hr:Rob w0.heap.size w.heap.size w fun w2=>PtL w2 u p lv)
  (ho:w2.ownsRow B 46 7 v2 (ps.length+p.length) (rowS ps++rowS (trip p lv))) (hg:w.grownBy w2 v.ownBlock) (hat:v2.ownBlock=v.ownBlock∨v2.ownBlock=some w.heap.size):CoI B w2 v2 (ps++trip p lv):=by
 have hk:=h.keep hb
 refine ⟨by rw [List.length_append,trip_len,rowS_app];exact ho,fun x hx=>?_⟩
 rcases List.mem_append.1 hx with hx | hx
 ·obtain ⟨h1,lo,hi,h2,h3,h4,h5⟩:=hk.ls x hx
  refine ⟨h1,lo,hi,h2,Nat.le_trans h3 hg.size,h4.to fun k hk1 hk2=>hg.block k (by omega) (fun e=>?_),fun g e=>?_⟩
  ·have:=h5 k e.symm
   omega
  ·rcases hat with e2 | e2
   ·exact h5 g (e2.symm.trans e)
   ·rw [e2] at e
    cases e
    exact .inr h3
 ·obtain ⟨t,ht,rfl⟩:=List.mem_iff_getElem.1 hx
  have ht':t<p.length:=by rw [trip_len] at ht;exact ht
  rw [trip_at p lv t ht']
  obtain ⟨_,_,_,_,h2⟩:=hr.here
  refine ⟨(h2 t ht').1,w0.heap.size,w.heap.size,hB,hg.size,?_,fun g e=>?_⟩
  ·refine (hr.imp fun w3 h3=>?_).to fun k hk1 hk2=>hg.block k hk2 (fun e=>?_)
   ·obtain ⟨_,_,_,_,h4⟩:=h3
    exact (h4 t ht').2
   ·have:=(own_blk h.own k e.symm).2
    omega
  ·rcases hat with e2 | e2
   ·exact .inl (own_blk h.own g (e2.symm.trans e)).2
   ·rw [e2] at e
    cases e
    exact .inr (Nat.le_refl _)
theorem CoI.rob {B:Nat} {w:World} {v:Value} {ps:List TX} (h:CoI B w v ps):∃ lv,Rob B w.heap.size w fun w2=>PtL w2 v (ps.map prT) lv:=by
 refine ⟨fun t=>match ps[t]? with | some x=>x.2.1 | none=>.slice none 0 0,fun w2 ha=>?_⟩
 have hl:(ps.map prT).length=ps.length:=List.length_map ..
 have hlv:∀ t (ht:t<ps.length),(match ps[t]? with | some x=>x.2.1 | none=>.slice none 0 0)=(ps[t]'ht).2.1:=fun t ht=>by rw [List.getElem?_eq_getElem ht]
 have hls:∀ t (ht:t<ps.length),(∃ a n c,(ps[t]'ht).2.1=.slice a n c)∧ClAt w2 (ps[t]'ht).2.1 (ps[t]'ht).2.2:=fun t ht=>by
  obtain ⟨h1,lo,hi,h2,h3,h4,_⟩:=h.ls _ (List.getElem_mem ht)
  exact ⟨h1,h4 w2 fun k hk1 hk2=>ha k (by omega) (by omega)⟩
 obtain ⟨hlen,⟨rfl,h0⟩ | ⟨g,cap,cur,rfl,hBg,hg,hnc,hcm,hcs,htake⟩⟩:=h.own
 ·have:ps=[]:=List.length_eq_zero_iff.1 h0
  subst this
  exact ⟨0,0,⟨none,0,rfl,Nat.le_refl _,by decide,fun h=>absurd h (by simp)⟩,fun t ht=>absurd ht (by simp),fun t ht=>absurd ht (by simp)⟩
 ·have hgl:=(Array.getElem?_eq_some_iff.1 hg).1
  have hg2:=(ha g hBg hgl).trans hg
  refine ⟨g,0,⟨_,cap,by rw [hl],by rw [hl];exact hnc,Nat.le_trans hcm (by decide),fun _=>⟨rfl,(Array.getElem?_eq_some_iff.1 hg2).1⟩⟩,fun t ht y u hu=>?_,fun t ht=>?_⟩
  ·have ht':t<ps.length:=by rw [hl] at ht;exact ht
   have hy:y<7:=(List.getElem?_eq_some_iff.1 hu).1
   simp only [hlv t ht'] at hu
   have e:(ps.map prT)[t]'ht=prT (ps[t]'ht'):=List.getElem_map ..
   rw [e] at hu
   have h3:=(rowS_at ht' y hy).trans hu
   rw [← htake] at h3
   have hlt:t * 7+y<ps.length * 7:=by
    have:=(List.getElem?_eq_some_iff.1 h3).1
    rw [List.length_take] at this
    omega
   rw [List.getElem?_take_of_lt hlt,Array.getElem?_toList] at h3
   rw [cellAt hg2,Nat.zero_add]
   exact h3
  ·have ht':t<ps.length:=by rw [hl] at ht;exact ht
   have e:(ps.map prT)[t]'ht=prT (ps[t]'ht'):=List.getElem_map ..
   simp only [hlv t ht']
   rw [e]
   exact hls t ht'
def cmF:Nat→List V→Option (List SX×List V)
 | 0,l=>some ([],l)
 | f+1,l=>if l.isEmpty=true then some ([],[]) else match otX l with
   | none=>none
   | some (p,n)=>if n=0 then some ([],l) else match cmF f (l.drop n) with
     | none=>none
     | some (q,r)=>some (p++q,r)
def tgX (l:List V):List SX×List V:=match l with
 | v::r=>if (v.tok.k == 1)=true then ([(⟨1,foldS v.tok.tx,0,⟨#[]⟩,0,0⟩,[])],r) else if ((dlT v.tok).toList == [42])=true then ([(⟨1,⟨#[42]⟩,0,⟨#[]⟩,0,0⟩,[])],r) else ([],l)
 | []=>([],[])
def preC (t:List SX):Option (List SX×List V)→Option (List SX×List V)
 | none=>none
 | some (q,r)=>some (t++q,r)
def neC:Option (List SX×List V)→Option (List SX×List V)
 | some (x::q,r)=>some (x::q,r)
 | _=>none
def cmX (l:List V):Option (List SX×List V):=neC (preC (tgX l).1 (cmF l.length (tgX l).2))
theorem allO_len {α β:Type} {f:α→Option β}:∀ {l:List α} {q:List β},allO f l=some q→q.length=l.length
 | [],q,h=>by
   unfold allO at h
   cases h
   rfl
 | a::r,q,h=>by
   unfold allO at h
   cases h1:f a with
   | none=>rw [h1] at h;cases h
   | some b =>
     rw [h1] at h
     cases h2:allO f r with
     | none=>rw [h2] at h;cases h
     | some l =>
       rw [h2] at h
       cases h
       rw [List.length_cons,List.length_cons,allO_len h2]
theorem otX_ok {l:List V} (h0:l≠[]) {p:List SX} {n:Nat} (h:otX l=some (p,n)):(n=0∧p=[])∨(1≤n∧n≤l.length∧0<p.length∧p.length≤10):=by
 rw [ot_main l h0] at h
 unfold otY at h
 cases ho:otherR l with
 | none =>
   rw [ho] at h
   simp only [] at h
   split at h
   ·cases h
    exact .inl ⟨rfl,rfl⟩
   ·cases h
 | some x =>
   obtain ⟨ls,m⟩:=x
   rw [ho] at h
   simp only [] at h
   obtain ⟨h1,h2,h3,h4,_⟩:=otherR_ok l ls m ho
   cases ha:allO (fS parseZ) ls with
   | none=>rw [ha] at h;cases h
   | some q =>
     rw [ha] at h
     cases h
     have hl:=allO_len ha
     have:0<ls.length:=List.length_pos_iff.2 h1
     exact .inr ⟨h3,h4,by omega,by omega⟩
theorem preC_app (a b:List SX) (o:Option (List SX×List V)):preC a (preC b o)=preC (a++b) o:=by
 cases o with
 | none=>rfl
 | some x =>
   obtain ⟨q,r⟩:=x
   simp only [preC,List.append_assoc]
theorem cmF_nil (f:Nat):cmF f []=some ([],[]):=by
 cases f with
 | zero=>rfl
 | succ f=>rfl
def stC (f:Nat) (l:List V):Option (List SX×Nat)→Option (List SX×List V)
 | none=>none
 | some (p,n)=>if n=0 then some ([],l) else preC p (cmF f (l.drop n))
theorem cmF_step {f:Nat} {l:List V} (h0:l≠[]):cmF (f+1) l=stC f l (otX l):=by
 conv=>lhs;unfold cmF
 rw [if_neg (by rw [List.isEmpty_iff];exact h0)]
 cases otX l with
 | none=>rfl
 | some x =>
   obtain ⟨p,n⟩:=x
   simp only [stC]
   split
   ·rfl
   ·cases cmF f (l.drop n) with
    | none=>rfl
    | some y=>rfl
def CoP (P:Nat→Prop) (W:World) (r:Option (List SX×List V)) (e:Ending) (w':World):Prop:=Below W.heap.size W w'∧match r with
 | none=>∃ va vn vc ra rn rc,e=.returned (.tuple #[.slice va vn vc,.slice ra rn rc,.bool false])
 | some (p,us)=>∃ va vn vc ra rn rc,e=.returned (.tuple #[.slice va vn vc,.slice ra rn rc,.bool true])∧(∃ lv,Rob W.heap.size w'.heap.size w' fun w2=>PtL w2 (.slice va vn vc) p lv)∧VsAt P W (.slice ra rn rc) us
theorem CoI.sl {B:Nat} {w:World} {v:Value} {ps:List TX} (h:CoI B w v ps):∃ a c,v=.slice a ps.length c:=by
 rcases h.own.2 with ⟨rfl,e⟩ | ⟨g,cap,cur,rfl,_⟩
 ·exact ⟨none,0,by rw [e]⟩
 ·exact ⟨_,cap,rfl⟩
theorem rob_lit {w:World} {s:S6}:Rob w.heap.size (w.alloc (.cells (s7a s (.slice none 0 0)) 46)).heap.size (w.alloc (.cells (s7a s (.slice none 0 0)) 46)) fun w2=>PtL w2 (.slice (some ⟨w.heap.size,0,none⟩) 1 1) [(s,[])] (fun _=>.slice none 0 0) :=
 fun w2 h2=>pt_one ((h2 _ (Nat.le_refl _) (by simp)).trans (heap_alloc_last w _)) (cl_nil w2)
theorem allO_cons {α β:Type} (f:α→Option β) (a:α) (r:List α):allO f (a::r)=match f a with
  | none=>none
  | some b=>match allO f r with
    | none=>none
    | some l=>some (b::l):=rfl
theorem allO_app {α β:Type} {f:α→Option β}:∀ (a b:List α),allO f (a++b)=match allO f a with
  | none=>none
  | some x=>match allO f b with
    | none=>none
    | some y=>some (x++y)
 | [],b=>by
   rw [List.nil_append,show allO f []=some [] from rfl]
   simp only []
   cases allO f b <;> rfl
 | c::a,b=>by
   have ih:=allO_app (f:=f) a b
   rw [List.cons_append,allO_cons,allO_cons]
   cases f c with
   | none=>rfl
   | some d =>
     simp only []
     rw [ih]
     cases allO f a with
     | none=>rfl
     | some x =>
       simp only []
       cases allO f b with
       | none=>rfl
       | some y=>rfl
def goC (ps:List Sv) (r:List V):Option (List SX×List V):=if stopB r=true then (match allO (fS parseZ) ps with | none=>none | some q=>some (q,r)) else none
theorem goC_app (ls ps:List Sv) (r:List V):goC (ls++ps) r=match allO (fS parseZ) ls with
  | none=>none
  | some q=>preC q (goC ps r):=by
 unfold goC
 cases stopB r with
 | false =>
   simp only [Bool.false_eq_true,if_false]
   cases allO (fS parseZ) ls <;> rfl
 | true =>
   simp only [if_true]
   rw [allO_app]
   cases allO (fS parseZ) ls with
   | none=>rfl
   | some q =>
     simp only []
     cases allO (fS parseZ) ps with
     | none=>rfl
     | some y=>rfl
theorem cmF_go:∀ (f:Nat) (us:List V),us.length≤f→cmF f us=goC (othZ us).1 (othZ us).2
 | 0,us,h=>by
   have:us=[]:=List.length_eq_zero_iff.1 (by omega)
   subst this
   rfl
 | f+1,us,h=>by
   by_cases h0:us=[]
   ·subst h0
    rfl
   rw [cmF_step h0,ot_main us h0]
   unfold otY
   cases ho:otherR us with
   | none =>
     rw [othZ_none ho]
     unfold goC
     simp only []
     cases stopB us with
     | true=>rfl
     | false=>rfl
   | some x =>
     obtain ⟨ls,n⟩:=x
     obtain ⟨_,_,h1,h2,_⟩:=otherR_ok us ls n ho
     rw [othZ_some ho]
     simp only []
     rw [goC_app]
     cases allO (fS parseZ) ls with
     | none=>rfl
     | some q =>
       simp only [stC]
       rw [if_neg (by omega),cmF_go f (us.drop n) (by rw [List.length_drop];omega)]
theorem ba_star {s:ByteArray} (h:(s.toList == [42])=true):s=⟨#[42]⟩:=by
 have h:s.toList=[42]:=by simpa using h
 rw [ByteArray.toList_eq] at h
 obtain ⟨d⟩:=s
 have e:d=#[42]:=by
  cases d with
  | mk l =>
    have:l=[42]:=h
    rw [this]
 rw [e]
theorem fold_star:foldS ⟨#[42]⟩=⟨#[42]⟩:=by kernel_rfl
theorem starB_l:starB.toList=[42]:=by kernel_rfl
theorem goC_tag (s:S6) (hs:s.k=1) (ps:List Sv) (r:List V):goC ((s,[])::ps) r=preC [(s,[])] (goC ps r):=by
 have h:=goC_app [(s,[])] ps r
 rw [List.singleton_append] at h
 rw [h,allO_one]
 have e:fS parseZ (s,[])=some (s,[]):=by
  show (if lstB s.k=true then _ else _)=_
  rw [hs]
  rfl
 rw [e]
theorem cmX_go (l:List V):cmX l=match compR l with
  | ([],_)=>none
  | (p::ps,r)=>goC (p::ps) r:=by
 have key:preC (tgX l).1 (cmF l.length (tgX l).2)=goC (compR l).1 (compR l).2:=by
  unfold compR tgX
  cases l with
  | nil=>rfl
  | cons v r =>
    have ht:tagR (v::r)=if (v.tok.k == 1 || (v.tok.k == 9 && (v.tok.tx.toList == [42])))=true then some ([⟨1,foldS v.tok.tx,0,⟨#[]⟩,0,0⟩],1) else none:=by
     rw [← starB_l]
     rfl
    rw [ht]
    simp only []
    rw [dl_is]
    cases h1:(v.tok.k == 1) with
    | true =>
      simp only [Bool.true_or,if_true]
      rw [cmF_go _ r (by simp)]
      exact (goC_tag ⟨1,foldS v.tok.tx,0,⟨#[]⟩,0,0⟩ rfl _ _).symm
    | false =>
      simp only [Bool.false_or,Bool.false_eq_true,if_false]
      cases h2:(v.tok.k == 9 && (v.tok.tx.toList == [42])) with
      | true =>
        rw [Bool.and_eq_true] at h2
        simp only [if_true]
        rw [cmF_go _ r (by simp),ba_star h2.2,fold_star]
        exact (goC_tag ⟨1,⟨#[42]⟩,0,⟨#[]⟩,0,0⟩ rfl _ _).symm
      | false =>
        simp only [Bool.false_eq_true,if_false]
        rw [cmF_go _ (v::r) (Nat.le_refl _)]
        show preC [] (goC (othZ (v::r)).1 (othZ (v::r)).2)=goC (othZ (v::r)).1 (othZ (v::r)).2
        cases goC (othZ (v::r)).1 (othZ (v::r)).2 <;> rfl
 unfold cmX
 rw [key]
 obtain ⟨ps,r⟩:=compR l
 cases ps with
 | nil =>
   simp only [goC]
   split <;> rfl
 | cons p ps =>
   simp only []
   unfold goC
   cases stopB r with
   | false=>rfl
   | true =>
     simp only [if_true]
     cases ha:allO (fS parseZ) (p::ps) with
     | none=>rfl
     | some q =>
       have:=allO_len ha
       cases q with
       | nil=>simp at this
       | cons x q=>rfl
end Go.Proofs.YtdneaeokljoijaaGreatDoor.L
