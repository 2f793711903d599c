/- gouacheref02.Whole, whatever the text. -/
import Derived.Test.YtemlnblifkdenaaGreatDoorYSame
import Derived.Test.YtemlnblifkdenaaGreatDoorYTrm
import Derived.Test.YtemlnblifkdenaaGreatDoorLTl
import Derived.Test.YtemlnblifkdenaaGreatDoorYFold
import Derived.Test.YtemlnblifkdenaaGreatDoorLMo
set_option maxRecDepth 100000
set_option maxHeartbeats 8000000
namespace Go.Proofs.YtemlnblifkdenaaGreatDoor.L
open Go.RowKit
theorem cells7 {W:World} {b:Nat} {x0 x1 x2 x3 x4 x5 x6:Value} {T:TypeId} (h:W.heap[b]? = some (.cells #[x0,x1,x2,x3,x4,x5,x6] T (0,0))) :
  (W.cell? ⟨b,0,none⟩=some x0∧W.cell? ⟨b,1,none⟩=some x1∧W.cell? ⟨b,2,none⟩=some x2∧W.cell? ⟨b,3,none⟩=some x3∧W.cell? ⟨b,4,none⟩=some x4∧W.cell? ⟨b,5,none⟩=some x5∧W.cell? ⟨b,6,none⟩=some x6) ∧
  (W.frozen? ⟨b,0,none⟩=false∧W.frozen? ⟨b,1,none⟩=false∧W.frozen? ⟨b,2,none⟩=false∧W.frozen? ⟨b,3,none⟩=false∧W.frozen? ⟨b,4,none⟩=false∧W.frozen? ⟨b,5,none⟩=false∧W.frozen? ⟨b,6,none⟩=false) :=
 ⟨⟨cellAt h 0,cellAt h 1,cellAt h 2,cellAt h 3,cellAt h 4,cellAt h 5,cellAt h 6⟩,by simp [World.frozen?,h],by simp [World.frozen?,h],by simp [World.frozen?,h],by simp [World.frozen?,h],by simp [World.frozen?,h],by simp [World.frozen?,h],by simp [World.frozen?,h]⟩
def SqPost (W:World) (r:Option S6) (e:Ending) (w':World):Prop:=(∃ s0,e=.returned (.tuple #[.agg (sC s0).toArray,.bool r.isSome])∧∀ s,r=some s→s0=s)∧Below W.heap.size W w'
theorem SqPost.no {W w':World} {s0:S6} (h:Below W.heap.size W w'):SqPost W none (.returned (.tuple #[.agg (sC s0).toArray,.bool false])) w':=⟨⟨s0,rfl,fun s e=>by cases e⟩,h⟩
theorem SqPost.yes {W w':World} {s:S6} (h:Below W.heap.size W w'):SqPost W (some s) (.returned (.tuple #[.agg (sC s).toArray,.bool true])) w':=⟨⟨s,rfl,fun s' e=>by cases e;rfl⟩,h⟩
theorem Below.set7 {B:Nat} {W w:World} (h:Below B W w) {b:Nat} (hb:B≤b) (x0 x1 x2 x3 x4 x5 x6:Value) :
  Below B W (((((((w.setCell ⟨b,0,none⟩ x0).setCell ⟨b,1,none⟩ x1).setCell ⟨b,2,none⟩ x2).setCell ⟨b,3,none⟩ x3).setCell ⟨b,4,none⟩ x4).setCell ⟨b,5,none⟩ x5).setCell ⟨b,6,none⟩ x6) :=
 ((((((h.setCell hb _).setCell hb _).setCell hb _).setCell hb _).setCell hb _).setCell hb _).setCell hb _
theorem heap_ne {W:World} {o i k:Nat} {x:Value} (h:k≠o):(W.setCell ⟨o,i,none⟩ x).heap[k]? = W.heap[k]?:=Below.heap_setCell _ _ _ _ h
theorem Below.set {B:Nat} {W w:World} (h:Below B W w) {o i:Nat} (ho:B≤o) (x:Value):Below B W (w.setCell ⟨o,i,none⟩ x):=h.setCell ho x
theorem Rd.else {W0 W:World} {lo b:Nat} {kids:Value} {vs:List V} (h:Rd lo W0 b kids vs W) {o i:Nat} (x:Value) (ho:b<o):Rd lo (W.setCell ⟨o,i,none⟩ x) b kids vs (W.setCell ⟨o,i,none⟩ x):=by
 obtain ⟨r,h1,h2⟩:=h.at'
 exact ⟨⟨r,(heap_ne (by omega)).trans h1,h2.stay (by simp) fun g hg _=>heap_ne (by omega)⟩,KeepX.of (Below.refl _ _)⟩
theorem inSq_any {W:World} {v:Value} {P:Nat→Prop} {vs:List V} (hv:VsAt P W v vs) (hsg:Signs W) (hf:Fit vs):Calls Tryz.prog 152 #[v] W (SqPost W (inSqR vs)):=by
 obtain ⟨lo,hlo⟩:∃ lo,lo=W.heap.size:=⟨_,rfl⟩
 obtain ⟨a,cap,rfl,hc1,hc2⟩:=hv.slice
 obtain ⟨W1,hW1⟩:∃ W1,W1=(W.alloc (.cells #[.int .i64 0,.string ⟨#[]⟩,.int .i64 0,.string ⟨#[]⟩,.int .i64 0,.int .i64 0,.slice none 0 0] 39)).alloc (.cells #[.slice a vs.length cap,.slice none 0 0] 59):=⟨_,rfl⟩
 have hB1:Below W.heap.size W W1:=by rw [hW1];exact ((Below.refl _ _).alloc (Nat.le_refl _) _).alloc (by simp) _
 have x0:W1.heap[W.heap.size]? = some (.cells #[.int .i64 0,.string ⟨#[]⟩,.int .i64 0,.string ⟨#[]⟩,.int .i64 0,.int .i64 0,.slice none 0 0] 39 (0,0)):=by
  rw [hW1,Below.heap_alloc _ _ _ (by simp)]
  exact heap_alloc_last W _
 have x1:W1.heap[W.heap.size+1]? = some (.cells #[.slice a vs.length cap,.slice none 0 0] 59 (0,0)):=by
  have e:W.heap.size+1=(W.alloc (.cells #[.int .i64 0,.string ⟨#[]⟩,.int .i64 0,.string ⟨#[]⟩,.int .i64 0,.int .i64 0,.slice none 0 0] 39)).heap.size:=by simp
  rw [hW1,e]
  exact heap_alloc_last _ _
 have hR1:Rd lo W1 (W.heap.size+1) (.slice none 0 0) vs W1:=⟨⟨_,x1,(hv.wider fun g _ hl=>by omega).keep hB1⟩,KeepX.of (Below.refl _ _)⟩
 have hsp:=spaces_any hR1
 have HI:Hid (inSqR vs=match spc vs with | v::r=>if (v.tok.k == 1)=true then sqO (foldS v.tok.tx) (spc r) else none | []=>none):=rfl
 have hfu:=hf.spc
 have HSG:Hid (∀ w',Below W.heap.size W w'→Signs w'):=fun w' h=>hsg.keep h
 generalize inSqR vs=R at *
 generalize spc vs=us at *
 have HW1:=hid_mk hW1
 clear hv hsg hf hR1 x1 hW1 hlo
 go_enter Tryz.func152,Tryz.ntmps152
 go_wp2_with (go_at_call 46;fail)
 rw [← HW1.out]
 refine hsp.mono ?_
 rintro e w2 ⟨rfl,hR2⟩
 have hB2:Below W.heap.size W w2:=hB1.trans (hR2.keep.below (by omega) hB1.size)
 have x2:w2.heap[W.heap.size]? = some (.cells #[.int .i64 0,.string ⟨#[]⟩,.int .i64 0,.string ⟨#[]⟩,.int .i64 0,.int .i64 0,.slice none 0 0] 39 (0,0)):=(hR2.keep.block _ (Array.getElem?_eq_some_iff.1 x0).1 (by omega)).trans x0
 have ha:=ahead_any hR2 0 1
 have HR2:=hid_mk hR2.self
 clear hsp hR2 HW1 x0 hB1
 go_wp2_with (go_at_call 48;fail)
 refine ha.mono ?_
 rintro e wa ⟨rfl,rfl⟩
 clear ha
 cases us with
 | nil =>
   have HE:Hid (R=none):=HI.out
   rw [show ahd [] 0 1=false from rfl]
   obtain ⟨⟨k0,k1,k2,k3,k4,k5,k6⟩,f0,f1,f2,f3,f4,f5,f6⟩:=cells7 x2
   have HB:=hid_mk hB2
   clear x2 hB2 HI HR2 HSG hfu
   go_wp2
   rw [HE.out]
   refine bodyPost_ret (v:=.tuple #[.agg #[.int .i64 0,.string ⟨#[]⟩,.int .i64 0,.string ⟨#[]⟩,.int .i64 0,.int .i64 0,.slice none 0 0],.bool false]) (by simp [results,Tryz.results152,go_sem,k0,k1,k2,k3,k4,k5,k6]) rfl (SqPost.no (s0:=⟨0,⟨#[]⟩,0,⟨#[]⟩,0,0⟩) (Below.set7 HB.out (Nat.le_refl _) _ _ _ _ _ _ _))
 | cons u r0 =>
 rw [ahd_cons]
 cases hk:(u.tok.k == 1) with
 | false =>
   have HE:Hid (R=none):=by rw [Hid,HI.out];simp only [];rw [if_neg (by rw [hk];decide)]
   obtain ⟨⟨k0,k1,k2,k3,k4,k5,k6⟩,f0,f1,f2,f3,f4,f5,f6⟩:=cells7 x2
   have HB:=hid_mk hB2
   clear x2 hB2 HI HR2 HSG hfu hk
   go_wp2
   rw [HE.out]
   refine bodyPost_ret (v:=.tuple #[.agg #[.int .i64 0,.string ⟨#[]⟩,.int .i64 0,.string ⟨#[]⟩,.int .i64 0,.int .i64 0,.slice none 0 0],.bool false]) (by simp [results,Tryz.results152,go_sem,k0,k1,k2,k3,k4,k5,k6]) rfl (SqPost.no (s0:=⟨0,⟨#[]⟩,0,⟨#[]⟩,0,0⟩) (Below.set7 HB.out (Nat.le_refl _) _ _ _ _ _ _ _))
 | true =>
 have HE:Hid (R=sqO (foldS u.tok.tx) (spc r0)):=by rw [Hid,HI.out];simp only [];rw [if_pos hk]
 have hus:u.tok.tx.size≤1000000000000:=hfu.tx' u (by simp)
 have hfr:Fit (spc r0):=(hfu.drop 1).spc
 obtain ⟨a',n,cap',hn,hc1',hc2',h1,_,hs⟩:=HR2.out.see
 have c0:wa.cell? ⟨W.heap.size+1,0,none⟩=some (.slice a' n cap'):=cellAt h1 0
 obtain ⟨hl,g,off,kv,rfl,q0,q1,q4,q5,hkv⟩:=hs 0 u rfl
 rw [Nat.zero_mul,Nat.add_zero] at q0 q1 q4 q5
 have hfo:=fold_any u.tok.tx wa hus
 have HX:=hid_mk x2
 have HB:=hid_mk hB2
 clear h1 hs hn hk q0 q4 q5 hkv HI x2 hB2 hfu
 go_wp2_with (go_at_call 70;fail)
 refine hfo.mono ?_
 rintro e w3 ⟨rfl,hB3⟩
 generalize foldS u.tok.tx=nm at *
 obtain ⟨W4,hW4⟩:∃ W4,W4=w3.alloc (.cells #[.int .i64 4,.string nm,.int .i64 0,.string ⟨#[]⟩,.int .i64 0,.int .i64 0,.slice none 0 0] 39):=⟨_,rfl⟩
 have hB4:Below wa.heap.size wa W4:=by rw [hW4];exact hB3.alloc hB3.size _
 have y4:W4.heap[w3.heap.size]? = some (.cells #[.int .i64 4,.string nm,.int .i64 0,.string ⟨#[]⟩,.int .i64 0,.int .i64 0,.slice none 0 0] 39 (0,0)):=by rw [hW4];exact heap_alloc_last w3 _
 have hR4:=(HR2.out.then hB4).self
 have hbo:W.heap.size+1<w3.heap.size:=Nat.lt_of_lt_of_le HR2.out.lt hB3.size
 have x4:W4.heap[W.heap.size]? = some (.cells #[.int .i64 0,.string ⟨#[]⟩,.int .i64 0,.string ⟨#[]⟩,.int .i64 0,.int .i64 0,.slice none 0 0] 39 (0,0)):=(hB4.block _ (Array.getElem?_eq_some_iff.1 HX.out).1).trans HX.out
 have hBW:Below W.heap.size W W4:=HB.out.trans (hB4.mono HB.out.size)
 have hsk:=skip_any hR4 1 (by simp)
 have HW4:=hid_mk hW4
 clear hfo hB3 hW4 hB4 hR4 HR2 HX HB q1 c0
 go_wp2_with (go_at_call 49;fail)
 rw [← HW4.out]
 refine hsk.mono ?_
 rintro e w5 ⟨rfl,hR5⟩
 have hsp:=spaces_any hR5.self
 have HR5:=hid_mk hR5
 clear hsk hR5 HW4
 rw [show (u::r0).drop 1=r0 from rfl] at hsp HR5
 go_wp2_with (go_at_call 46;fail)
 refine hsp.mono ?_
 rintro e w6 ⟨rfl,hR6⟩
 have hk6:=HR5.out.keep.trans hR6.keep
 have y6:w6.heap[w3.heap.size]? = some (.cells #[.int .i64 4,.string nm,.int .i64 0,.string ⟨#[]⟩,.int .i64 0,.int .i64 0,.slice none 0 0] 39 (0,0)):=(hk6.block _ (Array.getElem?_eq_some_iff.1 y4).1 (by omega)).trans y4
 have x6:w6.heap[W.heap.size]? = some (.cells #[.int .i64 0,.string ⟨#[]⟩,.int .i64 0,.string ⟨#[]⟩,.int .i64 0,.int .i64 0,.slice none 0 0] 39 (0,0)):=(hk6.block _ (Array.getElem?_eq_some_iff.1 x4).1 (by omega)).trans x4
 have hB6:Below W.heap.size W w6:=hBW.trans (hk6.below (by omega) hBW.size)
 have hR6':=hR6.self
 generalize w3.heap.size=o at *
 generalize spc r0=r at *
 clear hsp HR5 hR6 hk6 y4 x4 hBW
 obtain ⟨a6,n6,cap6,hn6,hc61,hc62,h61,_,_⟩:=hR6'.see
 have d0:w6.cell? ⟨W.heap.size+1,0,none⟩=some (.slice a6 n6 cap6):=cellAt h61 0
 cases r with
 | nil =>
   have HE2:Hid (R=some ⟨4,nm,0,⟨#[]⟩,0,0⟩):=HE.out
   have hn0:n6=0:=hn6
   subst hn0
   obtain ⟨⟨k0,k1,k2,k3,k4,k5,k6⟩,f0,f1,f2,f3,f4,f5,f6⟩:=cells7 x6
   obtain ⟨⟨t0,t1,t2,t3,t4,t5,t6⟩,_⟩:=cells7 y6
   have HB:=hid_mk hB6
   clear x6 y6 hB6 hR6' h61 hn6 HE HSG
   go_wp2
   rw [HE2.out]
   refine bodyPost_ret (v:=.tuple #[.agg #[.int .i64 4,.string nm,.int .i64 0,.string ⟨#[]⟩,.int .i64 0,.int .i64 0,.slice none 0 0],.bool true]) (by simp [results,Tryz.results152,go_sem,k0,k1,k2,k3,k4,k5,k6]) rfl (SqPost.yes (s:=⟨4,nm,0,⟨#[]⟩,0,0⟩) (Below.set7 HB.out (Nat.le_refl _) _ _ _ _ _ _ _))
 | cons z r1 =>
 have HE2:Hid (R=sqV nm (opR (z::r1)).1 (spc ((z::r1).drop (opR (z::r1)).2))):=HE.out
 have hn0:((n6:Int) == 0)=false:=by
  have:n6=r1.length+1:=hn6
  rw [beq_eq_false_iff_ne]
  omega
 have hop:=operator_any hR6' (HSG.out w6 hB6)
 have hfv:Fit (spc ((z::r1).drop (opR (z::r1)).2)):=(hfr.drop _).spc
 generalize (opR (z::r1)).1=op at *
 generalize (z::r1).drop (opR (z::r1)).2=r2 at *
 have HX:=hid_mk x6
 have HY:=hid_mk y6
 have HB:=hid_mk hB6
 have HR6:=hid_mk hR6'
 clear x6 y6 hB6 hR6' h61 hn6 HE HSG hfr
 go_wp2_with (go_at_call 158;fail)
 refine hop.mono ?_
 rintro e w7 ⟨rfl,hR7⟩
 have y7:w7.heap[o]? = some (.cells #[.int .i64 4,.string nm,.int .i64 0,.string ⟨#[]⟩,.int .i64 0,.int .i64 0,.slice none 0 0] 39 (0,0)):=(hR7.keep.block _ (Array.getElem?_eq_some_iff.1 HY.out).1 (by omega)).trans HY.out
 have x7:w7.heap[W.heap.size]? = some (.cells #[.int .i64 0,.string ⟨#[]⟩,.int .i64 0,.string ⟨#[]⟩,.int .i64 0,.int .i64 0,.slice none 0 0] 39 (0,0)):=(hR7.keep.block _ (Array.getElem?_eq_some_iff.1 HX.out).1 (by omega)).trans HX.out
 have hB7:Below W.heap.size W w7:=HB.out.trans (hR7.keep.below (by omega) HB.out.size)
 obtain ⟨⟨t0,t1,t2,t3,t4,t5,t6⟩,g0,g1,g2,g3,g4,g5,g6⟩:=cells7 y7
 obtain ⟨W8,hW8⟩:∃ W8,W8=w7.setCell ⟨o,2,none⟩ (.int .i64 op):=⟨_,rfl⟩
 have hR8:Rd lo W8 (W.heap.size+1) (.slice none 0 0) r2 W8:=by rw [hW8];exact hR7.else _ hbo
 have y8:W8.heap[o]? = some (.cells #[.int .i64 4,.string nm,.int .i64 op,.string ⟨#[]⟩,.int .i64 0,.int .i64 0,.slice none 0 0] 39 (0,0)):=by rw [hW8,set_at 2 _ _ y7];rfl
 have x8:W8.heap[W.heap.size]? = some (.cells #[.int .i64 0,.string ⟨#[]⟩,.int .i64 0,.string ⟨#[]⟩,.int .i64 0,.int .i64 0,.slice none 0 0] 39 (0,0)):=by rw [hW8,heap_ne (by omega)];exact x7
 have hB8:Below W.heap.size W W8:=by rw [hW8];exact Below.set hB7 (by omega) _
 have hsp:=spaces_any hR8
 have HW8:=hid_mk hW8
 have HX8:=hid_mk x8
 have HY8:=hid_mk y8
 have HB8:=hid_mk hB8
 clear hop hR7 x7 y7 hB7 HX HY HB HR6 hR8 hW8 x8 y8 hB8 d0
 go_wp2_with (go_at_call 46;fail)
 rw [← HW8.out]
 refine hsp.mono ?_
 rintro e w9 ⟨rfl,hR9⟩
 have y9:w9.heap[o]? = some (.cells #[.int .i64 4,.string nm,.int .i64 op,.string ⟨#[]⟩,.int .i64 0,.int .i64 0,.slice none 0 0] 39 (0,0)):=(hR9.keep.block _ (Array.getElem?_eq_some_iff.1 HY8.out).1 (by omega)).trans HY8.out
 have x9:w9.heap[W.heap.size]? = some (.cells #[.int .i64 0,.string ⟨#[]⟩,.int .i64 0,.string ⟨#[]⟩,.int .i64 0,.int .i64 0,.slice none 0 0] 39 (0,0)):=(hR9.keep.block _ (Array.getElem?_eq_some_iff.1 HX8.out).1 (by omega)).trans HX8.out
 have hB9:Below W.heap.size W w9:=HB8.out.trans (hR9.keep.below (by omega) HB8.out.size)
 have ha1:=ahead_any hR9.self 0 1
 have ha5:=ahead_any hR9.self 0 5
 have HR9:=hid_mk hR9.self
 generalize spc r2=r3 at *
 clear hsp hR9 HX8 HY8 HB8 HW8 t0 t1 t2 t3 t4 t5 t6 g0 g1 g2 g3 g4 g5 g6
 obtain ⟨⟨t0,t1,t2,t3,t4,t5,t6⟩,g0,g1,g2,g3,g4,g5,g6⟩:=cells7 y9
 cases ho:(op == 0) with
 | true =>
   have HE3:Hid (R=none):=by
    have ho':(op != 0)=false:=by rw [bne,ho];rfl
    rw [Hid,HE2.out]
    unfold sqV
    cases r3 with
    | nil=>rfl
    | cons x y=>simp only [ho',Bool.false_and];rfl
   obtain ⟨⟨k0,k1,k2,k3,k4,k5,k6⟩,f0,f1,f2,f3,f4,f5,f6⟩:=cells7 x9
   have HB:=hid_mk hB9
   clear ha1 ha5 HR9 x9 y9 hB9 HE2 hfv
   go_wp2
   rw [HE3.out]
   refine bodyPost_ret (v:=.tuple #[.agg #[.int .i64 0,.string ⟨#[]⟩,.int .i64 0,.string ⟨#[]⟩,.int .i64 0,.int .i64 0,.slice none 0 0],.bool false]) (by simp [results,Tryz.results152,go_sem,k0,k1,k2,k3,k4,k5,k6]) rfl (SqPost.no (s0:=⟨0,⟨#[]⟩,0,⟨#[]⟩,0,0⟩) (Below.set7 HB.out (Nat.le_refl _) _ _ _ _ _ _ _))
 | false =>
 have ho':(op != 0)=true:=by rw [bne,ho];rfl
 cases hq:(ahd r3 0 1 || ahd r3 0 5) with
 | false =>
   rw [Bool.or_eq_false_iff] at hq
   have HE3:Hid (R=none):=by
    rw [Hid,HE2.out]
    unfold sqV
    cases r3 with
    | nil=>rfl
    | cons x y =>
      rw [ahd_cons,ahd_cons] at hq
      simp only [hq.1,hq.2,Bool.or_self,Bool.and_false,Bool.false_and]
      rfl
   rw [hq.1] at ha1
   rw [hq.2] at ha5
   obtain ⟨⟨k0,k1,k2,k3,k4,k5,k6⟩,f0,f1,f2,f3,f4,f5,f6⟩:=cells7 x9
   have HB:=hid_mk hB9
   clear HR9 x9 y9 hB9 HE2 hfv hq ho'
   go_wp2_with (go_at_call 48;fail)
   refine ha1.mono ?_
   rintro e wb ⟨rfl,rfl⟩
   clear ha1
   go_wp2_with (go_at_call 48;fail)
   refine ha5.mono ?_
   rintro e wb ⟨rfl,rfl⟩
   clear ha5
   go_wp2
   rw [HE3.out]
   refine bodyPost_ret (v:=.tuple #[.agg #[.int .i64 0,.string ⟨#[]⟩,.int .i64 0,.string ⟨#[]⟩,.int .i64 0,.int .i64 0,.slice none 0 0],.bool false]) (by simp [results,Tryz.results152,go_sem,k0,k1,k2,k3,k4,k5,k6]) rfl (SqPost.no (s0:=⟨0,⟨#[]⟩,0,⟨#[]⟩,0,0⟩) (Below.set7 HB.out (Nat.le_refl _) _ _ _ _ _ _ _))
 | true =>
 cases r3 with
 | nil=>cases hq
 | cons x r4 =>
 rw [ahd_cons,ahd_cons] at hq
 rw [ahd_cons] at ha1 ha5
 have HE3:Hid (R=if (spc r4).isEmpty=true then some ⟨4,nm,op,x.tok.tx,0,0⟩ else none):=by
  rw [Hid,HE2.out]
  unfold sqV
  simp only [ho',hq,Bool.true_and]
 obtain ⟨a9,n9,cap9,hn9,hc91,hc92,h91,_,hs9⟩:=HR9.out.see
 have d0:w9.cell? ⟨W.heap.size+1,0,none⟩=some (.slice a9 n9 cap9):=cellAt h91 0
 obtain ⟨hl9,g',off',kv',rfl,_,q1,_⟩:=hs9 0 x rfl
 rw [Nat.zero_mul,Nat.add_zero] at q1
 obtain ⟨W10,hW10⟩:∃ W10,W10=w9.setCell ⟨o,3,none⟩ (.string x.tok.tx):=⟨_,rfl⟩
 have hR10:Rd lo W10 (W.heap.size+1) (.slice none 0 0) (x::r4) W10:=by rw [hW10];exact HR9.out.else _ hbo
 have y10:W10.heap[o]? = some (.cells #[.int .i64 4,.string nm,.int .i64 op,.string x.tok.tx,.int .i64 0,.int .i64 0,.slice none 0 0] 39 (0,0)):=by rw [hW10,set_at 3 _ _ y9];rfl
 have x10:W10.heap[W.heap.size]? = some (.cells #[.int .i64 0,.string ⟨#[]⟩,.int .i64 0,.string ⟨#[]⟩,.int .i64 0,.int .i64 0,.slice none 0 0] 39 (0,0)):=by rw [hW10,heap_ne (by omega)];exact x9
 have hB10:Below W.heap.size W W10:=by rw [hW10];exact Below.set hB9 (by omega) _
 have hsk:=skip_any hR10 1 (by simp)
 have HW10:=hid_mk hW10
 have HX10:=hid_mk x10
 have HY10:=hid_mk y10
 have HB10:=hid_mk hB10
 have HQ:=hid_mk hq
 generalize x.tok.tx=tx at *
 clear HR9 h91 hs9 hn9 hW10 x10 y10 hB10 x9 y9 hB9 HE2 hR10 hfv hq ho'
 generalize (x.tok.k == 1)=b1 at *
 generalize (x.tok.k == 5)=b5 at *
 have HN:=hid_mk hsk
 cases b1 with
 | true =>
   clear ha5
   go_wp2_with (go_at_call 48;fail)
   refine ha1.mono ?_
   rintro e wb ⟨rfl,rfl⟩
   clear ha1 HN
   go_wp2_with (go_at_call 49;fail)
   rw [← HW10.out]
   refine hsk.mono ?_
   rintro e w11 ⟨rfl,hR11⟩
   have hsp:=spaces_any hR11.self
   have HR11:=hid_mk hR11
   rw [show (x::r4).drop 1=r4 from rfl] at hsp HR11
   clear hsk hR11 HW10 d0 q1 t0 t1 t2 t3 t4 t5 t6 g0 g1 g2 g3 g4 g5 g6 HQ
   go_wp2_with (go_at_call 46;fail)
   refine hsp.mono ?_
   rintro e w12 ⟨rfl,hR12⟩
   have hk12:=HR11.out.keep.trans hR12.keep
   have y12:=(hk12.block _ (Array.getElem?_eq_some_iff.1 HY10.out).1 (by omega)).trans HY10.out
   have x12:=(hk12.block _ (Array.getElem?_eq_some_iff.1 HX10.out).1 (by omega)).trans HX10.out
   have hB12:Below W.heap.size W w12:=HB10.out.trans (hk12.below (by omega) HB10.out.size)
   obtain ⟨a12,n12,cap12,hn12,_,_,h12,_,_⟩:=hR12.see
   have d0:w12.cell? ⟨W.heap.size+1,0,none⟩=some (.slice a12 n12 cap12):=cellAt h12 0
   obtain ⟨⟨k0,k1,k2,k3,k4,k5,k6⟩,f0,f1,f2,f3,f4,f5,f6⟩:=cells7 x12
   obtain ⟨⟨t0,t1,t2,t3,t4,t5,t6⟩,_⟩:=cells7 y12
   have HB:=hid_mk hB12
   have HE4:Hid (R=if n12=0 then some ⟨4,nm,op,tx,0,0⟩ else none):=by
    rw [Hid,HE3.out,hn12]
    cases spc r4 with
    | nil=>rfl
    | cons _ _=>rfl
   clear hsp HR11 hR12 hk12 y12 x12 hB12 hn12 h12 HX10 HY10 HB10 HE3
   by_cases hz:n12=0
   ·have HE5:Hid (R=some ⟨4,nm,op,tx,0,0⟩):=by rw [Hid,HE4.out,if_pos hz]
    subst hz
    clear HE4
    go_upto_region 17 with (fail)
    go_region
    go_wp2
    rw [HE5.out]
    refine bodyPost_ret (v:=.tuple #[.agg #[.int .i64 4,.string nm,.int .i64 op,.string tx,.int .i64 0,.int .i64 0,.slice none 0 0],.bool true]) (by simp [results,Tryz.results152,go_sem,k0,k1,k2,k3,k4,k5,k6]) rfl (SqPost.yes (s:=⟨4,nm,op,tx,0,0⟩) (Below.set7 HB.out (Nat.le_refl _) _ _ _ _ _ _ _).drew)
   ·have HE5:Hid (R=none):=by rw [Hid,HE4.out,if_neg hz]
    have hz':((n12:Int) == 0)=false:=by rw [beq_eq_false_iff_ne];omega
    clear HE4
    go_upto_region 17 with (fail)
    go_region
    go_wp2
    rw [HE5.out]
    refine bodyPost_ret (v:=.tuple #[.agg #[.int .i64 4,.string nm,.int .i64 op,.string tx,.int .i64 0,.int .i64 0,.slice none 0 0],.bool false]) (by simp [results,Tryz.results152,go_sem,k0,k1,k2,k3,k4,k5,k6]) rfl (SqPost.no (s0:=⟨4,nm,op,tx,0,0⟩) (Below.set7 HB.out (Nat.le_refl _) _ _ _ _ _ _ _).drew)
 | false =>
   have hb5:b5=true:=HQ.out
   subst hb5
   go_wp2_with (go_at_call 48;fail)
   refine ha1.mono ?_
   rintro e wb ⟨rfl,rfl⟩
   clear ha1
   go_wp2_with (go_at_call 48;fail)
   refine ha5.mono ?_
   rintro e wb ⟨rfl,rfl⟩
   clear ha5 HN
   go_wp2_with (go_at_call 49;fail)
   rw [← HW10.out]
   refine hsk.mono ?_
   rintro e w11 ⟨rfl,hR11⟩
   have hsp:=spaces_any hR11.self
   have HR11:=hid_mk hR11
   rw [show (x::r4).drop 1=r4 from rfl] at hsp HR11
   clear hsk hR11 HW10 d0 q1 t0 t1 t2 t3 t4 t5 t6 g0 g1 g2 g3 g4 g5 g6 HQ
   go_wp2_with (go_at_call 46;fail)
   refine hsp.mono ?_
   rintro e w12 ⟨rfl,hR12⟩
   have hk12:=HR11.out.keep.trans hR12.keep
   have y12:=(hk12.block _ (Array.getElem?_eq_some_iff.1 HY10.out).1 (by omega)).trans HY10.out
   have x12:=(hk12.block _ (Array.getElem?_eq_some_iff.1 HX10.out).1 (by omega)).trans HX10.out
   have hB12:Below W.heap.size W w12:=HB10.out.trans (hk12.below (by omega) HB10.out.size)
   obtain ⟨a12,n12,cap12,hn12,_,_,h12,_,_⟩:=hR12.see
   have d0:w12.cell? ⟨W.heap.size+1,0,none⟩=some (.slice a12 n12 cap12):=cellAt h12 0
   obtain ⟨⟨k0,k1,k2,k3,k4,k5,k6⟩,f0,f1,f2,f3,f4,f5,f6⟩:=cells7 x12
   obtain ⟨⟨t0,t1,t2,t3,t4,t5,t6⟩,_⟩:=cells7 y12
   have HB:=hid_mk hB12
   have HE4:Hid (R=if n12=0 then some ⟨4,nm,op,tx,0,0⟩ else none):=by
    rw [Hid,HE3.out,hn12]
    cases spc r4 with
    | nil=>rfl
    | cons _ _=>rfl
   clear hsp HR11 hR12 hk12 y12 x12 hB12 hn12 h12 HX10 HY10 HB10 HE3
   by_cases hz:n12=0
   ·have HE5:Hid (R=some ⟨4,nm,op,tx,0,0⟩):=by rw [Hid,HE4.out,if_pos hz]
    subst hz
    clear HE4
    go_upto_region 17 with (fail)
    go_region
    go_wp2
    rw [HE5.out]
    refine bodyPost_ret (v:=.tuple #[.agg #[.int .i64 4,.string nm,.int .i64 op,.string tx,.int .i64 0,.int .i64 0,.slice none 0 0],.bool true]) (by simp [results,Tryz.results152,go_sem,k0,k1,k2,k3,k4,k5,k6]) rfl (SqPost.yes (s:=⟨4,nm,op,tx,0,0⟩) (Below.set7 HB.out (Nat.le_refl _) _ _ _ _ _ _ _).drew)
   ·have HE5:Hid (R=none):=by rw [Hid,HE4.out,if_neg hz]
    have hz':((n12:Int) == 0)=false:=by rw [beq_eq_false_iff_ne];omega
    clear HE4
    go_upto_region 17 with (fail)
    go_region
    go_wp2
    rw [HE5.out]
    refine bodyPost_ret (v:=.tuple #[.agg #[.int .i64 4,.string nm,.int .i64 op,.string tx,.int .i64 0,.int .i64 0,.slice none 0 0],.bool false]) (by simp [results,Tryz.results152,go_sem,k0,k1,k2,k3,k4,k5,k6]) rfl (SqPost.no (s0:=⟨4,nm,op,tx,0,0⟩) (Below.set7 HB.out (Nat.le_refl _) _ _ _ _ _ _ _).drew)
def VC (w:World) (b o:Nat) (t:T5) (k:Value):Prop:=w.cell? ⟨b,o,none⟩=some (.int .i64 t.k)∧w.cell? ⟨b,o+1,none⟩=some (.string t.tx)∧w.cell? ⟨b,o+2,none⟩=some (.string t.un)∧w.cell? ⟨b,o+3,none⟩=some (.bool t.wh)∧w.cell? ⟨b,o+4,none⟩=some (.bool t.fl)∧w.cell? ⟨b,o+5,none⟩=some k
theorem VsAt.item {P:Nat→Prop} {W:World} {v:Value} {x:V} {r:List V} (h:VsAt P W v (x::r)):∃ b off cap ka kn kc,v=.slice (some ⟨b,off,none⟩) (r.length+1) cap∧r.length+1≤cap∧cap≤9223372036854775807∧(∀ w,Below W.heap.size W w→VC w b off x.tok (.slice ka kn kc))∧VsAt P W (.slice ka kn kc) x.kids ∧
  (∀ a' n' c',n'=r.length→c'=cap - 1→(0<r.length→a'=some ⟨b,off+6,none⟩)→VsAt P W (.slice a' n' c') r):=by
 obtain ⟨a,cap,rfl,h1,h2⟩:=h.slice
 have h0:=h
 obtain ⟨_,_,_,hcs⟩:=h.cells
 obtain ⟨b,off,kv,rfl,hbl,hcc,hk⟩:=hcs 0 (by simp)
 simp only [Nat.zero_mul,Nat.add_zero,List.getElem_cons_zero] at hcc hk
 obtain ⟨ka,kc,rfl,_,_⟩:=hk.slice
 refine ⟨b,off,cap,ka,_,kc,rfl,h1,h2,fun w hb=>?_,hk,fun a' n' c' hn hc ha=>?_⟩
 ·have hq:=fun j y hy=>(hb.cell (p:=⟨b,off+j,none⟩) hbl).trans (hcc j y hy)
  exact ⟨hq 0 _ rfl,hq 1 _ rfl,hq 2 _ rfl,hq 3 _ rfl,hq 4 _ rfl,hq 5 _ rfl⟩
 ·have:=Y.VsAt.dropO h0 1 (by simp) (a':=a') (n':=n') (c':=c') (by simp [hn]) hc (fun h=>by rw [Nat.one_mul];exact ha (by simpa using h))
  simpa using this
theorem VsAt.item2 {P:Nat→Prop} {W:World} {v:Value} {x y:V} {r:List V} (h:VsAt P W v (x::y::r)):∃ b off cap ka kn kc la ln lc,v=.slice (some ⟨b,off,none⟩) (r.length+1+1) cap∧r.length+1+1≤cap∧cap≤9223372036854775807∧(∀ w,Below W.heap.size W w→VC w b off x.tok (.slice ka kn kc)∧VC w b (off+6) y.tok (.slice la ln lc))∧VsAt P W (.slice ka kn kc) x.kids∧VsAt P W (.slice la ln lc) y.kids ∧
  (∀ a' n' c',n'=r.length→c'=cap - 2→(0<r.length→a'=some ⟨b,off+12,none⟩)→VsAt P W (.slice a' n' c') r)∧(∀ a' n' c',n'=r.length+1→c'=cap - 1→a'=some ⟨b,off+6,none⟩→VsAt P W (.slice a' n' c') (y::r)):=by
 obtain ⟨b,off,cap,ka,kn,kc,e,h1,h2,h3,h4,h5⟩:=h.item
 have h6:=h5 (some ⟨b,off+6,none⟩) _ _ rfl rfl (fun _=>rfl)
 obtain ⟨b',off',cap',la,ln,lc,e',g1,g2,g3,g4,g5⟩:=h6.item
 cases e'
 refine ⟨b,off,cap,ka,kn,kc,la,ln,lc,e,h1,h2,fun w hb=>⟨h3 w hb,g3 w hb⟩,h4,g4,fun a' n' c' hn hc ha=>g5 a' n' c' hn (by omega) (fun h=>by rw [show off+6+6=off+12 by omega];exact ha h),fun a' n' c' hn hc ha=>h5 a' n' c' (by simpa using hn) hc (fun _=>ha)⟩
theorem trim_eq (l:List V):Y.trimZ l=trm l:=by
 have e:Y.spaceV=spB:=funext fun x=>Y.space_eq x
 unfold Y.trimZ Y.aheadZ trm
 rw [e]
 rfl
theorem trim_any {P:Nat→Prop} {w:World} {v:Value} {vs:List V} (hv:VsAt P w v vs) (hn:vs.length≤100000) :
  Calls Tryz.prog 38 #[v] w fun e w'=>∃ a n c,e=.returned (.slice a n c)∧VsAt (fun b=>P b∨w.heap.size≤b) w' (.slice a n c) (trm vs)∧n=(trm vs).length∧n≤c∧c≤9223372036854775807∧Below w.heap.size w w':=(Y.rtrim_any hv hn).mono fun e w' ⟨out,h1,h2,h3⟩=>by
 rw [trim_eq] at h2
 obtain ⟨a,c,e',g1,g2⟩:=h2.slice
 subst e'
 exact ⟨a,_,c,h1,h2,rfl,g1,g2,h3⟩
def IsAt (w:World) (v:Value) (ks:List Int):Prop:=∃ b off,Sl w v ks.length b off∧∀ t (h:t<ks.length),w.cell? ⟨b,off+t,none⟩=some (.int .i64 (ks[t]'h))
theorem ints_yes {w:World} {v1 v2:Value} {ks:List Int} (h1:IsAt w v1 ks) (h2:IsAt w v2 ks):Calls Tryz.prog 17 #[v1,v2] w fun e w'=>e=.returned (.bool true)∧Below w.heap.size w w':=by
 obtain ⟨b1,o1,⟨a1,c1,rfl,hb1,hm1,ha1⟩,g1⟩:=h1
 obtain ⟨b2,o2,⟨a2,c2,rfl,hb2,hm2,ha2⟩,g2⟩:=h2
 have HC:Hid (∀ w',Below w.heap.size w w'→∀ t (ht:t<ks.length),a1=some ⟨b1,o1,none⟩∧a2=some ⟨b2,o2,none⟩∧w'.cell? ⟨b1,o1+t,none⟩=some (.int .i64 ks[t])∧w'.cell? ⟨b2,o2+t,none⟩=some (.int .i64 ks[t])):=fun w' hw' t ht=>by
  obtain ⟨e1,l1⟩:=ha1 (by omega)
  obtain ⟨e2,l2⟩:=ha2 (by omega)
  exact ⟨e1,e2,(hw'.cell (p:=⟨b1,o1+t,none⟩) l1).trans (g1 t ht),(hw'.cell (p:=⟨b2,o2+t,none⟩) l2).trans (g2 t ht)⟩
 have hln:ks.length≤9223372036854775807:=by omega
 clear ha1 ha2 g1 g2
 go_enter Tryz.func17,Tryz.ntmps17
 go_wp2
 go_loopw [13] (fun a13 wq=>∃ t:Nat,t≤ks.length∧a13=.int .i64 (t:Int)∧Hid (Below w.heap.size w wq)) (fun a13 _=>ks.length+1 - (intOf a13).toNat)
 case atStart=>exact ⟨0,Nat.zero_le _,rfl,hid_mk (Below.refl _ _)⟩
 case round =>
  obtain ⟨t,ht,rfl,HB⟩:=hrel
  by_cases htl:t<ks.length
  ·obtain ⟨rfl,rfl,q1,q2⟩:=HC.out wr HB.out t htl
   generalize ks[t]=v at *
   have hne:(v != v)=false:=by simp
   clear HC
   go_upto_region 6 with (fail)
   go_quiet (fail)
   go_wp2
   exact ⟨⟨t+1,htl,by go_num,hid_mk ⟨HB.out.os,HB.out.tape,HB.out.output,HB.out.size,HB.out.block⟩⟩,by simp only [intOf];omega⟩
  ·go_wp2
   go_ret
   exact ⟨rfl,HB.out⟩
def PtR (R:Value→List Cx→Prop) (w:World) (v:Value) (p:List (S6×List Cx)):Prop:=∃ b off,Sl w v p.length b off∧∃ lv:Nat→Value,(∀ t (h:t<p.length),∀ y u,(s7 (p[t]'h).1 (lv t))[y]? = some u→w.cell? ⟨b,off+t * 7+y,none⟩=some u)∧∀ t (h:t<p.length),(∃ a n c,lv t=.slice a n c)∧R (lv t) (p[t]'h).2
theorem same_yes {W:World} {v1 v2:Value} {p:List (S6×List Cx)} {R1 R2:Value→List Cx→Prop} (h1:PtR R1 W v1 p) (h2:PtR R2 W v2 p) (hR:∀ u1 u2 l,R1 u1 l→R2 u2 l→∀ w,Below W.heap.size W w→Calls Tryz.prog 7 #[u1,u2] w fun e w'=>e=.returned (.bool true)∧Below w.heap.size w w') :
  ∀ w,Below W.heap.size W w→Calls Tryz.prog 18 #[v1,v2] w fun e w'=>e=.returned (.bool true)∧Below w.heap.size w w':=by
 intro w hW
 obtain ⟨b1,o1,⟨a1,c1,rfl,hb1,hm1,ha1⟩,l1,g1,r1⟩:=h1
 obtain ⟨b2,o2,⟨a2,c2,rfl,hb2,hm2,ha2⟩,l2,g2,r2⟩:=h2
 have HC:Hid (∀ w',Below w.heap.size w w'→∀ t (ht:t<p.length),a1=some ⟨b1,o1,none⟩∧a2=some ⟨b2,o2,none⟩∧(∀ y u,(s7 (p[t]'ht).1 (l1 t))[y]? = some u→w'.cell? ⟨b1,o1+t * 7+y,none⟩=some u)∧(∀ y u,(s7 (p[t]'ht).1 (l2 t))[y]? = some u→w'.cell? ⟨b2,o2+t * 7+y,none⟩=some u)∧(∃ a n c,l1 t=.slice a n c)∧∃ a n c,l2 t=.slice a n c):=fun w' hw' t ht=>by
  have hB:=hW.trans (hw'.mono hW.size)
  obtain ⟨e1,m1⟩:=ha1 (by omega)
  obtain ⟨e2,m2⟩:=ha2 (by omega)
  exact ⟨e1,e2,fun y u hu=>(hB.cell (p:=⟨b1,o1+t * 7+y,none⟩) m1).trans (g1 t ht y u hu),fun y u hu=>(hB.cell (p:=⟨b2,o2+t * 7+y,none⟩) m2).trans (g2 t ht y u hu),(r1 t ht).1,(r2 t ht).1⟩
 have HR:Hid (∀ w',Below w.heap.size w w'→∀ t (_:t<p.length),Calls Tryz.prog 7 #[l1 t,l2 t] w' fun e w''=>e=.returned (.bool true)∧Below w'.heap.size w' w''):=fun w' hw' t ht=>hR _ _ _ (r1 t ht).2 (r2 t ht).2 w' (hW.trans (hw'.mono hW.size))
 have hln:p.length≤9223372036854775807:=by omega
 clear ha1 ha2 g1 g2 r1 r2 hR hW
 go_enter Tryz.func18,Tryz.ntmps18
 go_wp2
 go_loopw [15] (fun a15 wq=>∃ t:Nat,t≤p.length∧a15=.int .i64 (t:Int)∧Hid (Below w.heap.size w wq)) (fun a15 _=>p.length+1 - (intOf a15).toNat)
 case atStart=>exact ⟨0,Nat.zero_le _,rfl,hid_mk (Below.refl _ _)⟩
 case round =>
  obtain ⟨t,ht,rfl,HB⟩:=hrel
  by_cases htl:t<p.length
  ·obtain ⟨rfl,rfl,q1,q2,⟨la,ln,lc,e1⟩,ma,mn,mc,e2⟩:=HC.out wr HB.out t htl
   have HREC:Hid (∀ w',Below w.heap.size w w'→_):=fun w' hw'=>HR.out w' hw' t htl
   rw [e1] at q1 HREC
   rw [e2] at q2 HREC
   obtain ⟨s,hse⟩:∃ s,s=(p[t]'htl).1:=⟨_,rfl⟩
   rw [← hse] at q1 q2
   clear e1 e2 hse HC HR
   have y0:=q1 0 _ rfl
   have y1:=q1 1 _ rfl
   have y2:=q1 2 _ rfl
   have y3:=q1 3 _ rfl
   have y4:=q1 4 _ rfl
   have y5:=q1 5 _ rfl
   have y6:=q1 6 _ rfl
   have z0:=q2 0 _ rfl
   have z1:=q2 1 _ rfl
   have z2:=q2 2 _ rfl
   have z3:=q2 3 _ rfl
   have z4:=q2 4 _ rfl
   have z5:=q2 5 _ rfl
   have z6:=q2 6 _ rfl
   rw [Nat.add_zero] at y0 z0
   obtain ⟨sk,snm,sop,sv,sa,sb⟩:=s
   dsimp only at y0 y1 y2 y3 y4 y5 y6 z0 z1 z2 z3 z4 z5 z6
   obtain ⟨w1,hw1⟩:∃ w1,w1=wr.alloc (.cells #[.int .i64 sk,.string snm,.int .i64 sop,.string sv,.int .i64 sa,.int .i64 sb,.slice la ln lc] 39):=⟨_,rfl⟩
   have hB1:Below wr.heap.size wr w1:=by rw [hw1];exact (Below.refl _ _).alloc (Nat.le_refl _) _
   have hx1:w1.heap[wr.heap.size]? = some (.cells #[.int .i64 sk,.string snm,.int .i64 sop,.string sv,.int .i64 sa,.int .i64 sb,.slice la ln lc] 39 (0,0)):=by rw [hw1];exact heap_alloc_last wr _
   have hl1:wr.heap.size<w1.heap.size:=(Array.getElem?_eq_some_iff.1 hx1).1
   obtain ⟨w2,hw2⟩:∃ w2,w2=w1.alloc (.cells #[.int .i64 sk,.string snm,.int .i64 sop,.string sv,.int .i64 sa,.int .i64 sb,.slice ma mn mc] 39):=⟨_,rfl⟩
   have hB2:Below w1.heap.size w1 w2:=by rw [hw2];exact (Below.refl _ _).alloc (Nat.le_refl _) _
   have hx2:w2.heap[w1.heap.size]? = some (.cells #[.int .i64 sk,.string snm,.int .i64 sop,.string sv,.int .i64 sa,.int .i64 sb,.slice ma mn mc] 39 (0,0)):=by rw [hw2];exact heap_alloc_last w1 _
   have hx1':w2.heap[wr.heap.size]? = some (.cells #[.int .i64 sk,.string snm,.int .i64 sop,.string sv,.int .i64 sa,.int .i64 sb,.slice la ln lc] 39 (0,0)):=(hB2.block _ hl1).trans hx1
   have hlow:∀ (bb oo:Nat) (u:Value),wr.cell? ⟨bb,oo,none⟩=some u→w1.cell? ⟨bb,oo,none⟩=some u:=fun bb oo u h=>(hB1.cell (p:=⟨bb,oo,none⟩) (World.block_lt_of_cell? wr _ h)).trans h
   have x0:=hlow _ _ _ z0
   have x1:=hlow _ _ _ z1
   have x2:=hlow _ _ _ z2
   have x3:=hlow _ _ _ z3
   have x4:=hlow _ _ _ z4
   have x5:=hlow _ _ _ z5
   have x6:=hlow _ _ _ z6
   have u0:w2.cell? ⟨wr.heap.size,0,none⟩=_:=cellAt hx1' 0
   have u1:w2.cell? ⟨wr.heap.size,1,none⟩=_:=cellAt hx1' 1
   have u2:w2.cell? ⟨wr.heap.size,2,none⟩=_:=cellAt hx1' 2
   have u3:w2.cell? ⟨wr.heap.size,3,none⟩=_:=cellAt hx1' 3
   have u4:w2.cell? ⟨wr.heap.size,4,none⟩=_:=cellAt hx1' 4
   have u5:w2.cell? ⟨wr.heap.size,5,none⟩=_:=cellAt hx1' 5
   have u6:w2.cell? ⟨wr.heap.size,6,none⟩=_:=cellAt hx1' 6
   have v0:w2.cell? ⟨w1.heap.size,0,none⟩=_:=cellAt hx2 0
   have v1:w2.cell? ⟨w1.heap.size,1,none⟩=_:=cellAt hx2 1
   have v2:w2.cell? ⟨w1.heap.size,2,none⟩=_:=cellAt hx2 2
   have v3:w2.cell? ⟨w1.heap.size,3,none⟩=_:=cellAt hx2 3
   have v4:w2.cell? ⟨w1.heap.size,4,none⟩=_:=cellAt hx2 4
   have v5:w2.cell? ⟨w1.heap.size,5,none⟩=_:=cellAt hx2 5
   have v6:w2.cell? ⟨w1.heap.size,6,none⟩=_:=cellAt hx2 6
   simp only [List.getElem?_toArray,List.getElem?_cons_zero,List.getElem?_cons_succ] at u0 u1 u2 u3 u4 u5 u6 v0 v1 v2 v3 v4 v5 v6
   have hBw2:Below w.heap.size w w2:=HB.out.trans ((hB1.trans (hB2.mono hB1.size)).mono HB.out.size)
   have hrec:=HREC.out w2 hBw2
   have HBW2:=hid_mk hBw2
   have HW1:=hid_mk hw1
   have HW2:=hid_mk hw2
   have n0:(sk != sk)=false:=by simp
   have n1:(snm.toList == snm.toList)=true:=by simp
   have n2:(sop != sop)=false:=by simp
   have n3:(sv.toList == sv.toList)=true:=by simp
   have n4:(sa != sa)=false:=by simp
   have n5:(sb != sb)=false:=by simp
   clear q1 q2 HREC hB1 hB2 hx1 hx2 hx1' hl1 hw1 hw2 hlow hBw2 z0 z1 z2 z3 z4 z5 z6
   go_upto_region 6 with (fail)
   rw [← HW1.out]
   clear y0 y1 y2 y3 y4 y5 y6 HW1
   go_upto_region 7 with (fail)
   rw [← HW2.out]
   clear x0 x1 x2 x3 x4 x5 x6 HW2
   go_wp2_with (go_at_call 7;fail)
   refine hrec.mono ?_
   rintro e w3 ⟨rfl,hb3⟩
   have HB3:=hid_mk (HBW2.out.trans (hb3.mono HBW2.out.size))
   clear hrec hb3 HBW2 u0 u1 u2 u3 u4 u5 u6 v0 v1 v2 v3 v4 v5 v6
   go_wp2
   exact ⟨⟨t+1,htl,by go_num,HB3⟩,by simp only [intOf];omega⟩
  ·clear HC HR
   go_wp2
   go_ret
   exact ⟨rfl,HB.out⟩
def Rob (lo hi:Nat) (w:World) (p:World→Prop):Prop:=∀ w2,(∀ k,lo≤k→k<hi→w2.heap[k]? = w.heap[k]?)→p w2
theorem Rob.here {lo hi:Nat} {w:World} {p:World→Prop} (h:Rob lo hi w p):p w:=h w fun _ _ _=>rfl
theorem Rob.to {lo hi:Nat} {w w':World} {p:World→Prop} (h:Rob lo hi w p) (ha:∀ k,lo≤k→k<hi→w'.heap[k]? = w.heap[k]?):Rob lo hi w' p:=fun w2 h2=>h w2 fun k h3 h4=>(h2 k h3 h4).trans (ha k h3 h4)
theorem Rob.wide {lo hi lo' hi':Nat} {w:World} {p:World→Prop} (h:Rob lo hi w p) (h1:lo'≤lo) (h2:hi≤hi'):Rob lo' hi' w p:=fun w2 h3=>h w2 fun k h4 h5=>h3 k (by omega) (by omega)
theorem Rob.imp {lo hi:Nat} {w:World} {p q:World→Prop} (h:Rob lo hi w p) (hq:∀ w,p w→q w):Rob lo hi w q:=fun w2 h2=>hq _ (h w2 h2)
theorem cl_nil (W:World):ClAt W (.slice none 0 0) [] :=
 .mk _ [] 0 0 (fun _=>.slice none 0 0) (fun _=>.slice none 0 0) (fun _=>0) (fun _=>0) (fun _=>0) (fun _=>0) (fun _ _=>.slice none 0 0) (fun _ _=>0) (fun _ _=>0) (fun _ _ _=>.slice none 0 0) ⟨none,0,rfl,Nat.le_refl _,by decide,fun h=>absurd h (by simp)⟩ (fun i h=>absurd h (by simp)) (fun i h=>absurd h (by simp)) (fun i h=>absurd h (by simp)) (fun i h=>absurd h (by simp)) (fun i h=>absurd h (by simp)) (fun i h=>absurd h (by simp)) (fun i h=>absurd h (by simp)) (fun i h=>absurd h (by simp))
def PtL (w:World) (v:Value) (p:List SX) (lv:Nat→Value):Prop:=∃ b off,Sl w v p.length b off∧(∀ t (h:t<p.length),∀ y u,(s7 (p[t]'h).1 (lv t))[y]? = some u→w.cell? ⟨b,off+t * 7+y,none⟩=some u)∧∀ t (h:t<p.length),(∃ a n c,lv t=.slice a n c)∧ClAt w (lv t) (p[t]'h).2
def s7a (s:S6) (l:Value):Array Value:=#[.int .i64 s.k,.string s.nm,.int .i64 s.op,.string s.v,.int .i64 s.a,.int .i64 s.b,l]
theorem pt_one {w:World} {g:Nat} {s:S6} {u:Value} {L:List Cx} (h:w.heap[g]? = some (.cells (s7a s u) 39 (0,0))) (hu:ClAt w u L):PtL w (.slice (some ⟨g,0,none⟩) 1 1) [(s,L)] (fun _=>u):=by
 refine ⟨g,0,⟨_,1,rfl,Nat.le_refl _,by decide,fun _=>⟨rfl,(Array.getElem?_eq_some_iff.1 h).1⟩⟩,fun t ht y x hx=>?_,fun t ht=>?_⟩
 ·obtain rfl:t=0:=by have:t<1:=ht;omega
  have hx':(s7 s u)[y]? = some x:=hx
  rw [Nat.zero_mul,Nat.zero_add,cellAt h y,← hx']
  show (_:List Value).toArray[y]? = _
  rw [List.getElem?_toArray]
  rfl
 ·obtain rfl:t=0:=by have:t<1:=ht;omega
  refine ⟨?_,hu⟩
  obtain ⟨_,_,⟨a,c,e,_⟩,_⟩:=hu.at
  exact ⟨_,_,_,e⟩
theorem pt_two {w:World} {g:Nat} {s t:S6} (h:w.heap[g]? = some (.cells #[.int .i64 s.k,.string s.nm,.int .i64 s.op,.string s.v,.int .i64 s.a,.int .i64 s.b,.slice none 0 0,.int .i64 t.k,.string t.nm,.int .i64 t.op,.string t.v,.int .i64 t.a,.int .i64 t.b,.slice none 0 0] 39 (0,0))):PtL w (.slice (some ⟨g,0,none⟩) 2 2) [(s,[]),(t,[])] (fun _=>.slice none 0 0):=by
 refine ⟨g,0,⟨_,2,rfl,Nat.le_refl _,by decide,fun _=>⟨rfl,(Array.getElem?_eq_some_iff.1 h).1⟩⟩,fun i hi y x hx=>?_,fun i hi=>?_⟩
 ·have:i=0∨i=1:=by have:i<2:=hi;omega
  have hy:y<7:=(List.getElem?_eq_some_iff.1 hx).1
  rcases this with rfl | rfl
  ·have hx':(s7 s (.slice none 0 0))[y]? = some x:=hx
   rw [cellAt h,← hx']
   have:y=0∨y=1∨y=2∨y=3∨y=4∨y=5∨y=6:=by omega
   rcases this with rfl | rfl | rfl | rfl | rfl | rfl | rfl <;> rfl
  ·have hx':(s7 t (.slice none 0 0))[y]? = some x:=hx
   rw [cellAt h,← hx']
   have:y=0∨y=1∨y=2∨y=3∨y=4∨y=5∨y=6:=by omega
   rcases this with rfl | rfl | rfl | rfl | rfl | rfl | rfl <;> rfl
 ·have:i=0∨i=1:=by have:i<2:=hi;omega
  rcases this with rfl | rfl <;> exact ⟨⟨_,_,_,rfl⟩,cl_nil w⟩
def PaP (W:World) (r:Option (List Cx)) (e:Ending) (w':World):Prop:=match r with
 | none=>e=.returned (.tuple #[.slice none 0 0,.bool false])∧Below W.heap.size W w'
 | some l=>∃ ua un uc,e=.returned (.tuple #[.slice ua un uc,.bool true])∧Rob W.heap.size w'.heap.size w' (fun w2=>ClAt w2 (.slice ua un uc) l)∧Below W.heap.size W w'
def PsP (W:World) (r:Option (List SX)) (e:Ending) (w':World):Prop:=∃ va vn vc,Below W.heap.size W w'∧match r with
 | none=>e=.returned (.tuple #[.slice va vn vc,.bool false])
 | some p=>e=.returned (.tuple #[.slice va vn vc,.bool true])∧∃ lv,Rob W.heap.size w'.heap.size w' (fun w2=>PtL w2 (.slice va vn vc) p lv)
theorem PsP.no {W w':World} {va:Option Addr} {vn vc:Nat} (h:Below W.heap.size W w'):PsP W none (.returned (.tuple #[.slice va vn vc,.bool false])) w':=⟨va,vn,vc,h,rfl⟩
theorem PsP.one {W w:World} {s:S6} (h:Below W.heap.size W w) (hs:W.heap.size≤w.heap.size):PsP W (some [(s,[])]) (.returned (.tuple #[.slice (some ⟨w.heap.size,0,none⟩) 1 1,.bool true])) (w.alloc (.cells (s7a s (.slice none 0 0)) 39)) :=
 ⟨_,_,_,h.alloc hs _,rfl,_,fun w2 h2=>pt_one ((h2 _ hs (by simp)).trans (heap_alloc_last w _)) (cl_nil w2)⟩
theorem rfold2_any (s:ByteArray) (w:World) (hs:s.size≤1000000000000):Calls Tryz.prog 117 #[.string s] w fun e w'=>e=.returned (.string (foldS s))∧Below w.heap.size w w':=Y.refFold_any s w hs
theorem num2 (s:ByteArray):numZ 2 s=if (s.toList == [110,111,116])=true then 5 else if (s.toList == [105,115])=true then 6 else if (s.toList == [119,104,101,114,101])=true then 7 else if (s.toList == [110,116,104,45,99,104,105,108,100])=true then 8 else if (s.toList == [110,116,104,45,108,97,115,116,45,99,104,105,108,100])=true then 9 else if (s.toList == [114,111,111,116])=true then 10 else if (s.toList == [101,109,112,116,121])=true then 11 else 0:=by
 have e:∀ a:List UInt8,(a == s.toList)=(s.toList == a):=fun a=>by
  rw [Bool.eq_iff_iff,beq_iff_eq,beq_iff_eq]
  exact eq_comm
 unfold numZ sgn
 simp only [numL]
 simp [e]
theorem st_root {nm:ByteArray} (h:(nm.toList == [114,111,111,116])=true):stL nm=some ([⟨10,⟨#[]⟩,0,⟨#[]⟩,0,0⟩],2):=by
 have h:nm.toList=[114,111,111,116]:=by simpa using h
 unfold stL
 rw [num2,h]
 rfl
theorem st_empty {nm:ByteArray} (h:(nm.toList == [101,109,112,116,121])=true):stL nm=some ([⟨11,⟨#[]⟩,0,⟨#[]⟩,0,0⟩],2):=by
 have h:nm.toList=[101,109,112,116,121]:=by simpa using h
 unfold stL
 rw [num2,h]
 rfl
theorem st_first {nm:ByteArray} (h:(nm.toList == [102,105,114,115,116,45,99,104,105,108,100])=true):stL nm=some ([nthS 8],2):=by
 have h:nm.toList=[102,105,114,115,116,45,99,104,105,108,100]:=by simpa using h
 unfold stL
 rw [num2,h]
 rfl
theorem st_last {nm:ByteArray} (h:(nm.toList == [108,97,115,116,45,99,104,105,108,100])=true):stL nm=some ([nthS 9],2):=by
 have h:nm.toList=[108,97,115,116,45,99,104,105,108,100]:=by simpa using h
 unfold stL
 rw [num2,h]
 rfl
theorem st_only {nm:ByteArray} (h:(nm.toList == [111,110,108,121,45,99,104,105,108,100])=true):stL nm=some ([nthS 8,nthS 9],2):=by
 have h:nm.toList=[111,110,108,121,45,99,104,105,108,100]:=by simpa using h
 unfold stL
 rw [num2,h]
 rfl
theorem st_none {nm:ByteArray} (hroot:(nm.toList == [114,111,111,116])=false) (hempty:(nm.toList == [101,109,112,116,121])=false) (hfirst:(nm.toList == [102,105,114,115,116,45,99,104,105,108,100])=false) (hlast:(nm.toList == [108,97,115,116,45,99,104,105,108,100])=false) (honly:(nm.toList == [111,110,108,121,45,99,104,105,108,100])=false):stL nm=none:=by
 unfold stL
 rw [num2,hfirst,hlast,honly,hroot,hempty]
 simp only [Bool.false_eq_true,if_false]
 rw [if_neg]
 repeat' split
 all_goals decide
def stP (t:T5):Option (List SX):=match stL (foldS t.tx) with
 | some (l,_)=>some (l.map fun s=>(s,[]))
 | none=>none
theorem rps_name {W:World} (t:T5) (ka:Option Addr) (kn kc:Nat) (hk:t.k=1) (hs:t.tx.size≤1000000000000):Calls Tryz.prog 136 #[vAg t (.slice ka kn kc)] W (PsP W (stP t)):=by
 obtain ⟨tk,tx,un,wh,fl⟩:=t
 dsimp only at hk hs
 subst hk
 obtain ⟨W1,hW1⟩:∃ W1,W1=W.alloc (.cells #[.int .i64 1,.string tx,.string un,.bool wh,.bool fl,.slice ka kn kc] 98):=⟨_,rfl⟩
 have hB1:Below W.heap.size W W1:=by rw [hW1];exact (Below.refl _ _).alloc (Nat.le_refl _) _
 have x1:W1.heap[W.heap.size]? = some (.cells #[.int .i64 1,.string tx,.string un,.bool wh,.bool fl,.slice ka kn kc] 98 (0,0)):=by rw [hW1];exact heap_alloc_last W _
 have hl1:W.heap.size<W1.heap.size:=(Array.getElem?_eq_some_iff.1 x1).1
 have hfo:=rfold2_any tx W1 hs
 have HE:Hid (stP ⟨1,tx,un,wh,fl⟩=match stL (foldS tx) with | some (l,_)=>some (l.map fun s=>(s,[])) | none=>none):=rfl
 generalize stP ⟨1,tx,un,wh,fl⟩=R at *
 generalize foldS tx=nm at *
 have y1:W1.cell? ⟨W.heap.size,1,none⟩=some (.string tx):=cellAt x1 1
 have HW1:=hid_mk hW1
 unfold vAg
 dsimp only
 have HIS:Hid (∀ w,Calls Tryz.prog 75 #[.agg #[.int .i64 1,.string tx,.string un,.bool wh,.bool fl,.slice ka kn kc],.int .i64 1] w fun e w'=>e=.returned (.bool ((1:Int) == 1))∧Below w.heap.size w w'):=fun w=>ris_any w ⟨1,tx,un,wh,fl⟩ ka kn kc 1
 clear hW1
 go_enter Tryz.func136,Tryz.ntmps136
 go_upto_region 1 with (fail)
 rw [← HW1.out]
 go_wp2_with (go_at_call 117;fail)
 refine hfo.mono ?_
 rintro e w2 ⟨rfl,hb2⟩
 have x2:=(hb2.block _ hl1).trans x1
 have q0:w2.cell? ⟨W.heap.size,0,none⟩=some (.int .i64 1):=cellAt x2 0
 have q1:w2.cell? ⟨W.heap.size,1,none⟩=some (.string tx):=cellAt x2 1
 have q2:w2.cell? ⟨W.heap.size,2,none⟩=some (.string un):=cellAt x2 2
 have q3:w2.cell? ⟨W.heap.size,3,none⟩=some (.bool wh):=cellAt x2 3
 have q4:w2.cell? ⟨W.heap.size,4,none⟩=some (.bool fl):=cellAt x2 4
 have q5:w2.cell? ⟨W.heap.size,5,none⟩=some (.slice ka kn kc):=cellAt x2 5
 have hB2:Below W.heap.size W w2:=hB1.trans (hb2.mono hB1.size)
 have hi:=HIS.out w2
 have HB2:=hid_mk hB2
 clear hfo hb2 x1 x2 hl1 hB1 y1 HW1 HIS hB2
 go_wp2_with (go_at_call 75;fail)
 refine hi.mono ?_
 rintro e w3 ⟨rfl,hb3⟩
 have hB3:Below W.heap.size W w3:=HB2.out.trans (hb3.mono HB2.out.size)
 have HB3:=hid_mk hB3
 have hsz:W.heap.size≤w3.heap.size:=hB3.size
 clear hi hb3 q0 q1 q2 q3 q4 q5 HB2 hB3
 rw [show ((1:Int) == 1)=true from rfl]
 cases hroot:(nm.toList == [114,111,111,116]) with
 | true =>
   have HE2:Hid (R=some [(⟨10,⟨#[]⟩,0,⟨#[]⟩,0,0⟩,[])]):=by rw [Hid,HE.out,st_root hroot];rfl
   clear HE
   go_wp2
   go_ret2
   rw [HE2.out]
   exact PsP.one (s:=⟨10,⟨#[]⟩,0,⟨#[]⟩,0,0⟩) HB3.out hsz
 | false =>
   cases hempty:(nm.toList == [101,109,112,116,121]) with
   | true =>
     have HE2:Hid (R=some [(⟨11,⟨#[]⟩,0,⟨#[]⟩,0,0⟩,[])]):=by rw [Hid,HE.out,st_empty hempty];rfl
     clear HE
     go_wp2
     go_ret2
     rw [HE2.out]
     exact PsP.one (s:=⟨11,⟨#[]⟩,0,⟨#[]⟩,0,0⟩) HB3.out hsz
   | false =>
     cases hfirst:(nm.toList == [102,105,114,115,116,45,99,104,105,108,100]) with
     | true =>
       have HE2:Hid (R=some [(nthS 8,[])]):=by rw [Hid,HE.out,st_first hfirst];rfl
       clear HE
       go_wp2
       go_ret2
       rw [HE2.out]
       exact PsP.one (s:=nthS 8) HB3.out hsz
     | false =>
       cases hlast:(nm.toList == [108,97,115,116,45,99,104,105,108,100]) with
       | true =>
         have HE2:Hid (R=some [(nthS 9,[])]):=by rw [Hid,HE.out,st_last hlast];rfl
         clear HE
         go_wp2
         go_ret2
         rw [HE2.out]
         exact PsP.one (s:=nthS 9) HB3.out hsz
       | false =>
         cases honly:(nm.toList == [111,110,108,121,45,99,104,105,108,100]) with
         | true =>
           have HE2:Hid (R=some [(nthS 8,[]),(nthS 9,[])]):=by rw [Hid,HE.out,st_only honly];rfl
           clear HE
           go_wp2
           go_ret2
           rw [HE2.out]
           exact ⟨_,_,_,HB3.out.alloc hsz _,rfl,_,fun w2 h2=>pt_two (s:=nthS 8) (t:=nthS 9) ((h2 _ hsz (by simp)).trans (heap_alloc_last w3 _))⟩
         | false =>
           have HE2:Hid (R=none):=by rw [Hid,HE.out,st_none hroot hempty hfirst hlast honly]
           clear HE
           go_wp2
           go_ret2
           rw [HE2.out]
           exact PsP.no HB3.out
end Go.Proofs.YtemlnblifkdenaaGreatDoor.L
namespace Go.Proofs.YtemlnblifkdenaaGreatDoor.N
open Go.RowKit
def digB (l:List Int):Bool:=l.all digitZ
theorem digB_iff (l:List Int):digB l=true ↔ Dig l:=by
 unfold digB Dig digitZ
 simp
def sgnB (s:ByteArray):Bool:=decide (0<s.size) && ((s.get! 0).toNat == 43 || (s.get! 0).toNat == 45)
def negB (s:ByteArray):Bool:=decide (0<s.size) && (s.get! 0).toNat == 45
def bodyS (s:ByteArray):ByteArray:=if sgnB s then s.extract 1 s.size else s
def negZ (b:Bool) (n:Int):Int:=if b then -n else n
def intV (bl:Bool) (ds:List Int):Int×Bool:=if ds≠[]∧digB ds=true then (negZ bl (satL ds),true) else (0,false)
theorem ret2_v {v:Int×Bool} {a:Int} {b:Bool} (h:v=(a,b)):Ending.returned (.tuple #[.int .i64 a,.bool b])=.returned (.tuple #[.int .i64 v.1,.bool v.2]):=by rw [h]
theorem whole_plain (s:ByteArray) (hs:s.size≤1000000000000) (h0:0<s.size) (h45:(s[0]'h0).toNat≠45) (h43:(s[0]'h0).toNat≠43) (w:World) :
  Calls Tryz.prog 156 #[.string s] w fun e w'=>e=.returned (.tuple #[.int .i64 (intV false (bytesL s)).1,.bool (intV false (bytesL s)).2])∧w=w':=by
 have e1:(((s[0]'h0).toNat:Int) == 45)=false:=by simp;omega
 have e2:(((s[0]'h0).toNat:Int) == 43)=false:=by simp;omega
 have HSZ:=hid_mk (bytesL_size s)
 have HGT:=hid_mk (fun p hp=>byte_at s p hp)
 have HNE:Hid (bytesL s≠[]):=by
  intro e
  have:=bytesL_size s
  rw [e] at this
  simp at this
  omega
 clear h45 h43
 generalize bytesL s=ds at *
 go_enter Tryz.func156,Tryz.ntmps156
 go_wp2
 go_loop [5,6] (fun a5 a6=>∃ k:Nat,a6=.int .i64 k∧a5=.int .i64 (satL (ds.take k))∧k≤ds.length∧Dig (ds.take k)) (fun _ a6=>ds.length+1 - (intOf a6).toNat)
 case atStart=>exact ⟨0,rfl,rfl,Nat.zero_le _,fun c hc=>by simp at hc⟩
 case round =>
  obtain ⟨k,rfl,rfl,hk,hdig⟩:=hrel
  have hsb:=satL_bd (ds.take k) hdig
  have HDG:=hid_mk hdig
  clear hdig
  by_cases hlt:k<ds.length
  ·have hps:k<s.size:=by rw [← HSZ.out];exact hlt
   have HGB:=hid_mk (HGT.out k hps)
   have HTK:Hid (ds.take (k+1)=ds.take k++[ds.getD k 0]):=by
    show _=_
    rw [List.take_add_one]
    simp [List.getD,hlt]
   have HMEM:Hid (ds.getD k 0∈ds):=by
    show _∈_
    simp [List.getD,hlt]
   have hb8:=(s[k]'hps).toNat_lt
   have HNO:Hid (¬ (48≤ds.getD k 0∧ds.getD k 0≤57)→intV false ds=(0,false)):=by
    intro hnd
    unfold intV
    rw [if_neg]
    rintro ⟨_,hd⟩
    exact hnd ((digB_iff ds).1 hd _ HMEM.out)
   by_cases hc1:48≤(s[k]'hps).toNat
   ·by_cases hc2:(s[k]'hps).toNat≤57
    ·have HS:Hid (satL (ds.take (k+1))=satZ (satL (ds.take k)) (ds.getD k 0)):=by
      show satL (ds.take (k+1))=_
      rw [HTK.out,satL_snoc]
     have HD2:Hid (Dig (ds.take (k+1))):=by
      show Dig _
      rw [HTK.out]
      intro c hc
      rcases List.mem_append.1 hc with hc | hc
      ·exact HDG.out c hc
      ·rw [List.mem_singleton.1 hc,HGB.out]
       omega
     have HV:Hid (satL (ds.take (k+1))=if 1000000<10 * satL (ds.take k)+(((s[k]'hps).toNat:Int) - 48) then 1000000 else 10 * satL (ds.take k)+(((s[k]'hps).toNat:Int) - 48)):=by
      show _=_
      rw [HS.out,HGB.out]
      unfold satZ
      rw [Int.mul_comm 10]
     clear HNO HGB HTK
     generalize satL (ds.take k)=sn at *
     by_cases hbg:1000000<10 * sn+(((s[k]'hps).toNat:Int) - 48)
     ·have HV2:Hid (satL (ds.take (k+1))=1000000):=by
       show _=_
       rw [HV.out,if_pos hbg]
      go_wp2
      go_round
      case rel=>exact ⟨k+1,by go_num,congrArg (Value.int .i64) HV2.out.symm,by omega,HD2.out⟩
      case measure=>simp [intOf];omega
     ·have HV2:Hid (satL (ds.take (k+1))=10 * sn+(((s[k]'hps).toNat:Int) - 48)):=by
       show _=_
       rw [HV.out,if_neg hbg]
      go_wp2
      go_round
      case rel=>exact ⟨k+1,by go_num,congrArg (Value.int .i64) HV2.out.symm,by omega,HD2.out⟩
      case measure=>simp [intOf];omega
    ·have HN2:Hid (intV false ds=(0,false)):=HNO.out (by rw [HGB.out];omega)
     generalize satL (ds.take k)=sn at *
     clear HNO HGB HTK
     go_wp2
     go_ret2
     exact ⟨ret2_v HN2.out,rfl⟩
   ·have HN2:Hid (intV false ds=(0,false)):=HNO.out (by rw [HGB.out];omega)
    generalize satL (ds.take k)=sn at *
    clear HNO HGB HTK
    go_wp2
    go_ret2
    exact ⟨ret2_v HN2.out,rfl⟩
  ·have hps:¬ k<s.size:=by rw [← HSZ.out];exact hlt
   have HE:Hid (ds.take k=ds):=by show ds.take k=ds;exact List.take_of_length_le (by omega)
   have HDD:Hid (intV false ds=(negZ false (satL ds),true)):=by
    show _=_
    unfold intV
    have h1:=HDG.out
    rw [HE.out] at h1
    rw [if_pos ⟨HNE.out,(digB_iff ds).2 h1⟩]
   generalize hsn:satL (ds.take k)=sn at *
   have HSN:Hid (satL ds=sn):=by show satL ds=sn;rw [← hsn,HE.out]
   clear hsn
   go_wp2
   go_ret2
   exact ⟨ret2_v (by rw [HDD.out,HSN.out];rfl),rfl⟩
theorem whole_minus (s:ByteArray) (hs:s.size≤1000000000000) (h0:0<s.size) (hc:(s[0]'h0).toNat=45) (h1:1<s.size) (w:World) :
  Calls Tryz.prog 156 #[.string s] w fun e w'=>e=.returned (.tuple #[.int .i64 (intV true (bytesL (s.extract 1 s.size))).1,.bool (intV true (bytesL (s.extract 1 s.size))).2])∧w=w':=by
 have e1:(((s[0]'h0).toNat:Int) == 45)=true:=by rw [hc];rfl
 have e2:(((s[0]'h0).toNat:Int) == 43)=false:=by rw [hc];rfl
 have hts:(s.extract 1 s.size).size=s.size - 1:=by simp
 have HSZ:=hid_mk (bytesL_size (s.extract 1 s.size))
 have HGT:=hid_mk (fun p hp=>byte_at (s.extract 1 s.size) p hp)
 have HNE:Hid (bytesL (s.extract 1 s.size)≠[]):=by
  intro e
  have:=bytesL_size (s.extract 1 s.size)
  rw [e] at this
  simp at this
  omega
 generalize bytesL (s.extract 1 s.size)=ds at *
 clear hc
 go_enter Tryz.func156,Tryz.ntmps156
 go_wp2
 generalize s.extract 1 s.size=t at *
 have htp:0<t.size:=by omega
 have htb:t.size≤1000000000000:=by omega
 clear hts
 go_loop [5,6] (fun a5 a6=>∃ k:Nat,a6=.int .i64 k∧a5=.int .i64 (satL (ds.take k))∧k≤ds.length∧Dig (ds.take k)) (fun _ a6=>ds.length+1 - (intOf a6).toNat)
 case atStart=>exact ⟨0,rfl,rfl,Nat.zero_le _,fun c hc=>by simp at hc⟩
 case round =>
  obtain ⟨k,rfl,rfl,hk,hdig⟩:=hrel
  have hsb:=satL_bd (ds.take k) hdig
  have HDG:=hid_mk hdig
  clear hdig
  by_cases hlt:k<ds.length
  ·have hps:k<t.size:=by rw [← HSZ.out];exact hlt
   have HGB:=hid_mk (HGT.out k hps)
   have HTK:Hid (ds.take (k+1)=ds.take k++[ds.getD k 0]):=by
    show _=_
    rw [List.take_add_one]
    simp [List.getD,hlt]
   have HMEM:Hid (ds.getD k 0∈ds):=by
    show _∈_
    simp [List.getD,hlt]
   have hb8:=(t[k]'hps).toNat_lt
   have HNO:Hid (¬ (48≤ds.getD k 0∧ds.getD k 0≤57)→intV true ds=(0,false)):=by
    intro hnd
    unfold intV
    rw [if_neg]
    rintro ⟨_,hd⟩
    exact hnd ((digB_iff ds).1 hd _ HMEM.out)
   by_cases hc1:48≤(t[k]'hps).toNat
   ·by_cases hc2:(t[k]'hps).toNat≤57
    ·have HS:Hid (satL (ds.take (k+1))=satZ (satL (ds.take k)) (ds.getD k 0)):=by
      show satL (ds.take (k+1))=_
      rw [HTK.out,satL_snoc]
     have HD2:Hid (Dig (ds.take (k+1))):=by
      show Dig _
      rw [HTK.out]
      intro c hc
      rcases List.mem_append.1 hc with hc | hc
      ·exact HDG.out c hc
      ·rw [List.mem_singleton.1 hc,HGB.out]
       omega
     have HV:Hid (satL (ds.take (k+1))=if 1000000<10 * satL (ds.take k)+(((t[k]'hps).toNat:Int) - 48) then 1000000 else 10 * satL (ds.take k)+(((t[k]'hps).toNat:Int) - 48)):=by
      show _=_
      rw [HS.out,HGB.out]
      unfold satZ
      rw [Int.mul_comm 10]
     clear HNO HGB HTK
     generalize satL (ds.take k)=sn at *
     by_cases hbg:1000000<10 * sn+(((t[k]'hps).toNat:Int) - 48)
     ·have HV2:Hid (satL (ds.take (k+1))=1000000):=by
       show _=_
       rw [HV.out,if_pos hbg]
      go_wp2
      go_round
      case rel=>exact ⟨k+1,by go_num,congrArg (Value.int .i64) HV2.out.symm,by omega,HD2.out⟩
      case measure=>simp [intOf];omega
     ·have HV2:Hid (satL (ds.take (k+1))=10 * sn+(((t[k]'hps).toNat:Int) - 48)):=by
       show _=_
       rw [HV.out,if_neg hbg]
      go_wp2
      go_round
      case rel=>exact ⟨k+1,by go_num,congrArg (Value.int .i64) HV2.out.symm,by omega,HD2.out⟩
      case measure=>simp [intOf];omega
    ·have HN2:Hid (intV true ds=(0,false)):=HNO.out (by rw [HGB.out];omega)
     generalize satL (ds.take k)=sn at *
     clear HNO HGB HTK
     go_wp2
     go_ret2
     exact ⟨ret2_v HN2.out,rfl⟩
   ·have HN2:Hid (intV true ds=(0,false)):=HNO.out (by rw [HGB.out];omega)
    generalize satL (ds.take k)=sn at *
    clear HNO HGB HTK
    go_wp2
    go_ret2
    exact ⟨ret2_v HN2.out,rfl⟩
  ·have hps:¬ k<t.size:=by rw [← HSZ.out];exact hlt
   have HE:Hid (ds.take k=ds):=by show ds.take k=ds;exact List.take_of_length_le (by omega)
   have HDD:Hid (intV true ds=(negZ true (satL ds),true)):=by
    show _=_
    unfold intV
    have h1:=HDG.out
    rw [HE.out] at h1
    rw [if_pos ⟨HNE.out,(digB_iff ds).2 h1⟩]
   generalize hsn:satL (ds.take k)=sn at *
   have HSN:Hid (satL ds=sn):=by show satL ds=sn;rw [← hsn,HE.out]
   clear hsn
   go_wp2
   go_ret2
   exact ⟨ret2_v (by rw [HDD.out,HSN.out];rfl),rfl⟩
theorem whole_minus0 (s:ByteArray) (h0:0<s.size) (hc:(s[0]'h0).toNat=45) (h1:s.size=1) (w:World) :
  Calls Tryz.prog 156 #[.string s] w fun e w'=>e=.returned (.tuple #[.int .i64 0,.bool false])∧w=w':=by
 have e1:(((s[0]'h0).toNat:Int) == 45)=true:=by rw [hc];rfl
 have e2:(((s[0]'h0).toNat:Int) == 43)=false:=by rw [hc];rfl
 have ht:s.extract 1 s.size=⟨#[]⟩:=empty_of (by simp [h1])
 clear hc
 go_enter Tryz.func156,Tryz.ntmps156
 go_wp2
 first | rw [ht] | skip
 go_loop [5,6] (fun a5 a6=>a5=.int .i64 0∧a6=.int .i64 0) (fun _ _=>0)
 case atStart=>exact ⟨rfl,rfl⟩
 case round =>
  obtain ⟨rfl,rfl⟩:=hrel
  go_wp2
  go_ret2
  exact ⟨rfl,rfl⟩
theorem whole_plus (s:ByteArray) (hs:s.size≤1000000000000) (h0:0<s.size) (hc:(s[0]'h0).toNat=43) (h1:1<s.size) (w:World) :
  Calls Tryz.prog 156 #[.string s] w fun e w'=>e=.returned (.tuple #[.int .i64 (intV false (bytesL (s.extract 1 s.size))).1,.bool (intV false (bytesL (s.extract 1 s.size))).2])∧w=w':=by
 have e1:(((s[0]'h0).toNat:Int) == 45)=false:=by rw [hc];rfl
 have e2:(((s[0]'h0).toNat:Int) == 43)=true:=by rw [hc];rfl
 have hts:(s.extract 1 s.size).size=s.size - 1:=by simp
 have HSZ:=hid_mk (bytesL_size (s.extract 1 s.size))
 have HGT:=hid_mk (fun p hp=>byte_at (s.extract 1 s.size) p hp)
 have HNE:Hid (bytesL (s.extract 1 s.size)≠[]):=by
  intro e
  have:=bytesL_size (s.extract 1 s.size)
  rw [e] at this
  simp at this
  omega
 generalize bytesL (s.extract 1 s.size)=ds at *
 clear hc
 go_enter Tryz.func156,Tryz.ntmps156
 go_wp2
 generalize s.extract 1 s.size=t at *
 have htp:0<t.size:=by omega
 have htb:t.size≤1000000000000:=by omega
 clear hts
 go_loop [5,6] (fun a5 a6=>∃ k:Nat,a6=.int .i64 k∧a5=.int .i64 (satL (ds.take k))∧k≤ds.length∧Dig (ds.take k)) (fun _ a6=>ds.length+1 - (intOf a6).toNat)
 case atStart=>exact ⟨0,rfl,rfl,Nat.zero_le _,fun c hc=>by simp at hc⟩
 case round =>
  obtain ⟨k,rfl,rfl,hk,hdig⟩:=hrel
  have hsb:=satL_bd (ds.take k) hdig
  have HDG:=hid_mk hdig
  clear hdig
  by_cases hlt:k<ds.length
  ·have hps:k<t.size:=by rw [← HSZ.out];exact hlt
   have HGB:=hid_mk (HGT.out k hps)
   have HTK:Hid (ds.take (k+1)=ds.take k++[ds.getD k 0]):=by
    show _=_
    rw [List.take_add_one]
    simp [List.getD,hlt]
   have HMEM:Hid (ds.getD k 0∈ds):=by
    show _∈_
    simp [List.getD,hlt]
   have hb8:=(t[k]'hps).toNat_lt
   have HNO:Hid (¬ (48≤ds.getD k 0∧ds.getD k 0≤57)→intV false ds=(0,false)):=by
    intro hnd
    unfold intV
    rw [if_neg]
    rintro ⟨_,hd⟩
    exact hnd ((digB_iff ds).1 hd _ HMEM.out)
   by_cases hc1:48≤(t[k]'hps).toNat
   ·by_cases hc2:(t[k]'hps).toNat≤57
    ·have HS:Hid (satL (ds.take (k+1))=satZ (satL (ds.take k)) (ds.getD k 0)):=by
      show satL (ds.take (k+1))=_
      rw [HTK.out,satL_snoc]
     have HD2:Hid (Dig (ds.take (k+1))):=by
      show Dig _
      rw [HTK.out]
      intro c hc
      rcases List.mem_append.1 hc with hc | hc
      ·exact HDG.out c hc
      ·rw [List.mem_singleton.1 hc,HGB.out]
       omega
     have HV:Hid (satL (ds.take (k+1))=if 1000000<10 * satL (ds.take k)+(((t[k]'hps).toNat:Int) - 48) then 1000000 else 10 * satL (ds.take k)+(((t[k]'hps).toNat:Int) - 48)):=by
      show _=_
      rw [HS.out,HGB.out]
      unfold satZ
      rw [Int.mul_comm 10]
     clear HNO HGB HTK
     generalize satL (ds.take k)=sn at *
     by_cases hbg:1000000<10 * sn+(((t[k]'hps).toNat:Int) - 48)
     ·have HV2:Hid (satL (ds.take (k+1))=1000000):=by
       show _=_
       rw [HV.out,if_pos hbg]
      go_wp2
      go_round
      case rel=>exact ⟨k+1,by go_num,congrArg (Value.int .i64) HV2.out.symm,by omega,HD2.out⟩
      case measure=>simp [intOf];omega
     ·have HV2:Hid (satL (ds.take (k+1))=10 * sn+(((t[k]'hps).toNat:Int) - 48)):=by
       show _=_
       rw [HV.out,if_neg hbg]
      go_wp2
      go_round
      case rel=>exact ⟨k+1,by go_num,congrArg (Value.int .i64) HV2.out.symm,by omega,HD2.out⟩
      case measure=>simp [intOf];omega
    ·have HN2:Hid (intV false ds=(0,false)):=HNO.out (by rw [HGB.out];omega)
     generalize satL (ds.take k)=sn at *
     clear HNO HGB HTK
     go_wp2
     go_ret2
     exact ⟨ret2_v HN2.out,rfl⟩
   ·have HN2:Hid (intV false ds=(0,false)):=HNO.out (by rw [HGB.out];omega)
    generalize satL (ds.take k)=sn at *
    clear HNO HGB HTK
    go_wp2
    go_ret2
    exact ⟨ret2_v HN2.out,rfl⟩
  ·have hps:¬ k<t.size:=by rw [← HSZ.out];exact hlt
   have HE:Hid (ds.take k=ds):=by show ds.take k=ds;exact List.take_of_length_le (by omega)
   have HDD:Hid (intV false ds=(negZ false (satL ds),true)):=by
    show _=_
    unfold intV
    have h1:=HDG.out
    rw [HE.out] at h1
    rw [if_pos ⟨HNE.out,(digB_iff ds).2 h1⟩]
   generalize hsn:satL (ds.take k)=sn at *
   have HSN:Hid (satL ds=sn):=by show satL ds=sn;rw [← hsn,HE.out]
   clear hsn
   go_wp2
   go_ret2
   exact ⟨ret2_v (by rw [HDD.out,HSN.out];rfl),rfl⟩
theorem whole_plus0 (s:ByteArray) (h0:0<s.size) (hc:(s[0]'h0).toNat=43) (h1:s.size=1) (w:World) :
  Calls Tryz.prog 156 #[.string s] w fun e w'=>e=.returned (.tuple #[.int .i64 0,.bool false])∧w=w':=by
 have e1:(((s[0]'h0).toNat:Int) == 45)=false:=by rw [hc];rfl
 have e2:(((s[0]'h0).toNat:Int) == 43)=true:=by rw [hc];rfl
 have ht:s.extract 1 s.size=⟨#[]⟩:=empty_of (by simp [h1])
 clear hc
 go_enter Tryz.func156,Tryz.ntmps156
 go_wp2
 first | rw [ht] | skip
 go_loop [5,6] (fun a5 a6=>a5=.int .i64 0∧a6=.int .i64 0) (fun _ _=>0)
 case atStart=>exact ⟨rfl,rfl⟩
 case round =>
  obtain ⟨rfl,rfl⟩:=hrel
  go_wp2
  go_ret2
  exact ⟨rfl,rfl⟩
theorem whole_empty (w:World):Calls Tryz.prog 156 #[.string ⟨#[]⟩] w fun e w'=>e=.returned (.tuple #[.int .i64 0,.bool false])∧w=w':=by
 go_enter Tryz.func156,Tryz.ntmps156
 go_wp2
 go_loop [5,6] (fun a5 a6=>a5=.int .i64 0∧a6=.int .i64 0) (fun _ _=>0)
 case atStart=>exact ⟨rfl,rfl⟩
 case round =>
  obtain ⟨rfl,rfl⟩:=hrel
  go_wp2
  go_ret2
  exact ⟨rfl,rfl⟩
theorem whole_any (s:ByteArray) (hs:s.size≤1000000000000) (w:World) :
  Calls Tryz.prog 156 #[.string s] w fun e w'=>e=.returned (.tuple #[.int .i64 (intV (negB s) (bytesL (bodyS s))).1,.bool (intV (negB s) (bytesL (bodyS s))).2])∧w=w':=by
 by_cases h0:0<s.size
 ·have hg:=get_at s h0
  have es:sgnB s=((s[0]'h0).toNat == 43 || (s[0]'h0).toNat == 45):=by unfold sgnB;rw [hg];simp [h0]
  have en:negB s=((s[0]'h0).toNat == 45):=by unfold negB;rw [hg];simp [h0]
  have hnil:∀ bl,intV bl (bytesL ⟨#[]⟩)=(0,false):=by
   intro bl
   unfold intV
   rw [if_neg]
   rintro ⟨h,_⟩
   exact h rfl
  by_cases h43:(s[0]'h0).toNat=43
  ·have hb:bodyS s=s.extract 1 s.size:=by unfold bodyS;rw [es,h43];rfl
   have hn:negB s=false:=by rw [en,h43];rfl
   rw [hb,hn]
   by_cases h1:1<s.size
   ·exact whole_plus s hs h0 h43 h1 w
   ·rw [empty_of (show (s.extract 1 s.size).size=0 by simp;omega),hnil]
    exact whole_plus0 s h0 h43 (by omega) w
  ·by_cases h45:(s[0]'h0).toNat=45
   ·have hb:bodyS s=s.extract 1 s.size:=by unfold bodyS;rw [es,h45];rfl
    have hn:negB s=true:=by rw [en,h45];rfl
    rw [hb,hn]
    by_cases h1:1<s.size
    ·exact whole_minus s hs h0 h45 h1 w
    ·rw [empty_of (show (s.extract 1 s.size).size=0 by simp;omega),hnil]
     exact whole_minus0 s h0 h45 (by omega) w
   ·have hb:bodyS s=s:=by unfold bodyS;rw [es];simp [h43,h45]
    have hn:negB s=false:=by rw [en];simp [h45]
    rw [hb,hn]
    exact whole_plain s hs h0 h45 h43 w
 ·have e:=empty_of (show s.size=0 by omega)
  subst e
  exact whole_empty w
end Go.Proofs.YtemlnblifkdenaaGreatDoor.N
