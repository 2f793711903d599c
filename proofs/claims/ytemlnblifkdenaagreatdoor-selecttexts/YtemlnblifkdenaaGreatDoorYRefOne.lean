/- One token in the second reading. -/
import Derived.Test.YtemlnblifkdenaaGreatDoorYRefWord
import Derived.Deep.DeepCutAuto
set_option maxRecDepth 100000
set_option maxHeartbeats 8000000
namespace Go.Proofs.YtemlnblifkdenaaGreatDoor.Y
open Go.RowKit
theorem exp_no {xs:List Int} {p:Nat} (h:(hd xs p == 101 || hd xs p == 69)=false):expN (xs.drop p)=0:=by
 unfold expN
 rw [hd_drop,Nat.add_zero,if_neg]
 simpa using h
theorem exp_yes {xs:List Int} {p:Nat} (h:(hd xs p == 101 || hd xs p == 69)=true):expN (xs.drop p)=if (hd xs (p+1) == 43 || hd xs (p+1) == 45) then (if digitZ (hd xs (p+2)) then 2 else 0) else (if digitZ (hd xs (p+1)) then 1 else 0):=by
 unfold expN signB
 simp only [hd_drop,List.drop_drop,Nat.add_zero]
 rw [if_pos (by simpa using h)]
theorem digit_lt {xs:List Int} {p:Nat} (h:digitZ (hd xs p)=true):p<xs.length:=by
 by_cases hp:p<xs.length
 ·exact hp
 ·rw [hd_end hp] at h
  exact absurd h (by decide)
theorem row_part {w:World} {b off cap i p:Nat} {xs:List Int} (hv:RowAt .i32 w (.slice (some ⟨b,off,none⟩) xs.length cap) xs) (hi:i≤p) (hp:p≤xs.length) :
  RowAt .i32 w (.slice (some ⟨b,off+i,none⟩) (p - i) (cap - i)) ((xs.drop i).take (p - i)):=by
 obtain ⟨a,cap',e,hcap,hc⟩:=hv
 cases e
 have hlen:((xs.drop i).take (p - i)).length=p - i:=by simp;omega
 refine ⟨_,_,by rw [hlen],by rw [hlen];omega,fun h0=>?_⟩
 rw [hlen] at h0 ⊢
 obtain ⟨b',off',e,q⟩:=hc (by omega)
 cases e
 refine ⟨b,off+i,rfl,fun j hj=>?_⟩
 have:=q (i+j) (by omega)
 rw [← Nat.add_assoc] at this
 rw [this]
 congr 2
 simp [List.getD,List.getElem?_drop,hj]
theorem WN_below (w:World) (x y:Obj):Below w.heap.size w ((w.alloc x).alloc y):=((Below.refl _ _).alloc (Nat.le_refl _) _).alloc (by simp) _
theorem five_cells {w:World} {n:Nat} {x0 x1 x2 x3 x4:Value} (h:w.heap[n]? = some (.cells #[x0,x1,x2,x3,x4] 65 (0,0))) :
  w.cell? ⟨n,0,none⟩=some x0∧w.cell? ⟨n,1,none⟩=some x1∧w.cell? ⟨n,2,none⟩=some x2∧w.cell? ⟨n,3,none⟩=some x3∧w.cell? ⟨n,4,none⟩=some x4∧w.frozen? ⟨n,2,none⟩=false:=by
 refine ⟨?_,?_,?_,?_,?_,?_⟩
 all_goals first | (simp only [World.cell?,h];rfl) | (simp only [World.frozen?,h];rfl)
theorem gone_at {xs:List Int} {i p:Nat} (hip:i≤p) (hp:p≤xs.length):gone (xs.drop i) (xs.drop p)=(xs.drop i).take (p - i):=by
 unfold gone
 rw [List.length_drop,List.length_drop]
 congr 1
 omega
theorem rnumber_any {w:World} {v:Value} {xs:List Int} (hv:RowAt .i32 w v xs) (fx:Fine xs) (i:Nat) (j:Int) (hj:j=i) (hi:i<xs.length) :
  Calls Tryz.prog 90 #[v,.int .i64 j] w fun e w'=>∃ p:Nat,e=.returned (.tuple #[tokV (numZ (xs.drop i)).1,.int .i64 p])∧xs.drop p=(numZ (xs.drop i)).2∧i≤p∧p≤xs.length∧Below w.heap.size w w':=by
 subst hj
 have hl:=fx.1
 have HH:Hid (RowAt .i32 w v xs∧Fine xs):=And.intro hv fx
 have hrow0:RowAt .i32 ((w.alloc (.cells #[.int .i64 0,.string ⟨#[]⟩,.string ⟨#[]⟩,.bool false,.bool false] 65)).alloc (.cells #[.int .i64 10,.string (⟨#[]⟩),.string (⟨#[]⟩),.bool true,.bool false] 65)) v xs:=hv.below (WN_below w _ _)
 obtain ⟨b,off,cap,rfl,hcap,c0⟩:=row_cell hrow0 i hi
 have HUS:Hid (xs.drop (if hd xs i == 43 || hd xs i == 45 then i+1 else i)=unsignZ (xs.drop i)):=by
  show xs.drop _=unsignZ (xs.drop i)
  unfold unsignZ signB
  simp only [hd_drop,Nat.add_zero]
  by_cases h:(hd xs i == 43 || hd xs i == 45)=true
  ·rw [if_pos h,if_pos h,List.drop_drop]
  ·rw [if_neg h,if_neg h]
 have c0':((w.alloc (.cells #[.int .i64 0,.string ⟨#[]⟩,.string ⟨#[]⟩,.bool false,.bool false] 65)).alloc (.cells #[.int .i64 10,.string ⟨#[]⟩,.string ⟨#[]⟩,.bool true,.bool false] 65)).cell? ⟨b,off+i,none⟩=some (.int .i32 (hd xs i)):=c0
 clear c0 hrow0 hv fx
 generalize hd xs i=ci at c0' HUS
 go_enter Tryz.func90,Tryz.ntmps90
 go_upto_region 3 with fail
 go_cut [22] (fun s22 wx=>s22=.bool (ci == 43 || ci == 45)∧wx=((w.alloc (.cells #[.int .i64 0,.string ⟨#[]⟩,.string ⟨#[]⟩,.bool false,.bool false] 65)).alloc (.cells #[.int .i64 10,.string (⟨#[]⟩),.string (⟨#[]⟩),.bool true,.bool false] 65)))
 case first =>
  rcases (show ci=43∨ci=45∨(ci≠43∧ci≠45) by omega) with rfl | rfl | ⟨n43,n45⟩
  ·go_wp2_with fail
   go_meet
   exact ⟨rfl,rfl⟩
  ·go_wp2_with fail
   go_meet
   exact ⟨rfl,rfl⟩
  ·have m43:(ci == 43)=false:=by simpa using n43
   have m45:(ci == 45)=false:=by simpa using n45
   go_wp2_with fail
   go_meet
   exact ⟨by rw [m43,m45];rfl,rfl⟩
 case rest =>
 obtain ⟨rfl,rfl⟩:=hcut
 clear c0'
 generalize (ci == 43 || ci == 45)=sg at *
 go_upto_if 22 with fail
 go_cut [1] (fun s1 wx=>s1=.int .i64 ((if sg then i+1 else i:Nat):Int)∧wx=((w.alloc (.cells #[.int .i64 0,.string ⟨#[]⟩,.string ⟨#[]⟩,.bool false,.bool false] 65)).alloc (.cells #[.int .i64 10,.string (⟨#[]⟩),.string (⟨#[]⟩),.bool true,.bool false] 65)))
 case first =>
  cases sg
  ·go_wp2_with fail
   go_meet
   exact ⟨rfl,rfl⟩
  ·go_wp2_with fail
   go_meet
   exact ⟨by go_num,rfl⟩
 case rest =>
 obtain ⟨rfl,rfl⟩:=hcut
 have hp0:i≤(if sg=true then i+1 else i)∧(if sg=true then i+1 else i)≤xs.length:=by split <;> omega
 generalize (if sg=true then i+1 else i)=p0 at *
 have hdg:=rdigits_any (w:=((w.alloc (.cells #[.int .i64 0,.string ⟨#[]⟩,.string ⟨#[]⟩,.bool false,.bool false] 65)).alloc (.cells #[.int .i64 10,.string (⟨#[]⟩),.string (⟨#[]⟩),.bool true,.bool false] 65))) (HH.out.1.below (WN_below w _ _)) HH.out.2 p0 p0 rfl hp0.2
 have HM:Hid (∀ p1,xs.drop p1=digitsR (xs.drop p0)→xs.drop p1=mantR (xs.drop i)):=by
  show ∀ p1,xs.drop p1=digitsR (xs.drop p0)→xs.drop p1=mantR (xs.drop i)
  intro p1 h
  rw [h,HUS.out]
  rfl
 go_wp2_with (go_at_call 123;fail)
 refine (hdg).mono ?_
 rintro e w' ⟨p1,rfl,hd1,hp1,hp1',rfl⟩
 have HD1:=hid_mk (HM.out p1 hd1)
 clear hd1 hdg HM HUS
 have hdot:dotB (xs.drop p1)=(hd xs p1 == 46 && digitZ (hd xs (p1+1))):=by
  unfold dotB
  rw [hd_drop,hd_drop,Nat.add_zero]
 have hat1:=rat_any (w:=((w.alloc (.cells #[.int .i64 0,.string ⟨#[]⟩,.string ⟨#[]⟩,.bool false,.bool false] 65)).alloc (.cells #[.int .i64 10,.string (⟨#[]⟩),.string (⟨#[]⟩),.bool true,.bool false] 65))) (HH.out.1.below (WN_below w _ _)) HH.out.2 p1 p1 rfl
 have hat2:=rat_any (w:=((w.alloc (.cells #[.int .i64 0,.string ⟨#[]⟩,.string ⟨#[]⟩,.bool false,.bool false] 65)).alloc (.cells #[.int .i64 10,.string (⟨#[]⟩),.string (⟨#[]⟩),.bool true,.bool false] 65))) (HH.out.1.below (WN_below w _ _)) HH.out.2 (p1+1) ((p1:Int)+1) (by omega)
 have HDOT:=hid_mk hdot
 clear hdot
 go_upto_region 6 with fail
 go_cut [38] (fun s38 wx=>s38=.bool (dotB (xs.drop p1))∧wx=((w.alloc (.cells #[.int .i64 0,.string ⟨#[]⟩,.string ⟨#[]⟩,.bool false,.bool false] 65)).alloc (.cells #[.int .i64 10,.string (⟨#[]⟩),.string (⟨#[]⟩),.bool true,.bool false] 65)))
 case first =>
  generalize hd xs p1=c1 at *
  generalize hd xs (p1+1)=c2 at *
  by_cases h46:c1=46
  ·subst h46
   go_wp2_with (go_at_call 81;fail)
   refine (hat1).mono ?_
   rintro e w' ⟨rfl,rfl⟩
   go_wp2_with (go_at_call 81;fail)
   refine (hat2).mono ?_
   rintro e w' ⟨rfl,rfl⟩
   go_wp2_with (go_at_call 122;fail)
   refine (rdigit_any _ _).mono ?_
   rintro e w' ⟨rfl,rfl⟩
   go_wp2_with fail
   go_meet
   exact ⟨by rw [HDOT.out];simp,rfl⟩
  ·have m46:(c1 == 46)=false:=by simpa using h46
   go_wp2_with (go_at_call 81;fail)
   refine (hat1).mono ?_
   rintro e w' ⟨rfl,rfl⟩
   go_wp2_with fail
   go_meet
   exact ⟨by rw [HDOT.out,m46];rfl,rfl⟩
 case rest =>
 obtain ⟨rfl,rfl⟩:=hcut
 clear hat1 hat2
 go_upto_if 38 with fail
 go_cut [1] (fun s1 wx=>∃ p2:Nat,s1=.int .i64 (p2:Int)∧xs.drop p2=fracR (xs.drop p1)∧p1≤p2∧p2≤xs.length∧wx=((w.alloc (.cells #[.int .i64 0,.string ⟨#[]⟩,.string ⟨#[]⟩,.bool false,.bool false] 65)).alloc (.cells #[.int .i64 10,.string (⟨#[]⟩),.string (⟨#[]⟩),.bool (!dotB (xs.drop p1)),.bool false] 65)))
 case first =>
  cases hdt:dotB (xs.drop p1)
  ·have HF:Hid (xs.drop p1=fracR (xs.drop p1)):=by show xs.drop p1=fracR (xs.drop p1);unfold fracR;rw [hdt];rfl
   have HDT:=hid_mk hdt
   clear hdt
   go_wp2_with fail
   go_meet
   exact ⟨p1,rfl,HF.out,Nat.le_refl _,hp1',by rw [HDT.out];rfl⟩
  ·have hlt:p1+1<xs.length:=by
    have:=HDOT.out
    rw [hdt] at this
    exact digit_lt (Bool.and_eq_true_iff.1 this.symm).2
   have HF:Hid (digitsR (xs.drop (p1+1))=fracR (xs.drop p1)):=by show digitsR (xs.drop (p1+1))=fracR (xs.drop p1);unfold fracR;rw [hdt,List.drop_drop];rfl
   have hdg:=rdigits_any (w:=((w.alloc (.cells #[.int .i64 0,.string ⟨#[]⟩,.string ⟨#[]⟩,.bool false,.bool false] 65)).alloc (.cells #[.int .i64 10,.string (⟨#[]⟩),.string (⟨#[]⟩),.bool false,.bool false] 65))) (HH.out.1.below (WN_below w _ _)) HH.out.2 (p1+1) ((p1:Int)+1) (by omega) (by omega)
   have HDT:=hid_mk hdt
   clear hdt
   go_wp2_with (go_at_call 123;fail)
   refine (hdg).mono ?_
   rintro e w' ⟨p2,rfl,hd2,hp2,hp2',rfl⟩
   go_wp2_with fail
   go_meet
   exact ⟨p2,rfl,hd2.trans HF.out,by omega,hp2',by rw [HDT.out];rfl⟩
 case rest =>
 obtain ⟨p2,rfl,hd2,hp2,hp2',rfl⟩:=hcut
 have HD2:=hid_mk hd2
 clear hd2
 generalize hwh:(!dotB (xs.drop p1))=wh at *
 have HWH:=hid_mk hwh
 clear hwh
 have hat1:=rat_any (w:=((w.alloc (.cells #[.int .i64 0,.string ⟨#[]⟩,.string ⟨#[]⟩,.bool false,.bool false] 65)).alloc (.cells #[.int .i64 10,.string (⟨#[]⟩),.string (⟨#[]⟩),.bool wh,.bool false] 65))) (HH.out.1.below (WN_below w _ _)) HH.out.2 p2 p2 rfl
 go_upto_region 9 with fail
 go_cut [53] (fun s53 wx=>s53=.bool (hd xs p2 == 101 || hd xs p2 == 69)∧wx=((w.alloc (.cells #[.int .i64 0,.string ⟨#[]⟩,.string ⟨#[]⟩,.bool false,.bool false] 65)).alloc (.cells #[.int .i64 10,.string (⟨#[]⟩),.string (⟨#[]⟩),.bool wh,.bool false] 65)))
 case first =>
  generalize hd xs p2=c1 at *
  rcases (show c1=101∨c1=69∨(c1≠101∧c1≠69) by omega) with rfl | rfl | ⟨n1,n2⟩
  ·
   go_wp2_with (go_at_call 81;fail)
   refine (hat1).mono ?_
   rintro e w' ⟨rfl,rfl⟩
   go_wp2_with fail
   go_meet
   exact ⟨rfl,rfl⟩
  ·
   go_wp2_with (go_at_call 81;fail)
   refine (hat1).mono ?_
   rintro e w' ⟨rfl,rfl⟩
   go_wp2_with (go_at_call 81;fail)
   refine (hat1).mono ?_
   rintro e w' ⟨rfl,rfl⟩
   go_wp2_with fail
   go_meet
   exact ⟨rfl,rfl⟩
  ·have m1:(c1 == 101)=false:=by simpa using n1
   have m2:(c1 == 69)=false:=by simpa using n2
   go_wp2_with (go_at_call 81;fail)
   refine (hat1).mono ?_
   rintro e w' ⟨rfl,rfl⟩
   go_wp2_with (go_at_call 81;fail)
   refine (hat1).mono ?_
   rintro e w' ⟨rfl,rfl⟩
   go_wp2_with fail
   go_meet
   exact ⟨by rw [m1,m2];rfl,rfl⟩
 case rest =>
 obtain ⟨rfl,rfl⟩:=hcut
 clear hat1
 go_upto_if 53 with fail
 go_cut [1] (fun s1 wx=>∃ p3:Nat,s1=.int .i64 (p3:Int)∧xs.drop p3=expR (xs.drop p2)∧p2≤p3∧p3≤xs.length∧wx=((w.alloc (.cells #[.int .i64 0,.string ⟨#[]⟩,.string ⟨#[]⟩,.bool false,.bool false] 65)).alloc (.cells #[.int .i64 10,.string (⟨#[]⟩),.string (⟨#[]⟩),.bool (wh && !decide (0<expN (xs.drop p2))),.bool false] 65)))
 case first =>
  cases hE:(hd xs p2 == 101 || hd xs p2 == 69)
  ·have hx:=exp_no hE
   have HF:Hid (xs.drop p2=expR (xs.drop p2)):=by show xs.drop p2=expR (xs.drop p2);unfold expR;rw [hx,if_neg (by omega)]
   have HW:Hid ((wh && !decide (0<expN (xs.drop p2)))=wh):=by show (wh && !decide (0<expN (xs.drop p2)))=wh;rw [hx];simp
   clear hE hx
   go_wp2_with fail
   go_meet
   exact ⟨p2,rfl,HF.out,Nat.le_refl _,hp2',by rw [HW.out]⟩
  ·have HX:=hid_mk (exp_yes hE)
   have hlt:p2<xs.length:=by
    by_cases h:p2<xs.length
    ·exact h
    ·rw [hd_end h] at hE;exact absurd hE (by decide)
   clear hE
   have hb1:=rat_any (w:=((w.alloc (.cells #[.int .i64 0,.string ⟨#[]⟩,.string ⟨#[]⟩,.bool false,.bool false] 65)).alloc (.cells #[.int .i64 10,.string (⟨#[]⟩),.string (⟨#[]⟩),.bool wh,.bool false] 65))) (HH.out.1.below (WN_below w _ _)) HH.out.2 (p2+1) ((p2:Int)+1) (by omega)
   have hb2:=rat_any (w:=((w.alloc (.cells #[.int .i64 0,.string ⟨#[]⟩,.string ⟨#[]⟩,.bool false,.bool false] 65)).alloc (.cells #[.int .i64 10,.string (⟨#[]⟩),.string (⟨#[]⟩),.bool wh,.bool false] 65))) (HH.out.1.below (WN_below w _ _)) HH.out.2 (p2+2) ((p2:Int)+1+1) (by omega)
   have HL1:=hid_mk (fun h=>digit_lt (xs:=xs) (p:=p2+1) h)
   have HL2:=hid_mk (fun h=>digit_lt (xs:=xs) (p:=p2+2) h)
   generalize hd xs (p2+1)=c1 at *
   generalize hd xs (p2+2)=c2 at *
   rcases (show c1=43∨c1=45∨(c1≠43∧c1≠45) by omega) with rfl | rfl | ⟨n1,n2⟩
   ·cases hg:digitZ c2
    ·have hx:expN (xs.drop p2)=0:=by rw [HX.out,hg];rfl
     have HF:Hid (xs.drop p2=expR (xs.drop p2)):=by show xs.drop p2=expR (xs.drop p2);unfold expR;rw [hx,if_neg (by omega)]
     have HW:Hid ((wh && !decide (0<expN (xs.drop p2)))=wh):=by show (wh && !decide (0<expN (xs.drop p2)))=wh;rw [hx];simp
     clear hx
     go_wp2_with (go_at_call 81;fail)
     refine (hb1).mono ?_
     rintro e w' ⟨rfl,rfl⟩
     go_wp2_with (go_at_call 81;fail)
     refine (hb2).mono ?_
     rintro e w' ⟨rfl,rfl⟩
     go_wp2_with (go_at_call 122;fail)
     refine (rdigit_any _ _).mono ?_
     rintro e w' ⟨rfl,rfl⟩
     go_wp2_with fail
     go_meet
     exact ⟨p2,rfl,HF.out,Nat.le_refl _,hp2',by rw [HW.out]⟩
    ·have hx:expN (xs.drop p2)=2:=by rw [HX.out,hg];rfl
     have hl2:=HL2.out hg
     have HF:Hid (digitsR (xs.drop (p2+2))=expR (xs.drop p2)):=by show digitsR (xs.drop (p2+2))=expR (xs.drop p2);unfold expR;rw [hx,if_pos (by omega),List.drop_drop]
     have HW:Hid ((wh && !decide (0<expN (xs.drop p2)))=false):=by show (wh && !decide (0<expN (xs.drop p2)))=false;rw [hx];simp
     have hdg:=rdigits_any (w:=((w.alloc (.cells #[.int .i64 0,.string ⟨#[]⟩,.string ⟨#[]⟩,.bool false,.bool false] 65)).alloc (.cells #[.int .i64 10,.string (⟨#[]⟩),.string (⟨#[]⟩),.bool false,.bool false] 65))) (HH.out.1.below (WN_below w _ _)) HH.out.2 (p2+2) ((p2:Int)+1+1) (by omega) (by omega)
     clear hx
     go_wp2_with (go_at_call 81;fail)
     refine (hb1).mono ?_
     rintro e w' ⟨rfl,rfl⟩
     go_wp2_with (go_at_call 81;fail)
     refine (hb2).mono ?_
     rintro e w' ⟨rfl,rfl⟩
     go_wp2_with (go_at_call 122;fail)
     refine (rdigit_any _ _).mono ?_
     rintro e w' ⟨rfl,rfl⟩
     go_wp2_with (go_at_call 123;fail)
     refine (hdg).mono ?_
     rintro e w' ⟨p3,rfl,hd3,hp3,hp3',rfl⟩
     go_wp2_with fail
     go_meet
     exact ⟨p3,rfl,hd3.trans HF.out,by omega,hp3',by rw [HW.out]⟩
   ·cases hg:digitZ c2
    ·have hx:expN (xs.drop p2)=0:=by rw [HX.out,hg];rfl
     have HF:Hid (xs.drop p2=expR (xs.drop p2)):=by show xs.drop p2=expR (xs.drop p2);unfold expR;rw [hx,if_neg (by omega)]
     have HW:Hid ((wh && !decide (0<expN (xs.drop p2)))=wh):=by show (wh && !decide (0<expN (xs.drop p2)))=wh;rw [hx];simp
     clear hx
     go_wp2_with (go_at_call 81;fail)
     refine (hb1).mono ?_
     rintro e w' ⟨rfl,rfl⟩
     go_wp2_with (go_at_call 81;fail)
     refine (hb1).mono ?_
     rintro e w' ⟨rfl,rfl⟩
     go_wp2_with (go_at_call 81;fail)
     refine (hb2).mono ?_
     rintro e w' ⟨rfl,rfl⟩
     go_wp2_with (go_at_call 122;fail)
     refine (rdigit_any _ _).mono ?_
     rintro e w' ⟨rfl,rfl⟩
     go_wp2_with fail
     go_meet
     exact ⟨p2,rfl,HF.out,Nat.le_refl _,hp2',by rw [HW.out]⟩
    ·have hx:expN (xs.drop p2)=2:=by rw [HX.out,hg];rfl
     have hl2:=HL2.out hg
     have HF:Hid (digitsR (xs.drop (p2+2))=expR (xs.drop p2)):=by show digitsR (xs.drop (p2+2))=expR (xs.drop p2);unfold expR;rw [hx,if_pos (by omega),List.drop_drop]
     have HW:Hid ((wh && !decide (0<expN (xs.drop p2)))=false):=by show (wh && !decide (0<expN (xs.drop p2)))=false;rw [hx];simp
     have hdg:=rdigits_any (w:=((w.alloc (.cells #[.int .i64 0,.string ⟨#[]⟩,.string ⟨#[]⟩,.bool false,.bool false] 65)).alloc (.cells #[.int .i64 10,.string (⟨#[]⟩),.string (⟨#[]⟩),.bool false,.bool false] 65))) (HH.out.1.below (WN_below w _ _)) HH.out.2 (p2+2) ((p2:Int)+1+1) (by omega) (by omega)
     clear hx
     go_wp2_with (go_at_call 81;fail)
     refine (hb1).mono ?_
     rintro e w' ⟨rfl,rfl⟩
     go_wp2_with (go_at_call 81;fail)
     refine (hb1).mono ?_
     rintro e w' ⟨rfl,rfl⟩
     go_wp2_with (go_at_call 81;fail)
     refine (hb2).mono ?_
     rintro e w' ⟨rfl,rfl⟩
     go_wp2_with (go_at_call 122;fail)
     refine (rdigit_any _ _).mono ?_
     rintro e w' ⟨rfl,rfl⟩
     go_wp2_with (go_at_call 123;fail)
     refine (hdg).mono ?_
     rintro e w' ⟨p3,rfl,hd3,hp3,hp3',rfl⟩
     go_wp2_with fail
     go_meet
     exact ⟨p3,rfl,hd3.trans HF.out,by omega,hp3',by rw [HW.out]⟩
   ·have m1:(c1 == 43)=false:=by simpa using n1
    have m2:(c1 == 45)=false:=by simpa using n2
    cases hg:digitZ c1
    ·have hx:expN (xs.drop p2)=0:=by rw [HX.out,m1,m2,hg];rfl
     have HF:Hid (xs.drop p2=expR (xs.drop p2)):=by show xs.drop p2=expR (xs.drop p2);unfold expR;rw [hx,if_neg (by omega)]
     have HW:Hid ((wh && !decide (0<expN (xs.drop p2)))=wh):=by show (wh && !decide (0<expN (xs.drop p2)))=wh;rw [hx];simp
     clear hx
     go_wp2_with (go_at_call 81;fail)
     refine (hb1).mono ?_
     rintro e w' ⟨rfl,rfl⟩
     go_wp2_with (go_at_call 81;fail)
     refine (hb1).mono ?_
     rintro e w' ⟨rfl,rfl⟩
     go_wp2_with (go_at_call 81;fail)
     refine (hb1).mono ?_
     rintro e w' ⟨rfl,rfl⟩
     go_wp2_with (go_at_call 122;fail)
     refine (rdigit_any _ _).mono ?_
     rintro e w' ⟨rfl,rfl⟩
     go_wp2_with fail
     go_meet
     exact ⟨p2,rfl,HF.out,Nat.le_refl _,hp2',by rw [HW.out]⟩
    ·have hx:expN (xs.drop p2)=1:=by rw [HX.out,m1,m2,hg];rfl
     have hl2:=HL1.out hg
     have HF:Hid (digitsR (xs.drop (p2+1))=expR (xs.drop p2)):=by show digitsR (xs.drop (p2+1))=expR (xs.drop p2);unfold expR;rw [hx,if_pos (by omega),List.drop_drop]
     have HW:Hid ((wh && !decide (0<expN (xs.drop p2)))=false):=by show (wh && !decide (0<expN (xs.drop p2)))=false;rw [hx];simp
     have hdg:=rdigits_any (w:=((w.alloc (.cells #[.int .i64 0,.string ⟨#[]⟩,.string ⟨#[]⟩,.bool false,.bool false] 65)).alloc (.cells #[.int .i64 10,.string (⟨#[]⟩),.string (⟨#[]⟩),.bool false,.bool false] 65))) (HH.out.1.below (WN_below w _ _)) HH.out.2 (p2+1) ((p2:Int)+1) (by omega) (by omega)
     clear hx
     go_wp2_with (go_at_call 81;fail)
     refine (hb1).mono ?_
     rintro e w' ⟨rfl,rfl⟩
     go_wp2_with (go_at_call 81;fail)
     refine (hb1).mono ?_
     rintro e w' ⟨rfl,rfl⟩
     go_wp2_with (go_at_call 81;fail)
     refine (hb1).mono ?_
     rintro e w' ⟨rfl,rfl⟩
     go_wp2_with (go_at_call 122;fail)
     refine (rdigit_any _ _).mono ?_
     rintro e w' ⟨rfl,rfl⟩
     go_wp2_with (go_at_call 123;fail)
     refine (hdg).mono ?_
     rintro e w' ⟨p3,rfl,hd3,hp3,hp3',rfl⟩
     go_wp2_with fail
     go_meet
     exact ⟨p3,rfl,hd3.trans HF.out,by omega,hp3',by rw [HW.out]⟩
 case rest =>
 obtain ⟨p3,rfl,hd3,hp3,hp3',rfl⟩:=hcut
 have HD3:Hid (xs.drop p3=numR (xs.drop i)):=by
  show xs.drop p3=numR (xs.drop i)
  unfold numR
  rw [hd3,HD2.out,HD1.out]
 have HWW:Hid ((wh && !decide (0<expN (xs.drop p2)))=numW (xs.drop i)):=by
  show (wh && !decide (0<expN (xs.drop p2)))=numW (xs.drop i)
  unfold numW
  rw [← HWH.out,HD2.out,HD1.out]
 clear hd3
 generalize (wh && !decide (0<expN (xs.drop p2)))=wf at *
 have HG:Hid (gone (xs.drop i) (numR (xs.drop i))=(xs.drop i).take (p3 - i)):=by
  show gone (xs.drop i) (numR (xs.drop i))=(xs.drop i).take (p3 - i)
  rw [← HD3.out]
  exact gone_at (by omega) hp3'
 have hcv:=conv_runes (row_part (w:=((w.alloc (.cells #[.int .i64 0,.string ⟨#[]⟩,.string ⟨#[]⟩,.bool false,.bool false] 65)).alloc (.cells #[.int .i64 10,.string (⟨#[]⟩),.string (⟨#[]⟩),.bool wf,.bool false] 65))) (HH.out.1.below (WN_below w _ _)) (show i≤p3 by omega) hp3') (fun c hc=>HH.out.2.2 c (List.mem_of_mem_drop (List.mem_of_mem_take hc)))
 have hci:¬ cap=i:=by omega
 have hi3:i≤p3:=by omega
 have hnb:=rnames_any (w:=((w.alloc (.cells #[.int .i64 0,.string ⟨#[]⟩,.string ⟨#[]⟩,.bool false,.bool false] 65)).alloc (.cells #[.int .i64 10,.string (strT ((xs.drop i).take (p3 - i))),.string (⟨#[]⟩),.bool wf,.bool false] 65))) (HH.out.1.below (WN_below w _ _)) HH.out.2 p3 p3 rfl (by omega)
 have hat:=rat_any (w:=((w.alloc (.cells #[.int .i64 0,.string ⟨#[]⟩,.string ⟨#[]⟩,.bool false,.bool false] 65)).alloc (.cells #[.int .i64 10,.string (strT ((xs.drop i).take (p3 - i))),.string (⟨#[]⟩),.bool wf,.bool false] 65))) (HH.out.1.below (WN_below w _ _)) HH.out.2 p3 p3 rfl
 have hnm:=rname_any (w:=((w.alloc (.cells #[.int .i64 0,.string ⟨#[]⟩,.string ⟨#[]⟩,.bool false,.bool false] 65)).alloc (.cells #[.int .i64 12,.string (strT ((xs.drop i).take (p3 - i))),.string (⟨#[]⟩),.bool wf,.bool false] 65))) (HH.out.1.below (WN_below w _ _)) HH.out.2 p3 p3 rfl hp3'
 have HNZ:Hid (numZ (xs.drop i)=if nameB (xs.drop p3) then (mkTok 12 ((xs.drop i).take (p3 - i)) (nameT (xs.drop p3) 0) wf false,nameR (xs.drop p3) 0) else if hd xs p3=37 then (mkTok 11 ((xs.drop i).take (p3 - i)) [] wf false,xs.drop (p3+1)) else (mkTok 10 ((xs.drop i).take (p3 - i)) [] wf false,xs.drop p3)):=by
  show numZ (xs.drop i)=_
  unfold numZ
  rw [HG.out,← HWW.out,← HD3.out,hd_drop,Nat.add_zero,List.drop_drop]
 clear HG HWW HD3
 generalize (xs.drop i).take (p3 - i)=tx at *
 generalize hst:strT tx=sx at *
 have HSX:=hid_mk hst
 clear hst
 cases hN:nameB (xs.drop p3)
 ·rw [hN] at hnb
  have hZ:=HNZ.out
  rw [hN] at hZ
  simp only [Bool.false_eq_true,if_false] at hZ
  by_cases h37:hd xs p3=37
  ·rw [if_pos h37] at hZ
   have HV:=hid_mk hZ
   rw [h37] at hat
   have hlt:p3<xs.length:=by
    by_cases h:p3<xs.length
    ·exact h
    ·rw [hd_end h] at h37;exact absurd h37 (by decide)
   clear hZ HNZ hN h37 hnm
   go_wp2_with (go_at_call 87;fail)
   refine (hnb).mono ?_
   rintro e w' ⟨rfl,rfl⟩
   go_wp2_with (go_at_call 81;fail)
   refine (hat).mono ?_
   rintro e w' ⟨rfl,rfl⟩
   go_wp2
   refine bodyPost_ret (v:=.tuple #[.agg #[.int .i64 11,.string sx,.string ⟨#[]⟩,.bool wf,.bool false],.int .i64 ((p3+1:Nat):Int)]) (by simp [results,Tryz.results90,go_sem]) rfl ⟨p3+1,by rw [HV.out,← HSX.out];rfl,by rw [HV.out],by omega,by omega,?_⟩
   exact WN_below w _ _
  ·rw [if_neg h37] at hZ
   have HV:=hid_mk hZ
   have m37:(hd xs p3 == 37)=false:=by simpa using h37
   clear hZ HNZ hN h37 hnm
   generalize hd xs p3=c at *
   go_wp2_with (go_at_call 87;fail)
   refine (hnb).mono ?_
   rintro e w' ⟨rfl,rfl⟩
   go_wp2_with (go_at_call 81;fail)
   refine (hat).mono ?_
   rintro e w' ⟨rfl,rfl⟩
   go_wp2
   refine bodyPost_ret (v:=.tuple #[.agg #[.int .i64 10,.string sx,.string ⟨#[]⟩,.bool wf,.bool false],.int .i64 ((p3:Nat):Int)]) (by simp [results,Tryz.results90,go_sem]) rfl ⟨p3,by rw [HV.out,← HSX.out];rfl,by rw [HV.out],by omega,by omega,?_⟩
   exact WN_below w _ _
 ·rw [hN] at hnb
  have hZ:=HNZ.out
  rw [hN,if_pos rfl] at hZ
  have HV:=hid_mk hZ
  clear hZ HNZ hN hat
  go_wp2_with (go_at_call 87;fail)
  refine (hnb).mono ?_
  rintro e w' ⟨rfl,rfl⟩
  go_wp2_with (go_at_call 88;fail)
  refine (hnm).mono ?_
  rintro e w6 ⟨p4,rfl,hd4,hp4,hp4',b6⟩
  have hB6:Below w.heap.size w w6:=(WN_below w _ _).trans (b6.mono (by simp;omega))
  have hblk0:w6.heap[w.heap.size]? = some (.cells #[.int .i64 0,.string ⟨#[]⟩,.string ⟨#[]⟩,.bool false,.bool false] 65 (0,0)):=(b6.block _ (by simp;omega)).trans ((heap_alloc_old _ _ (by simp)).trans (heap_alloc_new w _))
  have hblk1:w6.heap[w.heap.size+1]? = some (.cells #[.int .i64 12,.string sx,.string ⟨#[]⟩,.bool wf,.bool false] 65 (0,0)):=by
   have h:=heap_alloc_new (w.alloc (.cells #[.int .i64 0,.string ⟨#[]⟩,.string ⟨#[]⟩,.bool false,.bool false] 65)) (.cells #[.int .i64 12,.string sx,.string ⟨#[]⟩,.bool wf,.bool false] 65)
   have e:(w.alloc (.cells #[.int .i64 0,.string ⟨#[]⟩,.string ⟨#[]⟩,.bool false,.bool false] 65)).heap.size=w.heap.size+1:=by simp
   rw [e] at h
   exact (b6.block _ (by simp)).trans h
  obtain ⟨k0,k1,k2,k3,k4,f0,f1,f2,f3,f4⟩:=zero_cells hblk0
  obtain ⟨t0,t1,t2,t3,t4,tf⟩:=five_cells hblk1
  have HD4:=hid_mk hd4
  clear hd4
  generalize hun:strT (nameT (xs.drop p3) 0)=un at *
  have HUN:=hid_mk hun
  clear hun
  go_wp2
  refine bodyPost_ret (v:=.tuple #[.agg #[.int .i64 12,.string sx,.string un,.bool wf,.bool false],.int .i64 ((p4:Nat):Int)]) (by simp [results,Tryz.results90,go_sem,k0,k1,k2,k3,k4]) rfl ⟨p4,by rw [HV.out,← HSX.out,← HUN.out];rfl,by rw [HV.out,HD4.out],by omega,by omega,?_⟩
  exact (((((hB6.setCell (by simp) _).setCell (Nat.le_refl _) _).setCell (Nat.le_refl _) _).setCell (Nat.le_refl _) _).setCell (Nat.le_refl _) _).setCell (Nat.le_refl _) _
theorem hashB_at {xs:List Int} {i:Nat}:hashB (xs.drop i)=(hd xs i == 35 && (partZ (hd xs (i+1)) || escB (xs.drop (i+1)))):=by
 unfold hashB
 rw [hd_drop,hd_drop,List.drop_drop,Nat.add_zero]
theorem atB_at {xs:List Int} {i:Nat}:atB (xs.drop i)=(hd xs i == 64 && nameB (xs.drop (i+1))):=by
 unfold atB
 rw [hd_drop,List.drop_drop,Nat.add_zero]
theorem quoteB_at {xs:List Int} {i:Nat}:quoteB (xs.drop i)=(hd xs i == 34 || hd xs i == 39):=by
 unfold quoteB
 rw [hd_drop,Nat.add_zero]
theorem oneZ_at {xs:List Int} {i:Nat} (hc:standsB [47,42] (xs.drop i)=false):oneZ (xs.drop i) =
  if blankZ (hd xs i) then (some (plainTok 13 []),blanksR (xs.drop i))
  else if (hd xs i == 34 || hd xs i == 39) then someT (strZ (xs.drop i))
  else if (hd xs i == 35 && (partZ (hd xs (i+1)) || escB (xs.drop (i+1)))) then someT (hashZ (xs.drop (i+1)))
  else if numB (xs.drop i) then someT (numZ (xs.drop i))
  else if standsB [45,45,62] (xs.drop i) then (some (plainTok 15 []),xs.drop (i+3))
  else if standsB [60,33,45,45] (xs.drop i) then (some (plainTok 14 []),xs.drop (i+4))
  else if nameB (xs.drop i) then someT (wordZ (xs.drop i))
  else if (hd xs i == 64 && nameB (xs.drop (i+1))) then (some (plainTok 3 (nameT (xs.drop (i+1)) 0)),nameR (xs.drop (i+1)) 0)
  else (some (singleZ (hd xs i)),xs.drop (i+1)):=by
 unfold oneZ
 rw [hc,quoteB_at,hashB_at,atB_at]
 simp only [hd_drop,List.drop_drop,Nat.add_zero,Bool.false_eq_true,if_false]
theorem stands_lt {zs xs:List Int} {i:Nat} (h:standsB zs (xs.drop i)=true) (hz:∀ z∈zs,z≠-1):i+zs.length≤xs.length∨zs=[]:=by
 induction zs generalizing i with
 | nil=>right;rfl
 | cons z r ih =>
   left
   rw [standsB,Bool.and_eq_true,hd_drop,Nat.add_zero,List.drop_drop] at h
   have h1:hd xs i=z:=by simpa using h.1
   have hlt:i<xs.length:=by
    by_cases hp:i<xs.length
    ·exact hp
    ·rw [hd_end hp] at h1
     exact absurd h1.symm (hz z (by simp))
   rcases ih h.2 (fun y hy=>hz y (by simp [hy])) with h2 | h2
   ·simp only [List.length_cons];omega
   ·rw [h2];simp;omega
theorem five_cells1 {w:World} {n:Nat} {x0 x1 x2 x3 x4:Value} (h:w.heap[n]? = some (.cells #[x0,x1,x2,x3,x4] 65 (0,0))) :
  w.cell? ⟨n,0,none⟩=some x0∧w.cell? ⟨n,1,none⟩=some x1∧w.cell? ⟨n,2,none⟩=some x2∧w.cell? ⟨n,3,none⟩=some x3∧w.cell? ⟨n,4,none⟩=some x4∧w.frozen? ⟨n,1,none⟩=false:=by
 refine ⟨?_,?_,?_,?_,?_,?_⟩
 all_goals first | (simp only [World.cell?,h];rfl) | (simp only [World.frozen?,h];rfl)
theorem oneZ_less {xs:List Int} {i:Nat} (hi:i<xs.length):(oneZ (xs.drop i)).2.length<(xs.drop i).length:=by
 rw [drop_hd hi]
 have:=(one_less (hd xs i) (xs.drop (i+1))).length_le
 simp only [List.length_cons]
 omega
theorem pos_less {xs rr:List Int} {i p:Nat} {o:Option Tok} (h:(oneZ (xs.drop i)).2.length<(xs.drop i).length) (hz:oneZ (xs.drop i)=(o,rr)) (hd:xs.drop p=rr) (hp:p≤xs.length):i<p:=by
 rw [hz,← hd] at h
 simp only [List.length_drop] at h
 omega
theorem conv_one (w:World) (c:Int) (hc:IsChar c):(convert 47 9 (.slice (some ⟨w.heap.size,0,none⟩) 1 1)).run Tryz.prog (w.alloc (.cells #[.int .i32 c] 21))=.ok (.string (strT [c])) (w.alloc (.cells #[.int .i32 c] 21)):=by
 refine conv_runes (xs:=[c]) ⟨_,_,rfl,Nat.le_refl _,fun _=>⟨w.heap.size,0,rfl,fun j hj=>?_⟩⟩ (by simpa using hc)
 have:j=0:=by simp at hj;omega
 subst this
 simp
theorem rone_any {w:World} {v:Value} {xs:List Int} (hv:RowAt .i32 w v xs) (fx:Fine xs) (i:Nat) (j:Int) (hj:j=i) (hi:i<xs.length) (hcm:standsB [47,42] (xs.drop i)=false) :
  Calls Tryz.prog 42 #[v,.int .i64 j] w fun e w'=>∃ (p:Nat) (tk:Tok) (rr:List Int),oneZ (xs.drop i)=(some tk,rr)∧e=.returned (.tuple #[tokV tk,.int .i64 p])∧xs.drop p=rr∧i<p∧p≤xs.length∧Below w.heap.size w w':=by
 subst hj
 have hl:=fx.1
 have hZ:=oneZ_at hcm
 have hB0:Below w.heap.size w (w.alloc (.cells #[.int .i64 0,.string ⟨#[]⟩,.string ⟨#[]⟩,.bool false,.bool false] 65)):=(Below.refl _ _).alloc (Nat.le_refl _) _
 have hrow0:=hv.below hB0
 have HH:Hid (RowAt .i32 w v xs∧Fine xs):=And.intro hv fx
 obtain ⟨b,off,cap,rfl,hcap,c0⟩:=row_cell hrow0 i hi
 have HCH:=hid_mk (fx.2 (hd xs i) (by have:=drop_hd hi;exact List.mem_of_mem_drop (i:=i) (by rw [this];simp)))
 have hbk:=refBlank_any (hd xs i) (w.alloc (.cells #[.int .i64 0,.string ⟨#[]⟩,.string ⟨#[]⟩,.bool false,.bool false] 65))
 have HL:=hid_mk (oneZ_less hi)
 clear hv fx hcm
 go_enter Tryz.func42,Tryz.ntmps42
 cases hz:blankZ (hd xs i)
 ·rw [hz] at hbk hZ
  simp only [Bool.false_eq_true,if_false] at hZ
  have HH1:=hid_mk hrow0
  by_cases hq:hd xs i=34∨hd xs i=39
  ·have hqt:(hd xs i == 34 || hd xs i == 39)=true:=by simpa using hq
   rw [hqt,if_pos rfl] at hZ
   have HZ:=hid_mk hZ
   have hqq:=rquoted_any hrow0 HH.out.2 i i rfl hi hq
   clear hZ hqt
   rcases hq with h34 | h39
   ·rw [h34] at hbk c0
    clear h34 hz
    go_wp2_with (go_at_call 82;fail)
    refine (hbk).mono ?_
    rintro e w' ⟨rfl,rfl⟩
    go_wp2_with (go_at_call 84;fail)
    refine (hqq).mono ?_
    rintro e w6 ⟨p6,rfl,hd6,hp6,hp7,b6⟩
    have hB6:Below w.heap.size w w6:=hB0.trans (b6.mono (by first | (simp;done) | (have:=hB0.size;simp;omega) | (have:=hB0.size;omega)))
    have hblk6:w6.heap[w.heap.size]? = some (.cells #[.int .i64 0,.string ⟨#[]⟩,.string ⟨#[]⟩,.bool false,.bool false] 65 (0,0)):=(b6.block _ (by simp)).trans (heap_alloc_new w _)
    obtain ⟨k0,k1,k2,k3,k4,f0,f1,f2,f3,f4⟩:=zero_cells hblk6
    obtain ⟨tk,rr,hzz⟩:∃ tk rr,strZ (xs.drop i)=(tk,rr):=⟨_,_,rfl⟩
    rw [hzz] at hd6
    have HV:Hid (oneZ (xs.drop i)=(some tk,rr)):=by
     show oneZ (xs.drop i)=(some tk,rr)
     rw [HZ.out,hzz]
     rfl
    have hlt6:i<p6:=pos_less HL.out HV.out hd6 hp7
    have HD6:=hid_mk hd6
    clear hd6
    rw [hzz]
    have HT:Hid (tokV tk=.agg #[.int .i64 tk.kind,.string (strT tk.text),.string (strT tk.unit),.bool tk.whole,.bool tk.flag]):=rfl
    simp only [tokV]
    generalize tk.kind=y1 at *
    generalize strT tk.text=y2 at *
    generalize strT tk.unit=y3 at *
    generalize tk.whole=y4 at *
    generalize tk.flag=y5 at *
    clear hzz HZ
    go_wp2
    refine bodyPost_ret (v:=.tuple #[.agg #[.int .i64 y1,.string y2,.string y3,.bool y4,.bool y5],.int .i64 (p6:Int)]) (by simp [results,Tryz.results42,go_sem,k0,k1,k2,k3,k4]) rfl ⟨p6,tk,rr,HV.out,by rw [HT.out],HD6.out,hlt6,hp7,?_⟩
    exact (((((hB6.setCell (Nat.le_refl _) _).setCell (Nat.le_refl _) _).setCell (Nat.le_refl _) _).setCell (Nat.le_refl _) _).setCell (Nat.le_refl _) _)
   ·rw [h39] at hbk c0
    clear h39 hz
    go_wp2_with (go_at_call 82;fail)
    refine (hbk).mono ?_
    rintro e w' ⟨rfl,rfl⟩
    go_wp2_with (go_at_call 84;fail)
    refine (hqq).mono ?_
    rintro e w6 ⟨p6,rfl,hd6,hp6,hp7,b6⟩
    have hB6:Below w.heap.size w w6:=hB0.trans (b6.mono (by first | (simp;done) | (have:=hB0.size;simp;omega) | (have:=hB0.size;omega)))
    have hblk6:w6.heap[w.heap.size]? = some (.cells #[.int .i64 0,.string ⟨#[]⟩,.string ⟨#[]⟩,.bool false,.bool false] 65 (0,0)):=(b6.block _ (by simp)).trans (heap_alloc_new w _)
    obtain ⟨k0,k1,k2,k3,k4,f0,f1,f2,f3,f4⟩:=zero_cells hblk6
    obtain ⟨tk,rr,hzz⟩:∃ tk rr,strZ (xs.drop i)=(tk,rr):=⟨_,_,rfl⟩
    rw [hzz] at hd6
    have HV:Hid (oneZ (xs.drop i)=(some tk,rr)):=by
     show oneZ (xs.drop i)=(some tk,rr)
     rw [HZ.out,hzz]
     rfl
    have hlt6:i<p6:=pos_less HL.out HV.out hd6 hp7
    have HD6:=hid_mk hd6
    clear hd6
    rw [hzz]
    have HT:Hid (tokV tk=.agg #[.int .i64 tk.kind,.string (strT tk.text),.string (strT tk.unit),.bool tk.whole,.bool tk.flag]):=rfl
    simp only [tokV]
    generalize tk.kind=y1 at *
    generalize strT tk.text=y2 at *
    generalize strT tk.unit=y3 at *
    generalize tk.whole=y4 at *
    generalize tk.flag=y5 at *
    clear hzz HZ
    go_wp2
    refine bodyPost_ret (v:=.tuple #[.agg #[.int .i64 y1,.string y2,.string y3,.bool y4,.bool y5],.int .i64 (p6:Int)]) (by simp [results,Tryz.results42,go_sem,k0,k1,k2,k3,k4]) rfl ⟨p6,tk,rr,HV.out,by rw [HT.out],HD6.out,hlt6,hp7,?_⟩
    exact (((((hB6.setCell (Nat.le_refl _) _).setCell (Nat.le_refl _) _).setCell (Nat.le_refl _) _).setCell (Nat.le_refl _) _).setCell (Nat.le_refl _) _)
  ·have n34:hd xs i≠34:=fun e=>hq (.inl e)
   have n39:hd xs i≠39:=fun e=>hq (.inr e)
   have m34:(hd xs i == 34)=false:=by simpa using n34
   have m39:(hd xs i == 39)=false:=by simpa using n39
   rw [m34,m39] at hZ
   simp only [Bool.or_self,Bool.false_eq_true,if_false] at hZ
   clear hq n34 n39
   have ha1:=rat_any hrow0 HH.out.2 (i+1) ((i:Int)+1) (by omega)
   have hpt:=rpart_any (hd xs (i+1)) (w.alloc (.cells #[.int .i64 0,.string ⟨#[]⟩,.string ⟨#[]⟩,.bool false,.bool false] 65))
   have hes:=resc_any hrow0 HH.out.2 (i+1) ((i:Int)+1) (by omega) (by omega)
   cases hh:(hd xs i == 35 && (partZ (hd xs (i+1)) || escB (xs.drop (i+1))))
   ·rw [hh] at hZ
    simp only [Bool.false_eq_true,if_false] at hZ
    have hnu:=rnumbers_any hrow0 HH.out.2 i i rfl (by omega)
    have hst1:=rstarts_any (w:=(w.alloc (.cells #[.int .i64 0,.string ⟨#[]⟩,.string ⟨#[]⟩,.bool false,.bool false] 65))) ⟨#[45,45,62]⟩ [45,45,62] (by kernel_rfl) (by decide) hrow0 HH.out.2 i i rfl (by omega)
    by_cases h35:hd xs i=35
    ·have e1:numB (xs.drop i)=false:=by rw [numB_eq,hd_drop,hd_drop,hd_drop,Nat.add_zero,h35];rfl
     have e2:standsB [45,45,62] (xs.drop i)=false:=by rw [standsB,hd_drop,Nat.add_zero,h35];rfl
     have e3:standsB [60,33,45,45] (xs.drop i)=false:=by rw [standsB,hd_drop,Nat.add_zero,h35];rfl
     have e4:nameB (xs.drop i)=false:=by unfold nameB wordB escB;rw [hd_drop,hd_drop,Nat.add_zero,h35];rfl
     have hpe:(partZ (hd xs (i+1)) || escB (xs.drop (i+1)))=false:=by rw [h35] at hh;exact hh
     rw [Bool.or_eq_false_iff] at hpe
     rw [hpe.1] at hpt
     rw [hpe.2] at hes
     rw [e1] at hnu
     rw [e2] at hst1
     rw [e1,e2,e3,e4,h35] at hZ
     have HV:Hid (oneZ (xs.drop i)=(some (plainTok 9 [35]),xs.drop (i+1))):=hZ
     have HCC:Hid (IsChar 35):=by have:=HCH.out;rw [h35] at this;exact this
     have HE3:=hid_mk e3
     have HE4:=hid_mk e4
     rw [h35] at hbk c0 m34 m39
     clear hZ hh h35 e1 e2 e3 e4 hpe hz
     generalize hd xs (i+1)=c1 at *
     go_wp2_with (go_at_call 82;fail)
     refine (hbk).mono ?_
     rintro e w' ⟨rfl,rfl⟩
     go_wp2_with (go_at_call 81;fail)
     refine (ha1).mono ?_
     rintro e w' ⟨rfl,rfl⟩
     go_wp2_with (go_at_call 85;fail)
     refine (hpt).mono ?_
     rintro e w' ⟨rfl,rfl⟩
     go_wp2_with (go_at_call 86;fail)
     refine (hes).mono ?_
     rintro e w' ⟨rfl,rfl⟩
     go_wp2_with (go_at_call 89;fail)
     refine (hnu).mono ?_
     rintro e w' ⟨rfl,rfl⟩
     go_wp2_with (go_at_call 40;fail)
     refine (hst1).mono ?_
     rintro e w1 ⟨rfl,b1⟩
     have hB1:Below w.heap.size w w1:=hB0.trans (b1.mono (by simp))
     have hblk1:w1.heap[w.heap.size]? = some (.cells #[.int .i64 0,.string ⟨#[]⟩,.string ⟨#[]⟩,.bool false,.bool false] 65 (0,0)):=(b1.block _ (by simp)).trans (heap_alloc_new w _)
     have hsz1:w.heap.size<w1.heap.size:=(Array.getElem?_eq_some_iff.1 hblk1).1
     have hst2:=rstarts_any (w:=w1) ⟨#[60,33,45,45]⟩ [60,33,45,45] (by kernel_rfl) (by decide) (HH.out.1.below hB1) HH.out.2 i i rfl (by omega)
     rw [HE3.out] at hst2
     go_wp2_with (go_at_call 40;fail)
     refine (hst2).mono ?_
     rintro e w2 ⟨rfl,b2⟩
     have hB2:Below w.heap.size w w2:=hB1.trans (b2.mono hB1.size)
     have hblk2:w2.heap[w.heap.size]? = some (.cells #[.int .i64 0,.string ⟨#[]⟩,.string ⟨#[]⟩,.bool false,.bool false] 65 (0,0)):=(b2.block _ hsz1).trans hblk1
     have hsz2:w.heap.size<w2.heap.size:=(Array.getElem?_eq_some_iff.1 hblk2).1
     have hnb:=rnames_any (w:=w2) (HH.out.1.below hB2) HH.out.2 i i rfl (by omega)
     rw [HE4.out] at hnb
     have hsg:=rsign_any 35 w2
     have hs0:signZ 35=0:=rfl
     rw [hs0] at hsg
     go_wp2_with (go_at_call 87;fail)
     refine (hnb).mono ?_
     rintro e w' ⟨rfl,rfl⟩
     have hcv:=conv_one w2 35 HCC.out
     obtain ⟨k0,k1,k2,k3,k4,f0,f1,f2,f3,f4⟩:=zero_cells hblk2
     go_wp2_with (go_at_call 92;fail)
     refine (hsg).mono ?_
     rintro e w' ⟨rfl,rfl⟩
     go_wp2
     refine bodyPost_ret (v:=.tuple #[.agg #[.int .i64 9,.string (strT [35]),.string ⟨#[]⟩,.bool false,.bool false],.int .i64 ((i+1:Nat):Int)]) (by simp [results,Tryz.results42,go_sem,k0,k1,k2,k3,k4,hsz2]) rfl ⟨i+1,plainTok 9 [35],_,HV.out,rfl,rfl,by omega,by omega,?_⟩
     exact (((((hB2.setCell (Nat.le_refl _) _).setCell (Nat.le_refl _) _).setCell (Nat.le_refl _) _).setCell (Nat.le_refl _) _).setCell (Nat.le_refl _) _).alloc (by have:=hB2.size;simp;try omega) _
    ·have m35:(hd xs i == 35)=false:=by simpa using h35
     clear hh ha1 hpt hes
     cases hn:numB (xs.drop i)
     ·rw [hn] at hnu hZ
      simp only [Bool.false_eq_true,if_false] at hZ
      go_wp2_with (go_at_call 82;fail)
      refine (hbk).mono ?_
      rintro e w' ⟨rfl,rfl⟩
      go_wp2_with (go_at_call 89;fail)
      refine (hnu).mono ?_
      rintro e w' ⟨rfl,rfl⟩
      cases h1:standsB [45,45,62] (xs.drop i)
      ·rw [h1] at hst1 hZ
       simp only [Bool.false_eq_true,if_false] at hZ
       go_wp2_with (go_at_call 40;fail)
       refine (hst1).mono ?_
       rintro e w1 ⟨rfl,b1⟩
       have hB1:Below w.heap.size w w1:=hB0.trans (b1.mono (by simp))
       have hblk1:w1.heap[w.heap.size]? = some (.cells #[.int .i64 0,.string ⟨#[]⟩,.string ⟨#[]⟩,.bool false,.bool false] 65 (0,0)):=(b1.block _ (by simp)).trans (heap_alloc_new w _)
       have hsz1:w.heap.size<w1.heap.size:=(Array.getElem?_eq_some_iff.1 hblk1).1
       have hst2:=rstarts_any (w:=w1) ⟨#[60,33,45,45]⟩ [60,33,45,45] (by kernel_rfl) (by decide) (HH.out.1.below hB1) HH.out.2 i i rfl (by omega)
       cases h2:standsB [60,33,45,45] (xs.drop i)
       ·rw [h2] at hst2 hZ
        simp only [Bool.false_eq_true,if_false] at hZ
        go_wp2_with (go_at_call 40;fail)
        refine (hst2).mono ?_
        rintro e w2 ⟨rfl,b2⟩
        have hB2:Below w.heap.size w w2:=hB1.trans (b2.mono hB1.size)
        have hblk2:w2.heap[w.heap.size]? = some (.cells #[.int .i64 0,.string ⟨#[]⟩,.string ⟨#[]⟩,.bool false,.bool false] 65 (0,0)):=(b2.block _ hsz1).trans hblk1
        have hsz2:w.heap.size<w2.heap.size:=(Array.getElem?_eq_some_iff.1 hblk2).1
        have hnb:=rnames_any (w:=w2) (HH.out.1.below hB2) HH.out.2 i i rfl (by omega)
        have hrow2:=HH.out.1.below hB2
        clear c0 hrow0 HH1 hnu hst1 hst2
        cases h3:nameB (xs.drop i)
        ·rw [h3] at hnb hZ
         simp only [Bool.false_eq_true,if_false] at hZ
         have hnb1:=rnames_any (w:=w2) hrow2 HH.out.2 (i+1) ((i:Int)+1) (by omega) (by omega)
         clear h1 h2 h3 hn h35 hz
         by_cases h64:hd xs i=64
         ·have HCC:Hid (IsChar 64):=by have:=HCH.out;rw [h64] at this;exact this
          rw [h64] at hZ hbk m34 m39 m35
          rw [h64]
          cases h4:nameB (xs.drop (i+1))
          ·rw [h4] at hnb1 hZ
           have HV:Hid (oneZ (xs.drop i)=(some (plainTok 9 [64]),xs.drop (i+1))):=hZ
           have hsg:=rsign_any 64 w2
           have hs0:signZ 64=0:=rfl
           rw [hs0] at hsg
           clear hZ h4 h64
           go_wp2_with (go_at_call 87;fail)
           refine (hnb).mono ?_
           rintro e w' ⟨rfl,rfl⟩
           go_wp2_with (go_at_call 87;fail)
           refine (hnb1).mono ?_
           rintro e w' ⟨rfl,rfl⟩
           have hcv:=conv_one w2 64 HCC.out
           obtain ⟨k0,k1,k2,k3,k4,f0,f1,f2,f3,f4⟩:=zero_cells hblk2
           go_wp2_with (go_at_call 92;fail)
           refine (hsg).mono ?_
           rintro e w' ⟨rfl,rfl⟩
           go_wp2
           refine bodyPost_ret (v:=.tuple #[.agg #[.int .i64 9,.string (strT [64]),.string ⟨#[]⟩,.bool false,.bool false],.int .i64 ((i+1:Nat):Int)]) (by simp [results,Tryz.results42,go_sem,k0,k1,k2,k3,k4,hsz2]) rfl ⟨i+1,plainTok 9 [64],_,HV.out,rfl,rfl,by omega,by omega,?_⟩
           exact (((((hB2.setCell (Nat.le_refl _) _).setCell (Nat.le_refl _) _).setCell (Nat.le_refl _) _).setCell (Nat.le_refl _) _).setCell (Nat.le_refl _) _).alloc (by have:=hB2.size;simp;try omega) _
          ·rw [h4] at hnb1 hZ
           have HV:Hid (oneZ (xs.drop i)=(some (plainTok 3 (nameT (xs.drop (i+1)) 0)),nameR (xs.drop (i+1)) 0)):=hZ
           have hnm:=rname_any (w:=w2.alloc (.cells #[.int .i64 3,.string ⟨#[]⟩,.string ⟨#[]⟩,.bool false,.bool false] 65)) (HH.out.1.below (hB2.alloc hB2.size _)) HH.out.2 (i+1) ((i:Int)+1) (by omega) (by omega)
           clear hZ h4 h64
           go_wp2_with (go_at_call 87;fail)
           refine (hnb).mono ?_
           rintro e w' ⟨rfl,rfl⟩
           go_wp2_with (go_at_call 87;fail)
           refine (hnb1).mono ?_
           rintro e w' ⟨rfl,rfl⟩
           go_wp2_with (go_at_call 88;fail)
           refine (hnm).mono ?_
           rintro e w6 ⟨p6,rfl,hd6,hp6,hp7,b6⟩
           have hB6:Below w.heap.size w w6:=(hB2.alloc hB2.size _).trans (b6.mono (by have:=hB2.size;simp;omega))
           have hblk0:w6.heap[w.heap.size]? = some (.cells #[.int .i64 0,.string ⟨#[]⟩,.string ⟨#[]⟩,.bool false,.bool false] 65 (0,0)):=(b6.block _ (by simp;omega)).trans ((heap_alloc_old _ _ hsz2).trans (hblk2))
           have hblk1:w6.heap[(w2).heap.size]? = some (.cells #[.int .i64 3,.string ⟨#[]⟩,.string ⟨#[]⟩,.bool false,.bool false] 65 (0,0)):=(b6.block _ (by simp)).trans (heap_alloc_new _ _)
           obtain ⟨k0,k1,k2,k3,k4,f0,f1,f2,f3,f4⟩:=zero_cells hblk0
           obtain ⟨t0,t1,t2,t3,t4,tf⟩:=five_cells1 hblk1
           have hlt6:i<p6:=by omega
           have HD6:=hid_mk hd6
           clear hd6
           generalize hun:strT (nameT (xs.drop (i+1)) 0)=un at *
           have HUN:=hid_mk hun
           clear hun
           go_wp2
           refine bodyPost_ret (v:=.tuple #[.agg #[.int .i64 3,.string un,.string ⟨#[]⟩,.bool false,.bool false],.int .i64 (p6:Int)]) (by simp [results,Tryz.results42,go_sem,k0,k1,k2,k3,k4]) rfl ⟨p6,plainTok 3 (nameT (xs.drop (i+1)) 0),_,HV.out,by rw [← HUN.out];rfl,HD6.out,hlt6,hp7,?_⟩
           exact (((((hB6.setCell (by have:=hB2.size;first | (simp;done) | (simp;omega) | omega) _).setCell (Nat.le_refl _) _).setCell (Nat.le_refl _) _).setCell (Nat.le_refl _) _).setCell (Nat.le_refl _) _).setCell (Nat.le_refl _) _
         ·have m64:(hd xs i == 64)=false:=by simpa using h64
          rw [m64] at hZ
          simp only [Bool.false_and,Bool.false_eq_true,if_false] at hZ
          have hsg:=rsign_any (hd xs i) w2
          have HCC:=HCH
          clear h64 hnb1
          generalize hd xs i=c at *
          by_cases hs:0<signZ c
          ·have HV:Hid (oneZ (xs.drop i)=(some (plainTok (signZ c) []),xs.drop (i+1))):=by
            show oneZ (xs.drop i)=_
            rw [hZ]
            unfold singleZ
            rw [if_pos hs]
           clear hZ
           generalize signZ c=sg at *
           obtain ⟨k0,k1,k2,k3,k4,f0,f1,f2,f3,f4⟩:=zero_cells hblk2
           go_wp2_with (go_at_call 87;fail)
           refine (hnb).mono ?_
           rintro e w' ⟨rfl,rfl⟩
           go_wp2_with (go_at_call 92;fail)
           refine (hsg).mono ?_
           rintro e w' ⟨rfl,rfl⟩
           go_wp2_with (go_at_call 92;fail)
           refine (hsg).mono ?_
           rintro e w' ⟨rfl,rfl⟩
           go_wp2
           refine bodyPost_ret (v:=.tuple #[.agg #[.int .i64 sg,.string (⟨#[]⟩),.string ⟨#[]⟩,.bool false,.bool false],.int .i64 ((i+1:Nat):Int)]) (by simp [results,Tryz.results42,go_sem,k0,k1,k2,k3,k4]) rfl ⟨i+1,plainTok sg [],_,HV.out,rfl,rfl,by omega,by omega,?_⟩
           exact (((((hB2.setCell (Nat.le_refl _) _).setCell (Nat.le_refl _) _).setCell (Nat.le_refl _) _).setCell (Nat.le_refl _) _).setCell (Nat.le_refl _) _)
          ·have HV:Hid (oneZ (xs.drop i)=(some (plainTok 9 [c]),xs.drop (i+1))):=by
            show oneZ (xs.drop i)=_
            rw [hZ]
            unfold singleZ
            rw [if_neg hs]
           clear hZ
           generalize signZ c=sg at *
           go_wp2_with (go_at_call 87;fail)
           refine (hnb).mono ?_
           rintro e w' ⟨rfl,rfl⟩
           have hcv:=conv_one w2 c HCC.out
           obtain ⟨k0,k1,k2,k3,k4,f0,f1,f2,f3,f4⟩:=zero_cells hblk2
           go_wp2_with (go_at_call 92;fail)
           refine (hsg).mono ?_
           rintro e w' ⟨rfl,rfl⟩
           go_wp2
           refine bodyPost_ret (v:=.tuple #[.agg #[.int .i64 9,.string (strT [c]),.string ⟨#[]⟩,.bool false,.bool false],.int .i64 ((i+1:Nat):Int)]) (by simp [results,Tryz.results42,go_sem,k0,k1,k2,k3,k4,hsz2]) rfl ⟨i+1,plainTok 9 [c],_,HV.out,rfl,rfl,by omega,by omega,?_⟩
           exact (((((hB2.setCell (Nat.le_refl _) _).setCell (Nat.le_refl _) _).setCell (Nat.le_refl _) _).setCell (Nat.le_refl _) _).setCell (Nat.le_refl _) _).alloc (by have:=hB2.size;simp;try omega) _
        ·rw [h3,if_pos rfl] at hZ
         rw [h3] at hnb
         have HZ:=hid_mk hZ
         have hwd:=rword_any hrow2 HH.out.2 i i rfl (by omega)
         clear hZ h1 h2 h3 hn h35 hz
         generalize hd xs i=c at *
         go_wp2_with (go_at_call 87;fail)
         refine (hnb).mono ?_
         rintro e w' ⟨rfl,rfl⟩
         go_wp2_with (go_at_call 91;fail)
         refine (hwd).mono ?_
         rintro e w6 ⟨p6,rfl,hd6,hp6,hp7,b6⟩
         have hB6:Below w.heap.size w w6:=hB2.trans (b6.mono (by first | (simp;done) | (have:=hB2.size;simp;omega) | (have:=hB2.size;omega)))
         have hblk6:w6.heap[w.heap.size]? = some (.cells #[.int .i64 0,.string ⟨#[]⟩,.string ⟨#[]⟩,.bool false,.bool false] 65 (0,0)):=(b6.block _ hsz2).trans (hblk2)
         obtain ⟨k0,k1,k2,k3,k4,f0,f1,f2,f3,f4⟩:=zero_cells hblk6
         obtain ⟨tk,rr,hzz⟩:∃ tk rr,wordZ (xs.drop i)=(tk,rr):=⟨_,_,rfl⟩
         rw [hzz] at hd6
         have HV:Hid (oneZ (xs.drop i)=(some tk,rr)):=by
          show oneZ (xs.drop i)=(some tk,rr)
          rw [HZ.out,hzz]
          rfl
         have hlt6:i<p6:=pos_less HL.out HV.out hd6 hp7
         have HD6:=hid_mk hd6
         clear hd6
         rw [hzz]
         have HT:Hid (tokV tk=.agg #[.int .i64 tk.kind,.string (strT tk.text),.string (strT tk.unit),.bool tk.whole,.bool tk.flag]):=rfl
         simp only [tokV]
         generalize tk.kind=y1 at *
         generalize strT tk.text=y2 at *
         generalize strT tk.unit=y3 at *
         generalize tk.whole=y4 at *
         generalize tk.flag=y5 at *
         clear hzz HZ
         go_wp2
         refine bodyPost_ret (v:=.tuple #[.agg #[.int .i64 y1,.string y2,.string y3,.bool y4,.bool y5],.int .i64 (p6:Int)]) (by simp [results,Tryz.results42,go_sem,k0,k1,k2,k3,k4]) rfl ⟨p6,tk,rr,HV.out,by rw [HT.out],HD6.out,hlt6,hp7,?_⟩
         exact (((((hB6.setCell (Nat.le_refl _) _).setCell (Nat.le_refl _) _).setCell (Nat.le_refl _) _).setCell (Nat.le_refl _) _).setCell (Nat.le_refl _) _)
       ·rw [h2,if_pos rfl] at hZ
        have h4:i+4≤xs.length:=by
         rcases stands_lt h2 (by decide) with h | h
         ·exact h
         ·cases h
        rw [h2] at hst2
        have HV:=hid_mk hZ
        clear hZ h1 h2 hn h35 hz c0
        generalize hd xs i=c at *
        go_wp2_with (go_at_call 40;fail)
        refine (hst2).mono ?_
        rintro e w2 ⟨rfl,b2⟩
        have hB2:Below w.heap.size w w2:=hB1.trans (b2.mono hB1.size)
        have hblk2:w2.heap[w.heap.size]? = some (.cells #[.int .i64 0,.string ⟨#[]⟩,.string ⟨#[]⟩,.bool false,.bool false] 65 (0,0)):=(b2.block _ hsz1).trans hblk1
        obtain ⟨k0,k1,k2,k3,k4,f0,f1,f2,f3,f4⟩:=zero_cells hblk2
        go_wp2
        refine bodyPost_ret (v:=.tuple #[.agg #[.int .i64 14,.string (⟨#[]⟩),.string ⟨#[]⟩,.bool false,.bool false],.int .i64 ((i+4:Nat):Int)]) (by simp [results,Tryz.results42,go_sem,k0,k1,k2,k3,k4]) rfl ⟨i+4,plainTok 14 [],_,HV.out,rfl,rfl,by omega,by omega,?_⟩
        exact (((((hB2.setCell (Nat.le_refl _) _).setCell (Nat.le_refl _) _).setCell (Nat.le_refl _) _).setCell (Nat.le_refl _) _).setCell (Nat.le_refl _) _)
      ·rw [h1,if_pos rfl] at hZ
       have h4:i+3≤xs.length:=by
        rcases stands_lt h1 (by decide) with h | h
        ·exact h
        ·cases h
       rw [h1] at hst1
       have HV:=hid_mk hZ
       clear hZ h1 hn h35 hz
       generalize hd xs i=c at *
       go_wp2_with (go_at_call 40;fail)
       refine (hst1).mono ?_
       rintro e w1 ⟨rfl,b1⟩
       have hB1:Below w.heap.size w w1:=hB0.trans (b1.mono (by simp))
       have hblk1:w1.heap[w.heap.size]? = some (.cells #[.int .i64 0,.string ⟨#[]⟩,.string ⟨#[]⟩,.bool false,.bool false] 65 (0,0)):=(b1.block _ (by simp)).trans (heap_alloc_new w _)
       obtain ⟨k0,k1,k2,k3,k4,f0,f1,f2,f3,f4⟩:=zero_cells hblk1
       go_wp2
       refine bodyPost_ret (v:=.tuple #[.agg #[.int .i64 15,.string (⟨#[]⟩),.string ⟨#[]⟩,.bool false,.bool false],.int .i64 ((i+3:Nat):Int)]) (by simp [results,Tryz.results42,go_sem,k0,k1,k2,k3,k4]) rfl ⟨i+3,plainTok 15 [],_,HV.out,rfl,rfl,by omega,by omega,?_⟩
       exact (((((hB1.setCell (Nat.le_refl _) _).setCell (Nat.le_refl _) _).setCell (Nat.le_refl _) _).setCell (Nat.le_refl _) _).setCell (Nat.le_refl _) _)
     ·rw [hn,if_pos rfl] at hZ
      rw [hn] at hnu
      have HZ:=hid_mk hZ
      have hnn:=rnumber_any hrow0 HH.out.2 i i rfl hi
      clear hZ hn h35 hz hst1
      generalize hd xs i=c at *
      go_wp2_with (go_at_call 82;fail)
      refine (hbk).mono ?_
      rintro e w' ⟨rfl,rfl⟩
      go_wp2_with (go_at_call 89;fail)
      refine (hnu).mono ?_
      rintro e w' ⟨rfl,rfl⟩
      go_wp2_with (go_at_call 90;fail)
      refine (hnn).mono ?_
      rintro e w6 ⟨p6,rfl,hd6,hp6,hp7,b6⟩
      have hB6:Below w.heap.size w w6:=hB0.trans (b6.mono (by first | (simp;done) | (have:=hB0.size;simp;omega) | (have:=hB0.size;omega)))
      have hblk6:w6.heap[w.heap.size]? = some (.cells #[.int .i64 0,.string ⟨#[]⟩,.string ⟨#[]⟩,.bool false,.bool false] 65 (0,0)):=(b6.block _ (by simp)).trans (heap_alloc_new w _)
      obtain ⟨k0,k1,k2,k3,k4,f0,f1,f2,f3,f4⟩:=zero_cells hblk6
      obtain ⟨tk,rr,hzz⟩:∃ tk rr,numZ (xs.drop i)=(tk,rr):=⟨_,_,rfl⟩
      rw [hzz] at hd6
      have HV:Hid (oneZ (xs.drop i)=(some tk,rr)):=by
       show oneZ (xs.drop i)=(some tk,rr)
       rw [HZ.out,hzz]
       rfl
      have hlt6:i<p6:=pos_less HL.out HV.out hd6 hp7
      have HD6:=hid_mk hd6
      clear hd6
      rw [hzz]
      have HT:Hid (tokV tk=.agg #[.int .i64 tk.kind,.string (strT tk.text),.string (strT tk.unit),.bool tk.whole,.bool tk.flag]):=rfl
      simp only [tokV]
      generalize tk.kind=y1 at *
      generalize strT tk.text=y2 at *
      generalize strT tk.unit=y3 at *
      generalize tk.whole=y4 at *
      generalize tk.flag=y5 at *
      clear hzz HZ
      go_wp2
      refine bodyPost_ret (v:=.tuple #[.agg #[.int .i64 y1,.string y2,.string y3,.bool y4,.bool y5],.int .i64 (p6:Int)]) (by simp [results,Tryz.results42,go_sem,k0,k1,k2,k3,k4]) rfl ⟨p6,tk,rr,HV.out,by rw [HT.out],HD6.out,hlt6,hp7,?_⟩
      exact (((((hB6.setCell (Nat.le_refl _) _).setCell (Nat.le_refl _) _).setCell (Nat.le_refl _) _).setCell (Nat.le_refl _) _).setCell (Nat.le_refl _) _)
   ·rw [hh,if_pos rfl] at hZ
    have h35:hd xs i=35:=by
     have:=(Bool.and_eq_true_iff.1 hh).1
     simpa using this
    have hpe:=(Bool.and_eq_true_iff.1 hh).2
    rw [h35] at hbk c0 m34 m39
    have HZ:=hid_mk hZ
    have hnb:=rnames_any hrow0 HH.out.2 (i+1) ((i:Int)+1) (by omega) (by omega)
    have HV:Hid (oneZ (xs.drop i)=(some (mkTok 4 (nameT (xs.drop (i+1)) 0) [] false (nameB (xs.drop (i+1)))),nameR (xs.drop (i+1)) 0)):=hZ
    generalize nameB (xs.drop (i+1))=nb at *
    have hnm:=rname_any (w:=(w.alloc (.cells #[.int .i64 0,.string ⟨#[]⟩,.string ⟨#[]⟩,.bool false,.bool false] 65)).alloc (.cells #[.int .i64 4,.string ⟨#[]⟩,.string ⟨#[]⟩,.bool false,.bool nb] 65)) (HH.out.1.below (WN_below w _ _)) HH.out.2 (i+1) ((i:Int)+1) (by omega) (by omega)
    clear hZ HZ hh hz h35
    cases hp:partZ (hd xs (i+1))
    ·rw [hp] at hpt hpe
     rw [Bool.false_or] at hpe
     rw [hpe] at hes
     clear hp hpe
     generalize hd xs (i+1)=c1 at *
     go_wp2_with (go_at_call 82;fail)
     refine (hbk).mono ?_
     rintro e w' ⟨rfl,rfl⟩
     go_wp2_with (go_at_call 81;fail)
     refine (ha1).mono ?_
     rintro e w' ⟨rfl,rfl⟩
     go_wp2_with (go_at_call 85;fail)
     refine (hpt).mono ?_
     rintro e w' ⟨rfl,rfl⟩
     go_wp2_with (go_at_call 86;fail)
     refine (hes).mono ?_
     rintro e w' ⟨rfl,rfl⟩
     go_wp2_with (go_at_call 87;fail)
     refine (hnb).mono ?_
     rintro e w' ⟨rfl,rfl⟩
     go_wp2_with (go_at_call 88;fail)
     refine (hnm).mono ?_
     rintro e w6 ⟨p6,rfl,hd6,hp6,hp7,b6⟩
     have hB6:Below w.heap.size w w6:=(hB0.alloc hB0.size _).trans (b6.mono (by have:=hB0.size;simp;omega))
     have hblk0:w6.heap[w.heap.size]? = some (.cells #[.int .i64 0,.string ⟨#[]⟩,.string ⟨#[]⟩,.bool false,.bool false] 65 (0,0)):=(b6.block _ (by simp;omega)).trans ((heap_alloc_old _ _ (by simp)).trans (heap_alloc_new w _))
     have hblk1:w6.heap[((w.alloc (.cells #[.int .i64 0,.string ⟨#[]⟩,.string ⟨#[]⟩,.bool false,.bool false] 65))).heap.size]? = some (.cells #[.int .i64 4,.string ⟨#[]⟩,.string ⟨#[]⟩,.bool false,.bool nb] 65 (0,0)):=(b6.block _ (by simp)).trans (heap_alloc_new _ _)
     have e9:((w.alloc (.cells #[.int .i64 0,.string ⟨#[]⟩,.string ⟨#[]⟩,.bool false,.bool false] 65))).heap.size=w.heap.size+1:=by simp
     rw [e9] at hblk1
     clear e9
     obtain ⟨k0,k1,k2,k3,k4,f0,f1,f2,f3,f4⟩:=zero_cells hblk0
     obtain ⟨t0,t1,t2,t3,t4,tf⟩:=five_cells1 hblk1
     have hlt6:i<p6:=by omega
     have HD6:=hid_mk hd6
     clear hd6
     generalize hun:strT (nameT (xs.drop (i+1)) 0)=un at *
     have HUN:=hid_mk hun
     clear hun
     go_wp2
     refine bodyPost_ret (v:=.tuple #[.agg #[.int .i64 4,.string un,.string ⟨#[]⟩,.bool false,.bool nb],.int .i64 (p6:Int)]) (by simp [results,Tryz.results42,go_sem,k0,k1,k2,k3,k4]) rfl ⟨p6,mkTok 4 (nameT (xs.drop (i+1)) 0) [] false nb,_,HV.out,by rw [← HUN.out];rfl,HD6.out,hlt6,hp7,?_⟩
     exact (((((hB6.setCell (by have:=hB0.size;first | (simp;done) | (simp;omega) | omega) _).setCell (Nat.le_refl _) _).setCell (Nat.le_refl _) _).setCell (Nat.le_refl _) _).setCell (Nat.le_refl _) _).setCell (Nat.le_refl _) _
    ·rw [hp] at hpt
     clear hp hpe hes
     generalize hd xs (i+1)=c1 at *
     go_wp2_with (go_at_call 82;fail)
     refine (hbk).mono ?_
     rintro e w' ⟨rfl,rfl⟩
     go_wp2_with (go_at_call 81;fail)
     refine (ha1).mono ?_
     rintro e w' ⟨rfl,rfl⟩
     go_wp2_with (go_at_call 85;fail)
     refine (hpt).mono ?_
     rintro e w' ⟨rfl,rfl⟩
     go_wp2_with (go_at_call 87;fail)
     refine (hnb).mono ?_
     rintro e w' ⟨rfl,rfl⟩
     go_wp2_with (go_at_call 88;fail)
     refine (hnm).mono ?_
     rintro e w6 ⟨p6,rfl,hd6,hp6,hp7,b6⟩
     have hB6:Below w.heap.size w w6:=(hB0.alloc hB0.size _).trans (b6.mono (by have:=hB0.size;simp;omega))
     have hblk0:w6.heap[w.heap.size]? = some (.cells #[.int .i64 0,.string ⟨#[]⟩,.string ⟨#[]⟩,.bool false,.bool false] 65 (0,0)):=(b6.block _ (by simp;omega)).trans ((heap_alloc_old _ _ (by simp)).trans (heap_alloc_new w _))
     have hblk1:w6.heap[((w.alloc (.cells #[.int .i64 0,.string ⟨#[]⟩,.string ⟨#[]⟩,.bool false,.bool false] 65))).heap.size]? = some (.cells #[.int .i64 4,.string ⟨#[]⟩,.string ⟨#[]⟩,.bool false,.bool nb] 65 (0,0)):=(b6.block _ (by simp)).trans (heap_alloc_new _ _)
     have e9:((w.alloc (.cells #[.int .i64 0,.string ⟨#[]⟩,.string ⟨#[]⟩,.bool false,.bool false] 65))).heap.size=w.heap.size+1:=by simp
     rw [e9] at hblk1
     clear e9
     obtain ⟨k0,k1,k2,k3,k4,f0,f1,f2,f3,f4⟩:=zero_cells hblk0
     obtain ⟨t0,t1,t2,t3,t4,tf⟩:=five_cells1 hblk1
     have hlt6:i<p6:=by omega
     have HD6:=hid_mk hd6
     clear hd6
     generalize hun:strT (nameT (xs.drop (i+1)) 0)=un at *
     have HUN:=hid_mk hun
     clear hun
     go_wp2
     refine bodyPost_ret (v:=.tuple #[.agg #[.int .i64 4,.string un,.string ⟨#[]⟩,.bool false,.bool nb],.int .i64 (p6:Int)]) (by simp [results,Tryz.results42,go_sem,k0,k1,k2,k3,k4]) rfl ⟨p6,mkTok 4 (nameT (xs.drop (i+1)) 0) [] false nb,_,HV.out,by rw [← HUN.out];rfl,HD6.out,hlt6,hp7,?_⟩
     exact (((((hB6.setCell (by have:=hB0.size;first | (simp;done) | (simp;omega) | omega) _).setCell (Nat.le_refl _) _).setCell (Nat.le_refl _) _).setCell (Nat.le_refl _) _).setCell (Nat.le_refl _) _).setCell (Nat.le_refl _) _
 ·rw [hz,if_pos rfl] at hZ
  rw [hz] at hbk
  have HV:=hid_mk hZ
  have hbl:=rblanks_any hrow0 HH.out.2 i i rfl (by omega)
  generalize hd xs i=c at *
  go_wp2_with (go_at_call 82;fail)
  refine (hbk).mono ?_
  rintro e w' ⟨rfl,rfl⟩
  go_wp2_with (go_at_call 83;fail)
  refine (hbl).mono ?_
  rintro e w' ⟨p6,rfl,hd6,hp6,hp7,rfl⟩
  have HD6:=hid_mk hd6
  clear hd6
  have hlt6:i<p6:=pos_less HL.out HV.out HD6.out hp7
  go_wp2
  refine bodyPost_ret (v:=.tuple #[.agg #[.int .i64 13,.string (⟨#[]⟩),.string ⟨#[]⟩,.bool false,.bool false],.int .i64 ((p6:Nat):Int)]) (by simp [results,Tryz.results42,go_sem]) rfl ⟨p6,plainTok 13 [],_,HV.out,rfl,HD6.out,hlt6,by omega,?_⟩
  exact (Below.refl _ _).alloc (Nat.le_refl _) _
end Go.Proofs.YtemlnblifkdenaaGreatDoor.Y
