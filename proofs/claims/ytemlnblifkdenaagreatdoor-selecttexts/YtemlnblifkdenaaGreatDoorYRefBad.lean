/- What is left of a URL that is none, in the second reading. -/
import Derived.Test.YtemlnblifkdenaaGreatDoorYFold
import Derived.Laws.IdiomStrings
import Derived.Laws.Cover4
set_option maxRecDepth 100000
set_option maxHeartbeats 8000000
namespace Go.Proofs.YtemlnblifkdenaaGreatDoor.Y
open Go.RowKit
def Fine (xs:List Int):Prop:=xs.length≤1000000000∧∀ c∈xs,IsChar c
theorem hid_mk {p:Prop} (h:p):Hid p:=h
theorem hd_drop (l:List Int) (i j:Nat):hd (l.drop i) j=hd l (i+j):=by simp [hd,List.getD]
theorem hd_bounds {xs:List Int} (fx:Fine xs) (i:Nat):-1≤hd xs i∧hd xs i≤1114111:=by
 unfold hd
 by_cases h:i<xs.length
 ·have hm:xs.getD i (-1)∈xs:=by simp [List.getD,h]
  have:=fx.2 _ hm
  unfold IsChar at this
  omega
 ·have:xs.getD i (-1)=-1:=by simp [List.getD,List.getElem?_eq_none (Nat.le_of_not_lt h)]
  omega
section
variable {w:World} {v:Value} {xs:List Int}
theorem rat_any (hv:RowAt .i32 w v xs) (fx:Fine xs) (i:Nat) (j:Int) (hj:j=i) :
  Calls Tryz.prog 81 #[v,.int .i64 j] w fun e w'=>e=.returned (.int .i32 (hd xs i))∧w=w':=by
 subst hj
 obtain ⟨a,cap,rfl,hcap,hc⟩:=hv
 have hl:=fx.1
 clear fx
 by_cases h:i<xs.length
 ·obtain ⟨b,off,rfl,hcell⟩:=hc (by omega)
  have c0:=hcell i h
  have HE:Hid (hd xs i=xs.getD i 0):=by show hd xs i=xs.getD i 0;simp [hd,List.getD,h]
  generalize xs.getD i 0=c at c0 HE
  clear hc hcell
  go_enter Tryz.func81,Tryz.ntmps81
  go_wp2
  go_ret
  exact ⟨ret_int (by rw [HE.out]),rfl⟩
 ·have HE:Hid (hd xs i=-1):=by show hd xs i=-1;simp [hd,List.getD,List.getElem?_eq_none (Nat.le_of_not_lt h)]
  have h2:(xs.length:Int)≤i:=by omega
  clear hc
  go_enter Tryz.func81,Tryz.ntmps81
  go_wp2
  go_ret
  exact ⟨ret_int (by rw [HE.out]),rfl⟩
theorem rstart_any (c:Int) (w:World):Calls Tryz.prog 121 #[.int .i32 c] w fun e w'=>e=.returned (.bool (startZ c))∧w=w':=by
 by_cases h:c=-1
 ·subst h
  have HE:Hid (startZ (-1)=false):=by show startZ (-1)=false;decide
  go_enter Tryz.func121,Tryz.ntmps121
  go_wp2
  go_ret
  exact ⟨ret_bool (by rw [HE.out]),rfl⟩
 ·have e1:(c != -1)=true:=by simpa using h
  go_enter Tryz.func121,Tryz.ntmps121
  go_wp2_with (go_at_call 138;fail)
  refine (refStart_any _ _).mono ?_
  rintro e w' ⟨rfl,rfl⟩
  go_wp2
  go_ret
  exact ⟨rfl,rfl⟩
theorem rpart_any (c:Int) (w:World):Calls Tryz.prog 85 #[.int .i32 c] w fun e w'=>e=.returned (.bool (partZ c))∧w=w':=by
 by_cases h:c=-1
 ·subst h
  have HE:Hid (partZ (-1)=false):=by show partZ (-1)=false;decide
  go_enter Tryz.func85,Tryz.ntmps85
  go_wp2
  go_ret
  exact ⟨ret_bool (by rw [HE.out]),rfl⟩
 ·have e1:(c != -1)=true:=by simpa using h
  go_enter Tryz.func85,Tryz.ntmps85
  go_wp2_with (go_at_call 120;fail)
  refine (refPart_any _ _).mono ?_
  rintro e w' ⟨rfl,rfl⟩
  go_wp2
  go_ret
  exact ⟨rfl,rfl⟩
theorem rdigit_any (c:Int) (w:World):Calls Tryz.prog 122 #[.int .i32 c] w fun e w'=>e=.returned (.bool (digitZ c))∧w=w':=by
 by_cases h:c=-1
 ·subst h
  have HE:Hid (digitZ (-1)=false):=by show digitZ (-1)=false;decide
  go_enter Tryz.func122,Tryz.ntmps122
  go_wp2
  go_ret
  exact ⟨ret_bool (by rw [HE.out]),rfl⟩
 ·have e1:(c != -1)=true:=by simpa using h
  go_enter Tryz.func122,Tryz.ntmps122
  go_wp2_with (go_at_call 139;fail)
  refine (refDigit_any _ _).mono ?_
  rintro e w' ⟨rfl,rfl⟩
  go_wp2
  go_ret
  exact ⟨rfl,rfl⟩
theorem resc_any (hv:RowAt .i32 w v xs) (fx:Fine xs) (i:Nat) (j:Int) (hj:j=i) (hi:i≤2000000000) :
  Calls Tryz.prog 86 #[v,.int .i64 j] w fun e w'=>e=.returned (.bool (escB (xs.drop i)))∧w=w':=by
 subst hj
 have ha:=rat_any hv fx i i rfl
 have hb:=rat_any hv fx (i+1) (i+1) (by omega)
 have HE:Hid (escB (xs.drop i)=(hd xs i == 92 && hd xs (i+1) != 10)):=by show escB (xs.drop i)=_;simp only [escB,hd_drop];rfl
 clear hv fx
 generalize hd xs i=c0 at ha HE
 generalize hd xs (i+1)=c1 at hb HE
 by_cases h0:c0=92
 ·subst h0
  go_enter Tryz.func86,Tryz.ntmps86
  go_wp2_with (go_at_call 81;fail)
  refine (ha).mono ?_
  rintro e w' ⟨rfl,rfl⟩
  go_wp2_with (go_at_call 81;fail)
  refine (hb).mono ?_
  rintro e w' ⟨rfl,rfl⟩
  go_wp2
  go_ret
  exact ⟨ret_bool (by rw [HE.out];simp),rfl⟩
 ·have e0:(c0 == 92)=false:=by simpa using h0
  go_enter Tryz.func86,Tryz.ntmps86
  go_wp2_with (go_at_call 81;fail)
  refine (ha).mono ?_
  rintro e w' ⟨rfl,rfl⟩
  go_wp2
  go_ret
  exact ⟨ret_bool (by rw [HE.out,e0];rfl),rfl⟩
theorem rnames_any (hv:RowAt .i32 w v xs) (fx:Fine xs) (i:Nat) (j:Int) (hj:j=i) (hi:i≤1500000000) :
  Calls Tryz.prog 87 #[v,.int .i64 j] w fun e w'=>e=.returned (.bool (nameB (xs.drop i)))∧w=w':=by
 subst hj
 have ha:=rat_any hv fx i i rfl
 have hb:=rat_any hv fx (i+1) (i+1) (by omega)
 have hc:=resc_any hv fx i i rfl (by omega)
 have hd':=resc_any hv fx (i+1) (i+1) (by omega) (by omega)
 have HE:Hid (nameB (xs.drop i)=if hd xs i == 45 then (hd xs (i+1) == 45 || (startZ (hd xs (i+1)) || escB (xs.drop (i+1)))) else (startZ (hd xs i) || escB (xs.drop i))):=by
  show nameB (xs.drop i)=_;simp only [nameB,wordB,hd_drop,List.drop_drop];rfl
 clear hv fx
 generalize hd xs i=c0 at ha HE
 generalize hd xs (i+1)=c1 at hb HE
 generalize escB (xs.drop i)=x0 at hc HE
 generalize escB (xs.drop (i+1))=x1 at hd' HE
 by_cases h0:c0=45
 ·subst h0
  cases hs:startZ c1
  ·by_cases h1:c1=45
   ·subst h1
    go_enter Tryz.func87,Tryz.ntmps87
    go_wp2_with (go_at_call 81;fail)
    refine (ha).mono ?_
    rintro e w' ⟨rfl,rfl⟩
    go_wp2_with (go_at_call 81;fail)
    refine (hb).mono ?_
    rintro e w' ⟨rfl,rfl⟩
    go_wp2_with (go_at_call 121;fail)
    refine (rstart_any _ _).mono ?_
    rintro e w' ⟨rfl,rfl⟩
    go_wp2_with (go_at_call 81;fail)
    refine (hb).mono ?_
    rintro e w' ⟨rfl,rfl⟩
    go_wp2
    go_ret
    exact ⟨ret_bool (by rw [HE.out];simp),rfl⟩
   ·have e1:(c1 == 45)=false:=by simpa using h1
    go_enter Tryz.func87,Tryz.ntmps87
    go_wp2_with (go_at_call 81;fail)
    refine (ha).mono ?_
    rintro e w' ⟨rfl,rfl⟩
    go_wp2_with (go_at_call 81;fail)
    refine (hb).mono ?_
    rintro e w' ⟨rfl,rfl⟩
    go_wp2_with (go_at_call 121;fail)
    refine (rstart_any _ _).mono ?_
    rintro e w' ⟨rfl,rfl⟩
    go_wp2_with (go_at_call 81;fail)
    refine (hb).mono ?_
    rintro e w' ⟨rfl,rfl⟩
    go_wp2_with (go_at_call 86;fail)
    refine (hd').mono ?_
    rintro e w' ⟨rfl,rfl⟩
    go_wp2
    go_ret
    exact ⟨ret_bool (by rw [HE.out,hs,e1];simp),rfl⟩
  ·
   go_enter Tryz.func87,Tryz.ntmps87
   go_wp2_with (go_at_call 81;fail)
   refine (ha).mono ?_
   rintro e w' ⟨rfl,rfl⟩
   go_wp2_with (go_at_call 81;fail)
   refine (hb).mono ?_
   rintro e w' ⟨rfl,rfl⟩
   go_wp2_with (go_at_call 121;fail)
   refine (rstart_any _ _).mono ?_
   rintro e w' ⟨rfl,rfl⟩
   go_wp2
   go_ret
   exact ⟨ret_bool (by rw [HE.out,hs];simp),rfl⟩
 ·have e0:(c0 == 45)=false:=by simpa using h0
  cases hs:startZ c0
  ·
   go_enter Tryz.func87,Tryz.ntmps87
   go_wp2_with (go_at_call 81;fail)
   refine (ha).mono ?_
   rintro e w' ⟨rfl,rfl⟩
   go_wp2_with (go_at_call 121;fail)
   refine (rstart_any _ _).mono ?_
   rintro e w' ⟨rfl,rfl⟩
   go_wp2_with (go_at_call 86;fail)
   refine (hc).mono ?_
   rintro e w' ⟨rfl,rfl⟩
   go_wp2
   go_ret
   exact ⟨ret_bool (by rw [HE.out,hs,e0];simp),rfl⟩
  ·
   go_enter Tryz.func87,Tryz.ntmps87
   go_wp2_with (go_at_call 81;fail)
   refine (ha).mono ?_
   rintro e w' ⟨rfl,rfl⟩
   go_wp2_with (go_at_call 121;fail)
   refine (rstart_any _ _).mono ?_
   rintro e w' ⟨rfl,rfl⟩
   go_wp2
   go_ret
   exact ⟨ret_bool (by rw [HE.out,hs,e0];simp),rfl⟩
theorem numB_eq (l:List Int):numB l=if hd l 0 == 43 || hd l 0 == 45 then (digitZ (hd l 1) || (hd l 1 == 46 && digitZ (hd l 2))) else (digitZ (hd l 0) || (hd l 0 == 46 && digitZ (hd l 1))):=by
 unfold numB unsignZ
 by_cases h:signB l=true
 ·have h':(hd l 0 == 43 || hd l 0 == 45)=true:=h
  rw [if_pos h,if_pos h']
  show (digitZ (hd (l.drop 1) 0) || (hd (l.drop 1) 0 == 46 && digitZ (hd (l.drop 1) 1)))=_
  rw [hd_drop,hd_drop]
 ·have h':¬ (hd l 0 == 43 || hd l 0 == 45)=true:=h
  rw [if_neg h,if_neg h']
  rfl
theorem rnumbers_any (hv:RowAt .i32 w v xs) (fx:Fine xs) (i:Nat) (j:Int) (hj:j=i) (hi:i≤1500000000) :
  Calls Tryz.prog 89 #[v,.int .i64 j] w fun e w'=>e=.returned (.bool (numB (xs.drop i)))∧w=w':=by
 subst hj
 have ha:=rat_any hv fx i i rfl
 have hb:=rat_any hv fx (i+1) (i+1) (by omega)
 have hc:=rat_any hv fx (i+2) (i+1+1) (by omega)
 have HE:Hid (numB (xs.drop i)=if hd xs i == 43 || hd xs i == 45 then (digitZ (hd xs (i+1)) || (hd xs (i+1) == 46 && digitZ (hd xs (i+2)))) else (digitZ (hd xs i) || (hd xs i == 46 && digitZ (hd xs (i+1))))):=by
  show numB (xs.drop i)=_;rw [numB_eq];simp only [hd_drop,Nat.add_zero]
 clear hv fx
 generalize hd xs i=c0 at ha HE
 generalize hd xs (i+1)=c1 at hb HE
 generalize hd xs (i+2)=c2 at hc HE
 rcases (show c0=43∨c0=45∨(c0≠43∧c0≠45) by omega) with rfl | rfl | ⟨n43,n45⟩
 ·cases hdg:digitZ c1
  ·by_cases h1:c1=46
   ·subst h1
    go_enter Tryz.func89,Tryz.ntmps89
    go_wp2_with (go_at_call 81;fail)
    refine (ha).mono ?_
    rintro e w' ⟨rfl,rfl⟩
    go_wp2_with (go_at_call 81;fail)
    refine (hb).mono ?_
    rintro e w' ⟨rfl,rfl⟩
    go_wp2_with (go_at_call 122;fail)
    refine (rdigit_any _ _).mono ?_
    rintro e w' ⟨rfl,rfl⟩
    go_wp2_with (go_at_call 81;fail)
    refine (hc).mono ?_
    rintro e w' ⟨rfl,rfl⟩
    go_wp2_with (go_at_call 122;fail)
    refine (rdigit_any _ _).mono ?_
    rintro e w' ⟨rfl,rfl⟩
    go_wp2
    go_ret
    exact ⟨ret_bool (by rw [HE.out,hdg];simp),rfl⟩
   ·have e1:(c1 == 46)=false:=by simpa using h1
    go_enter Tryz.func89,Tryz.ntmps89
    go_wp2_with (go_at_call 81;fail)
    refine (ha).mono ?_
    rintro e w' ⟨rfl,rfl⟩
    go_wp2_with (go_at_call 81;fail)
    refine (hb).mono ?_
    rintro e w' ⟨rfl,rfl⟩
    go_wp2_with (go_at_call 122;fail)
    refine (rdigit_any _ _).mono ?_
    rintro e w' ⟨rfl,rfl⟩
    go_wp2
    go_ret
    exact ⟨ret_bool (by rw [HE.out,hdg,e1];simp),rfl⟩
  ·
   go_enter Tryz.func89,Tryz.ntmps89
   go_wp2_with (go_at_call 81;fail)
   refine (ha).mono ?_
   rintro e w' ⟨rfl,rfl⟩
   go_wp2_with (go_at_call 81;fail)
   refine (hb).mono ?_
   rintro e w' ⟨rfl,rfl⟩
   go_wp2_with (go_at_call 122;fail)
   refine (rdigit_any _ _).mono ?_
   rintro e w' ⟨rfl,rfl⟩
   go_wp2
   go_ret
   exact ⟨ret_bool (by rw [HE.out,hdg];simp),rfl⟩
 ·cases hdg:digitZ c1
  ·by_cases h1:c1=46
   ·subst h1
    go_enter Tryz.func89,Tryz.ntmps89
    go_wp2_with (go_at_call 81;fail)
    refine (ha).mono ?_
    rintro e w' ⟨rfl,rfl⟩
    go_wp2_with (go_at_call 81;fail)
    refine (hb).mono ?_
    rintro e w' ⟨rfl,rfl⟩
    go_wp2_with (go_at_call 122;fail)
    refine (rdigit_any _ _).mono ?_
    rintro e w' ⟨rfl,rfl⟩
    go_wp2_with (go_at_call 81;fail)
    refine (hc).mono ?_
    rintro e w' ⟨rfl,rfl⟩
    go_wp2_with (go_at_call 122;fail)
    refine (rdigit_any _ _).mono ?_
    rintro e w' ⟨rfl,rfl⟩
    go_wp2
    go_ret
    exact ⟨ret_bool (by rw [HE.out,hdg];simp),rfl⟩
   ·have e1:(c1 == 46)=false:=by simpa using h1
    go_enter Tryz.func89,Tryz.ntmps89
    go_wp2_with (go_at_call 81;fail)
    refine (ha).mono ?_
    rintro e w' ⟨rfl,rfl⟩
    go_wp2_with (go_at_call 81;fail)
    refine (hb).mono ?_
    rintro e w' ⟨rfl,rfl⟩
    go_wp2_with (go_at_call 122;fail)
    refine (rdigit_any _ _).mono ?_
    rintro e w' ⟨rfl,rfl⟩
    go_wp2
    go_ret
    exact ⟨ret_bool (by rw [HE.out,hdg,e1];simp),rfl⟩
  ·
   go_enter Tryz.func89,Tryz.ntmps89
   go_wp2_with (go_at_call 81;fail)
   refine (ha).mono ?_
   rintro e w' ⟨rfl,rfl⟩
   go_wp2_with (go_at_call 81;fail)
   refine (hb).mono ?_
   rintro e w' ⟨rfl,rfl⟩
   go_wp2_with (go_at_call 122;fail)
   refine (rdigit_any _ _).mono ?_
   rintro e w' ⟨rfl,rfl⟩
   go_wp2
   go_ret
   exact ⟨ret_bool (by rw [HE.out,hdg];simp),rfl⟩
 ·have e43:(c0 == 43)=false:=by simpa using n43
  have e45:(c0 == 45)=false:=by simpa using n45
  cases hdg:digitZ c0
  ·by_cases h1:c0=46
   ·subst h1
    go_enter Tryz.func89,Tryz.ntmps89
    go_wp2_with (go_at_call 81;fail)
    refine (ha).mono ?_
    rintro e w' ⟨rfl,rfl⟩
    go_wp2_with (go_at_call 122;fail)
    refine (rdigit_any _ _).mono ?_
    rintro e w' ⟨rfl,rfl⟩
    go_wp2_with (go_at_call 81;fail)
    refine (hb).mono ?_
    rintro e w' ⟨rfl,rfl⟩
    go_wp2_with (go_at_call 122;fail)
    refine (rdigit_any _ _).mono ?_
    rintro e w' ⟨rfl,rfl⟩
    go_wp2
    go_ret
    exact ⟨ret_bool (by rw [HE.out,hdg];simp),rfl⟩
   ·have e1:(c0 == 46)=false:=by simpa using h1
    go_enter Tryz.func89,Tryz.ntmps89
    go_wp2_with (go_at_call 81;fail)
    refine (ha).mono ?_
    rintro e w' ⟨rfl,rfl⟩
    go_wp2_with (go_at_call 122;fail)
    refine (rdigit_any _ _).mono ?_
    rintro e w' ⟨rfl,rfl⟩
    go_wp2
    go_ret
    exact ⟨ret_bool (by rw [HE.out,hdg,e1,e43,e45];simp),rfl⟩
  ·
   go_enter Tryz.func89,Tryz.ntmps89
   go_wp2_with (go_at_call 81;fail)
   refine (ha).mono ?_
   rintro e w' ⟨rfl,rfl⟩
   go_wp2_with (go_at_call 122;fail)
   refine (rdigit_any _ _).mono ?_
   rintro e w' ⟨rfl,rfl⟩
   go_wp2
   go_ret
   exact ⟨ret_bool (by rw [HE.out,hdg,e43,e45];simp),rfl⟩
end
end Go.Proofs.YtemlnblifkdenaaGreatDoor.Y
namespace Go.Proofs.YtemlnblifkdenaaGreatDoor.Y
open Go.RowKit
theorem row_cell {w:World} {v:Value} {xs:List Int} (hv:RowAt .i32 w v xs) (i:Nat) (h:i<xs.length) :
  ∃ b off cap,v=.slice (some ⟨b,off,none⟩) xs.length cap∧xs.length≤cap∧w.cell? ⟨b,off+i,none⟩=some (.int .i32 (hd xs i)):=by
 obtain ⟨a,cap,rfl,hcap,hc⟩:=hv
 obtain ⟨b,off,rfl,hcell⟩:=hc (by omega)
 refine ⟨b,off,cap,rfl,hcap,?_⟩
 have e:hd xs i=xs.getD i 0:=by simp [hd,List.getD,h]
 rw [e]
 exact hcell i h
theorem hex_bd (c:Int):-1≤hexZ c∧hexZ c≤15:=by
 unfold hexZ
 repeat' split
 all_goals omega
theorem hexN_stop {m:Nat} {l:List Int} {n:Int} (h:m=0∨hexZ (hd l 0)<0):hexN m l n=(n,0):=by
 rcases h with rfl | h
 ·rfl
 ·cases m with
  | zero=>rfl
  | succ m=>rw [hexN,if_neg (by omega)]
theorem hexN_step {m:Nat} {l:List Int} {n:Int} (h:0≤hexZ (hd l 0)):hexN (m+1) l n=((hexN m (l.drop 1) (n * 16+hexZ (hd l 0))).1,(hexN m (l.drop 1) (n * 16+hexZ (hd l 0))).2+1):=by
 rw [hexN,if_pos h]
theorem ret2_ri {a c:Int} {b d:Int} (h1:a=c) (h2:b=d):Ending.returned (.tuple #[.int .i32 a,.int .i64 b])=.returned (.tuple #[.int .i32 c,.int .i64 d]):=by rw [h1,h2]
theorem esc_end {t l:List Int} {m k:Nat} {n c:Int} (HE:escT t=(numberedZ (hexN 6 t 0).1,if blankZ (hd t (hexN 6 t 0).2) then (hexN 6 t 0).2+1 else (hexN 6 t 0).2))
  (HR:hexN 6 t 0=((hexN m l n).1,(hexN m l n).2+k)) (hs:hexN m l n=(n,0)) (hc:hd t k=c):escT t=(numberedZ n,if blankZ c then k+1 else k):=by
 rw [HE,HR,hs]
 simp only [Nat.zero_add]
 rw [hc]
theorem num_cases (n:Int) (h0:0≤n):((n == 0)=true∧numberedZ n=65533)∨((n == 0)=false∧1114111<n∧numberedZ n=65533)∨((n == 0)=false∧n≤1114111∧55296≤n∧n<57344∧numberedZ n=65533) ∨
  ((n == 0)=false∧n≤1114111∧n<55296∧numberedZ n=n)∨((n == 0)=false∧n≤1114111∧55296≤n∧57344≤n∧numberedZ n=n):=by
 unfold numberedZ
 by_cases h:n=0
 ·left;simp [h]
 ·right
  have e:(n == 0)=false:=by simpa using h
  by_cases h2:1114111<n
  ·left;exact ⟨e,h2,by rw [if_pos (by omega)]⟩
  ·right
   by_cases h3:55296≤n
   ·by_cases h4:n<57344
    ·left;exact ⟨e,by omega,h3,h4,by rw [if_pos (by omega)]⟩
    ·right;right;exact ⟨e,by omega,h3,by omega,by rw [if_neg (by omega)]⟩
   ·right;left;exact ⟨e,by omega,by omega,by rw [if_neg (by omega)]⟩
def pow16 (k:Nat):Int:=16 ^ k
theorem pow16_le (k:Nat) (h:k≤6):pow16 k≤16777216:=by
 unfold pow16
 have:∀ m:Fin 7,(16:Int) ^ m.val≤16777216:=by decide
 exact this ⟨k,by omega⟩
theorem pow16_succ (k:Nat):pow16 (k+1)=pow16 k * 16:=by unfold pow16;rw [Int.pow_succ]
theorem rescaped_any {w:World} {v:Value} {xs:List Int} (hv:RowAt .i32 w v xs) (fx:Fine xs) (i:Nat) (j:Int) (hj:j=i) (hi:i<xs.length) :
  Calls Tryz.prog 119 #[v,.int .i64 j] w fun e w'=>e=.returned (.tuple #[.int .i32 (escT (xs.drop (i+1))).1,.int .i64 ((i+1+(escT (xs.drop (i+1))).2:Nat):Int)])∧w=w':=by
 subst hj
 have hl:=fx.1
 by_cases hend:i+1<xs.length
 ·have hne:xs.drop (i+1)≠[]:=by simp;omega
  have e0:hd (xs.drop (i+1)) 0=hd xs (i+1):=hd_drop xs (i+1) 0
  have hbd:=hd_bounds fx (i+1)
  obtain ⟨b,off,cap,rfl,hcap,c0⟩:=row_cell hv (i+1) hend
  by_cases hx:hexZ (hd xs (i+1))<0
  ·have HE:Hid (escT (xs.drop (i+1))=(hd xs (i+1),1)):=by show escT (xs.drop (i+1))=_;unfold escT;rw [if_neg hne,if_pos (by rw [e0];exact hx),e0]
   clear e0
   have hh:=refHex_any (hd xs (i+1)) w (by omega)
   generalize hd xs (i+1)=c at *
   clear hv fx
   have c0':w.cell? ⟨b,off+i+1,none⟩=some (.int .i32 c):=by rw [Nat.add_assoc];exact c0
   go_enter Tryz.func119,Tryz.ntmps119
   go_wp2_with (go_at_call 137;fail)
   refine (hh).mono ?_
   rintro e w' ⟨rfl,rfl⟩
   go_wp2
   go_ret2
   exact ⟨ret2_ri (by rw [HE.out]) (by rw [HE.out];simp),rfl⟩
  ·have HE:Hid (escT (xs.drop (i+1))=(numberedZ (hexN 6 (xs.drop (i+1)) 0).1,if blankZ (hd (xs.drop (i+1)) (hexN 6 (xs.drop (i+1)) 0).2) then (hexN 6 (xs.drop (i+1)) 0).2+1 else (hexN 6 (xs.drop (i+1)) 0).2)):=by
    show escT (xs.drop (i+1))=_;unfold escT;rw [if_neg hne,if_neg (by rw [e0];exact hx)]
   clear e0
   have hh:=refHex_any (hd xs (i+1)) w (by omega)
   have HR:=hid_mk (And.intro hv fx)
   have hx2:0≤hexZ (hd xs (i+1)):=by omega
   have hxb:=hex_bd (hd xs (i+1))
   generalize hd xs (i+1)=c at *
   clear hv fx
   have c0':w.cell? ⟨b,off+i+1,none⟩=some (.int .i32 c):=by rw [Nat.add_assoc];exact c0
   go_enter Tryz.func119,Tryz.ntmps119
   go_wp2_with (go_at_call 137;fail)
   refine (hh).mono ?_
   rintro e w' ⟨rfl,rfl⟩
   go_wp2
   go_loop [1,6,7] (fun a1 a6 a7=>∃ (k:Nat) (n:Int),k≤6∧i+1+k≤xs.length∧a1=.int .i64 ((i+1+k:Nat):Int)∧a6=.int .i64 n∧a7=.int .i64 (k:Int)∧0≤n∧n<pow16 k∧hexN 6 (xs.drop (i+1)) 0=((hexN (6 - k) (xs.drop (i+1+k)) n).1,(hexN (6 - k) (xs.drop (i+1+k)) n).2+k)) (fun _ _ a7=>6 - (intOf a7).toNat)
   case atStart=>exact ⟨0,0,by omega,by omega,by go_num,rfl,rfl,by omega,by decide,rfl⟩
   case round =>
    obtain ⟨k,n,hk,hik,rfl,rfl,rfl,hn0,hn1,hrec⟩:=hrel
    have hp16:=pow16_le k hk
    have HREC:=hid_mk hrec
    have HN1:=hid_mk hn1
    have hn2:n<16777216:=by omega
    clear hrec hn1 c0 c0' hh hp16
    have hat:=rat_any HR.out.1 HR.out.2 (i+1+k) ((i+1+k:Nat):Int) rfl
    have hbk:=hd_bounds HR.out.2 (i+1+k)
    have hhk:=refHex_any (hd xs (i+1+k)) w (by omega)
    have hkb:=hex_bd (hd xs (i+1+k))
    have e1:hd (xs.drop (i+1+k)) 0=hd xs (i+1+k):=hd_drop xs (i+1+k) 0
    have E1:=hid_mk e1
    clear e1
    by_cases h6:k<6
    ·by_cases hd0:0≤hexZ (hd xs (i+1+k))
     ·have hlt:i+1+k<xs.length:=by
       rcases Nat.lt_or_ge (i+1+k) xs.length with h | h
       ·exact h
       ·exfalso
        have:hd xs (i+1+k)=-1:=by simp [hd,List.getD,List.getElem?_eq_none h]
        rw [this] at hd0
        exact absurd hd0 (by decide)
      obtain ⟨b',off',cap',hv',_,c1⟩:=row_cell HR.out.1 (i+1+k) hlt
      cases hv'
      have HS:=hid_mk (hexN_step (m:=6 - (k+1)) (l:=xs.drop (i+1+k)) (n:=n) (by rw [E1.out];exact hd0))
      rw [E1.out,List.drop_drop] at HS
      generalize hd xs (i+1+k)=ck at *
      have c1':w.cell? ⟨b,off+(i+1+k),none⟩=some (.int .i32 ck):=c1
      clear c1
      generalize hp:i+1+k=p at *
      have HP:=hid_mk hp
      clear hp
      go_wp2_with (go_at_call 81;fail)
      refine (hat).mono ?_
      rintro e w' ⟨rfl,rfl⟩
      go_wp2_with (go_at_call 137;fail)
      refine (hhk).mono ?_
      rintro e w' ⟨rfl,rfl⟩
      go_wp2_with (go_at_call 137;fail)
      refine (hhk).mono ?_
      rintro e w' ⟨rfl,rfl⟩
      go_wp2
      go_round
      case rel =>
       refine ⟨k+1,n * 16+hexZ ck,by omega,by have:=HP.out;omega,by have:=HP.out;go_num,by first | rfl | (congr 1;omega),by go_num,by omega,?_,?_⟩
       ·rw [pow16_succ];have:=HN1.out;omega
       ·rw [HREC.out,show 6 - k=6 - (k+1)+1 by omega,HS.out]
        have e3:i+1+(k+1)=p+1:=by have:=HP.out;omega
        rw [e3]
        simp only [Nat.add_assoc,Nat.add_comm 1 k]
      case measure=>simp [intOf];omega
     ·have hst:=hexN_stop (m:=6 - k) (l:=xs.drop (i+1+k)) (n:=n) (.inr (by rw [E1.out];omega))
      have hd1:hexZ (hd xs (i+1+k))<0:=by omega
      clear hd0
      have HF:=hid_mk (esc_end HE.out HREC.out hst (hd_drop xs (i+1) k))
      clear hst
      generalize hd xs (i+1+k)=ck at *
      generalize hp:i+1+k=p at *
      have HP:=hid_mk hp
      clear hp
      have hbt:=refBlank_any ck w
      cases hbl:blankZ ck
      all_goals
       rw [hbl] at hbt
       have HB:=hid_mk hbl
       clear hbl
       rcases num_cases n hn0 with ⟨f1,hnz⟩ | ⟨f1,f2,hnz⟩ | ⟨f1,f2,f3,f4,hnz⟩ | ⟨f1,f2,f3,hnz⟩ | ⟨f1,f2,f3,f4,hnz⟩
       all_goals
        have HZ:=hid_mk hnz
        clear hnz
        go_wp2_with (go_at_call 81;fail)
        refine (hat).mono ?_
        rintro e w' ⟨rfl,rfl⟩
        go_wp2_with (go_at_call 137;fail)
        refine (hhk).mono ?_
        rintro e w' ⟨rfl,rfl⟩
        go_wp2_with (go_at_call 81;fail)
        refine (hat).mono ?_
        rintro e w' ⟨rfl,rfl⟩
        go_wp2_with (go_at_call 82;fail)
        refine (hbt).mono ?_
        rintro e w' ⟨rfl,rfl⟩
        go_wp2
        go_ret2
        exact ⟨ret2_ri (by rw [HF.out,HZ.out]) (by rw [HF.out,HB.out];have:=HP.out;simp;try omega),rfl⟩
    ·have hst:=hexN_stop (m:=6 - k) (l:=xs.drop (i+1+k)) (n:=n) (.inl (by omega))
     have hk6:(6:Int)≤(k:Int):=by omega
     have HF:=hid_mk (esc_end HE.out HREC.out hst (hd_drop xs (i+1) k))
     clear hst
     generalize hd xs (i+1+k)=ck at *
     generalize hp:i+1+k=p at *
     have HP:=hid_mk hp
     clear hp
     have hbt:=refBlank_any ck w
     cases hbl:blankZ ck
     all_goals
      rw [hbl] at hbt
      have HB:=hid_mk hbl
      clear hbl
      rcases num_cases n hn0 with ⟨f1,hnz⟩ | ⟨f1,f2,hnz⟩ | ⟨f1,f2,f3,f4,hnz⟩ | ⟨f1,f2,f3,hnz⟩ | ⟨f1,f2,f3,f4,hnz⟩
      all_goals
       have HZ:=hid_mk hnz
       clear hnz
       go_wp2_with (go_at_call 81;fail)
       refine (hat).mono ?_
       rintro e w' ⟨rfl,rfl⟩
       go_wp2_with (go_at_call 82;fail)
       refine (hbt).mono ?_
       rintro e w' ⟨rfl,rfl⟩
       go_wp2
       go_ret2
       exact ⟨ret2_ri (by rw [HF.out,HZ.out]) (by rw [HF.out,HB.out];have:=HP.out;simp;try omega),rfl⟩
 ·have hnil:xs.drop (i+1)=[]:=by simp;omega
  have HE:Hid (escT (xs.drop (i+1))=(65533,0)):=by show escT (xs.drop (i+1))=_;rw [hnil];rfl
  obtain ⟨b,off,cap,rfl,hcap,c0⟩:=row_cell hv i hi
  have h2:(xs.length:Int)≤(i:Int)+1:=by omega
  clear hv fx hnil c0
  go_enter Tryz.func119,Tryz.ntmps119
  go_wp2
  go_ret2
  exact ⟨ret2_ri (by rw [HE.out]) (by rw [HE.out];simp),rfl⟩
theorem drop_hd {xs:List Int} {p:Nat} (h:p<xs.length):xs.drop p=hd xs p::xs.drop (p+1):=by
 rw [List.drop_eq_getElem_cons h]
 congr 1
 simp [hd,List.getD,h]
theorem hd_end {xs:List Int} {p:Nat} (h:¬ p<xs.length):hd xs p=-1:=by simp [hd,List.getD,List.getElem?_eq_none (Nat.le_of_not_lt h)]
theorem blanksR_at {xs:List Int} {p:Nat} (h:blankZ (hd xs p)=true):blanksR (xs.drop p)=blanksR (xs.drop (p+1))∧p<xs.length:=by
 by_cases hp:p<xs.length
 ·rw [drop_hd hp,blanksR,if_pos h]
  exact ⟨rfl,hp⟩
 ·rw [hd_end hp] at h
  exact absurd h (by decide)
theorem blanksR_stop {xs:List Int} {p:Nat} (h:blankZ (hd xs p)=false):blanksR (xs.drop p)=xs.drop p:=by
 by_cases hp:p<xs.length
 ·rw [drop_hd hp,blanksR,if_neg (by simp [h])]
 ·rw [List.drop_eq_nil_of_le (by omega)]
  rfl
theorem rblanks_any {w:World} {v:Value} {xs:List Int} (hv:RowAt .i32 w v xs) (fx:Fine xs) (i:Nat) (j:Int) (hj:j=i) (hi:i≤xs.length) :
  Calls Tryz.prog 83 #[v,.int .i64 j] w fun e w'=>∃ p:Nat,e=.returned (.int .i64 p)∧xs.drop p=blanksR (xs.drop i)∧i≤p∧p≤xs.length∧w=w':=by
 subst hj
 have hl:=fx.1
 have HR:=And.intro hv fx
 have HH:Hid (RowAt .i32 w v xs∧Fine xs):=HR
 clear hv fx HR
 go_enter Tryz.func83,Tryz.ntmps83
 go_wp2
 go_loop [1] (fun a1=>∃ p:Nat,a1=.int .i64 p∧i≤p∧p≤xs.length∧blanksR (xs.drop p)=blanksR (xs.drop i)) (fun a1=>xs.length+1 - (intOf a1).toNat)
 case atStart=>exact ⟨i,rfl,Nat.le_refl _,hi,rfl⟩
 case round =>
  obtain ⟨p,rfl,hip,hp,hr⟩:=hrel
  have HRR:Hid (blanksR (xs.drop p)=blanksR (xs.drop i)):=hr
  clear hr
  have ha:=rat_any HH.out.1 HH.out.2 p p rfl
  have hb:=refBlank_any (hd xs p) w
  cases hz:blankZ (hd xs p)
  ·rw [hz] at hb
   have HZ:Hid (blankZ (hd xs p)=false):=hz
   clear hz
   go_wp2_with (go_at_call 81;fail)
   refine (ha).mono ?_
   rintro e w' ⟨rfl,rfl⟩
   go_wp2_with (go_at_call 82;fail)
   refine (hb).mono ?_
   rintro e w' ⟨rfl,rfl⟩
   go_wp2
   go_ret
   exact ⟨p,rfl,by rw [← HRR.out,blanksR_stop HZ.out],hip,hp,rfl⟩
  ·rw [hz] at hb
   obtain ⟨h1,h2⟩:=blanksR_at hz
   have HZ:Hid (blanksR (xs.drop p)=blanksR (xs.drop (p+1))):=h1
   clear hz h1
   go_wp2_with (go_at_call 81;fail)
   refine (ha).mono ?_
   rintro e w' ⟨rfl,rfl⟩
   go_wp2_with (go_at_call 82;fail)
   refine (hb).mono ?_
   rintro e w' ⟨rfl,rfl⟩
   go_wp2
   go_round
   case rel=>exact ⟨p+1,by go_num,by omega,by omega,by rw [← HZ.out,HRR.out]⟩
   case measure=>simp [intOf];omega
theorem digitsR_at {xs:List Int} {p:Nat} (h:digitZ (hd xs p)=true):digitsR (xs.drop p)=digitsR (xs.drop (p+1))∧p<xs.length:=by
 by_cases hp:p<xs.length
 ·rw [drop_hd hp,digitsR,if_pos h]
  exact ⟨rfl,hp⟩
 ·rw [hd_end hp] at h
  exact absurd h (by decide)
theorem digitsR_stop {xs:List Int} {p:Nat} (h:digitZ (hd xs p)=false):digitsR (xs.drop p)=xs.drop p:=by
 by_cases hp:p<xs.length
 ·rw [drop_hd hp,digitsR,if_neg (by simp [h])]
 ·rw [List.drop_eq_nil_of_le (by omega)]
  rfl
theorem rdigits_any {w:World} {v:Value} {xs:List Int} (hv:RowAt .i32 w v xs) (fx:Fine xs) (i:Nat) (j:Int) (hj:j=i) (hi:i≤xs.length) :
  Calls Tryz.prog 123 #[v,.int .i64 j] w fun e w'=>∃ p:Nat,e=.returned (.int .i64 p)∧xs.drop p=digitsR (xs.drop i)∧i≤p∧p≤xs.length∧w=w':=by
 subst hj
 have hl:=fx.1
 have HR:=And.intro hv fx
 have HH:Hid (RowAt .i32 w v xs∧Fine xs):=HR
 clear hv fx HR
 go_enter Tryz.func123,Tryz.ntmps123
 go_wp2
 go_loop [1] (fun a1=>∃ p:Nat,a1=.int .i64 p∧i≤p∧p≤xs.length∧digitsR (xs.drop p)=digitsR (xs.drop i)) (fun a1=>xs.length+1 - (intOf a1).toNat)
 case atStart=>exact ⟨i,rfl,Nat.le_refl _,hi,rfl⟩
 case round =>
  obtain ⟨p,rfl,hip,hp,hr⟩:=hrel
  have HRR:Hid (digitsR (xs.drop p)=digitsR (xs.drop i)):=hr
  clear hr
  have ha:=rat_any HH.out.1 HH.out.2 p p rfl
  have hb:=rdigit_any (hd xs p) w
  cases hz:digitZ (hd xs p)
  ·rw [hz] at hb
   have HZ:Hid (digitZ (hd xs p)=false):=hz
   clear hz
   go_wp2_with (go_at_call 81;fail)
   refine (ha).mono ?_
   rintro e w' ⟨rfl,rfl⟩
   go_wp2_with (go_at_call 122;fail)
   refine (hb).mono ?_
   rintro e w' ⟨rfl,rfl⟩
   go_wp2
   go_ret
   exact ⟨p,rfl,by rw [← HRR.out,digitsR_stop HZ.out],hip,hp,rfl⟩
  ·rw [hz] at hb
   obtain ⟨h1,h2⟩:=digitsR_at hz
   have HZ:Hid (digitsR (xs.drop p)=digitsR (xs.drop (p+1))):=h1
   clear hz h1
   go_wp2_with (go_at_call 81;fail)
   refine (ha).mono ?_
   rintro e w' ⟨rfl,rfl⟩
   go_wp2_with (go_at_call 122;fail)
   refine (hb).mono ?_
   rintro e w' ⟨rfl,rfl⟩
   go_wp2
   go_round
   case rel=>exact ⟨p+1,by go_num,by omega,by omega,by rw [← HZ.out,HRR.out]⟩
   case measure=>simp [intOf];omega
theorem rsign_any (c:Int) (w:World):Calls Tryz.prog 92 #[.int .i32 c] w fun e w'=>e=.returned (.int .i64 (signZ c))∧w=w':=by
 by_cases h58:c=58
 ·subst h58
  have HE:Hid (signZ 58=16):=by show signZ 58=16;decide
  go_enter Tryz.func92,Tryz.ntmps92
  go_wp2
  go_ret
  exact ⟨ret_int (by rw [HE.out]),rfl⟩
 by_cases h59:c=59
 ·subst h59
  have HE:Hid (signZ 59=17):=by show signZ 59=17;decide
  go_enter Tryz.func92,Tryz.ntmps92
  go_wp2
  go_ret
  exact ⟨ret_int (by rw [HE.out]),rfl⟩
 by_cases h44:c=44
 ·subst h44
  have HE:Hid (signZ 44=18):=by show signZ 44=18;decide
  go_enter Tryz.func92,Tryz.ntmps92
  go_wp2
  go_ret
  exact ⟨ret_int (by rw [HE.out]),rfl⟩
 by_cases h91:c=91
 ·subst h91
  have HE:Hid (signZ 91=19):=by show signZ 91=19;decide
  go_enter Tryz.func92,Tryz.ntmps92
  go_wp2
  go_ret
  exact ⟨ret_int (by rw [HE.out]),rfl⟩
 by_cases h93:c=93
 ·subst h93
  have HE:Hid (signZ 93=20):=by show signZ 93=20;decide
  go_enter Tryz.func92,Tryz.ntmps92
  go_wp2
  go_ret
  exact ⟨ret_int (by rw [HE.out]),rfl⟩
 by_cases h40:c=40
 ·subst h40
  have HE:Hid (signZ 40=21):=by show signZ 40=21;decide
  go_enter Tryz.func92,Tryz.ntmps92
  go_wp2
  go_ret
  exact ⟨ret_int (by rw [HE.out]),rfl⟩
 by_cases h41:c=41
 ·subst h41
  have HE:Hid (signZ 41=22):=by show signZ 41=22;decide
  go_enter Tryz.func92,Tryz.ntmps92
  go_wp2
  go_ret
  exact ⟨ret_int (by rw [HE.out]),rfl⟩
 by_cases h123:c=123
 ·subst h123
  have HE:Hid (signZ 123=23):=by show signZ 123=23;decide
  go_enter Tryz.func92,Tryz.ntmps92
  go_wp2
  go_ret
  exact ⟨ret_int (by rw [HE.out]),rfl⟩
 by_cases h125:c=125
 ·subst h125
  have HE:Hid (signZ 125=24):=by show signZ 125=24;decide
  go_enter Tryz.func92,Tryz.ntmps92
  go_wp2
  go_ret
  exact ⟨ret_int (by rw [HE.out]),rfl⟩
 have HE:Hid (signZ c=0):=by show signZ c=0;simp [signZ,h58,h59,h44,h91,h93,h40,h41,h123,h125]
 have e58:(c == 58)=false:=by simpa using h58
 have e59:(c == 59)=false:=by simpa using h59
 have e44:(c == 44)=false:=by simpa using h44
 have e91:(c == 91)=false:=by simpa using h91
 have e93:(c == 93)=false:=by simpa using h93
 have e40:(c == 40)=false:=by simpa using h40
 have e41:(c == 41)=false:=by simpa using h41
 have e123:(c == 123)=false:=by simpa using h123
 have e125:(c == 125)=false:=by simpa using h125
 clear h58 h59 h44 h91 h93 h40 h41 h123 h125
 go_enter Tryz.func92,Tryz.ntmps92
 go_wp2
 go_ret
 exact ⟨ret_int (by rw [HE.out]),rfl⟩
theorem rcontrol_any (c:Int) (w:World):Calls Tryz.prog 141 #[.int .i32 c] w fun e w'=>e=.returned (.bool (ctrlZ c))∧w=w':=by
 rcases (show c<1∨(1≤c∧c≤8)∨(8<c∧c<11)∨c=11∨(11<c∧c<14)∨(14≤c∧c≤31)∨(31<c∧c<127)∨c=127∨127<c by omega) with h | h | h | h | h | h | h | h | h
 ·have HE:Hid (ctrlZ c=false):=by show ctrlZ c=false;simp [ctrlZ];omega
  have l1:c<1:=by omega
  have e11:(c == 11)=false:=by simp;omega
  have l14:c<14:=by omega
  have e127:(c == 127)=false:=by simp;omega
  clear h
  go_enter Tryz.func141,Tryz.ntmps141
  go_wp2
  go_ret
  exact ⟨ret_bool (by rw [HE.out];try (simp;try omega)),rfl⟩
 ·have HE:Hid (ctrlZ c=true):=by show ctrlZ c=true;simp [ctrlZ];omega
  have l1:1≤c:=by omega
  have l8:c≤8:=by omega
  clear h
  go_enter Tryz.func141,Tryz.ntmps141
  go_wp2
  go_ret
  exact ⟨ret_bool (by rw [HE.out];try (simp;try omega)),rfl⟩
 ·have HE:Hid (ctrlZ c=false):=by show ctrlZ c=false;simp [ctrlZ];omega
  have l1:1≤c:=by omega
  have l8:8<c:=by omega
  have e11:(c == 11)=false:=by simp;omega
  have l14:c<14:=by omega
  have e127:(c == 127)=false:=by simp;omega
  clear h
  go_enter Tryz.func141,Tryz.ntmps141
  go_wp2
  go_ret
  exact ⟨ret_bool (by rw [HE.out];try (simp;try omega)),rfl⟩
 ·have HE:Hid (ctrlZ c=true):=by show ctrlZ c=true;simp [ctrlZ];omega
  have l1:1≤c:=by omega
  have l8:8<c:=by omega
  have e11:(c == 11)=true:=by simp;omega
  clear h
  go_enter Tryz.func141,Tryz.ntmps141
  go_wp2
  go_ret
  exact ⟨ret_bool (by rw [HE.out];try (simp;try omega)),rfl⟩
 ·have HE:Hid (ctrlZ c=false):=by show ctrlZ c=false;simp [ctrlZ];omega
  have l1:1≤c:=by omega
  have l8:8<c:=by omega
  have e11:(c == 11)=false:=by simp;omega
  have l14:c<14:=by omega
  have e127:(c == 127)=false:=by simp;omega
  clear h
  go_enter Tryz.func141,Tryz.ntmps141
  go_wp2
  go_ret
  exact ⟨ret_bool (by rw [HE.out];try (simp;try omega)),rfl⟩
 ·have HE:Hid (ctrlZ c=true):=by show ctrlZ c=true;simp [ctrlZ];omega
  have l1:1≤c:=by omega
  have l8:8<c:=by omega
  have e11:(c == 11)=false:=by simp;omega
  have l14:14≤c:=by omega
  have l31:c≤31:=by omega
  clear h
  go_enter Tryz.func141,Tryz.ntmps141
  go_wp2
  go_ret
  exact ⟨ret_bool (by rw [HE.out];try (simp;try omega)),rfl⟩
 ·have HE:Hid (ctrlZ c=false):=by show ctrlZ c=false;simp [ctrlZ];omega
  have l1:1≤c:=by omega
  have l8:8<c:=by omega
  have e11:(c == 11)=false:=by simp;omega
  have l14:14≤c:=by omega
  have l31:31<c:=by omega
  have e127:(c == 127)=false:=by simp;omega
  clear h
  go_enter Tryz.func141,Tryz.ntmps141
  go_wp2
  go_ret
  exact ⟨ret_bool (by rw [HE.out];try (simp;try omega)),rfl⟩
 ·have HE:Hid (ctrlZ c=true):=by show ctrlZ c=true;simp [ctrlZ];omega
  have l1:1≤c:=by omega
  have l8:8<c:=by omega
  have e11:(c == 11)=false:=by simp;omega
  have l14:14≤c:=by omega
  have l31:31<c:=by omega
  have e127:(c == 127)=true:=by simp;omega
  clear h
  go_enter Tryz.func141,Tryz.ntmps141
  go_wp2
  go_ret
  exact ⟨ret_bool (by rw [HE.out];try (simp;try omega)),rfl⟩
 ·have HE:Hid (ctrlZ c=false):=by show ctrlZ c=false;simp [ctrlZ];omega
  have l1:1≤c:=by omega
  have l8:8<c:=by omega
  have e11:(c == 11)=false:=by simp;omega
  have l14:14≤c:=by omega
  have l31:31<c:=by omega
  have e127:(c == 127)=false:=by simp;omega
  clear h
  go_enter Tryz.func141,Tryz.ntmps141
  go_wp2
  go_ret
  exact ⟨ret_bool (by rw [HE.out];try (simp;try omega)),rfl⟩
theorem runesOf (s:ByteArray) (zs:List Int) (hz:Conv.runesFrom s s.size 0 #[]=(zs.map (Value.int .i32)).toArray) (hl:zs.length≤100) (w:World) :
  ∃ g cap W,(convert 9 47 (.string s)).run Tryz.prog w=.ok (.slice (some ⟨g,0,none⟩) zs.length cap) W∧zs.length≤cap∧(∀ j,j<zs.length→W.cell? ⟨g,j,none⟩=some (.int .i32 (zs.getD j 0)))∧Below w.heap.size w W:=by
 have hsz:(Conv.runesFrom s s.size 0 #[]).size=zs.length:=by rw [hz];simp
 have hcv:=run_runes_of_string (P:=Tryz.prog) w 9 47 21 s Tryz.underlying9 Tryz.underlying47 Tryz.underlying21 (by rw [hsz];omega)
 rw [hsz,hz] at hcv
 have hge:=grownCap_ge w zs.length 0 21
 generalize grownCap w zs.length 0 21=cap at *
 refine ⟨w.heap.size,cap,_,hcv,hge,fun j hj=>?_,((Below.refl _ w).drew).alloc (Nat.le_refl _) _⟩
 have hnew:=heap_alloc_new w.drew (.cells ((zs.map (Value.int .i32)).toArray++Array.replicate (cap - zs.length) (.int .i32 0)) 21)
 have hnew':(w.drew.alloc (.cells ((zs.map (Value.int .i32)).toArray++Array.replicate (cap - zs.length) (.int .i32 0)) 21)).heap[w.heap.size]? = some (.cells ((zs.map (Value.int .i32)).toArray++Array.replicate (cap - zs.length) (.int .i32 0)) 21):=hnew
 simp only [World.cell?,hnew']
 rw [Array.getElem?_append_left (by simpa using hj)]
 simp [List.getD,hj]
theorem standsB_at {zs xs:List Int} {i k:Nat} (hk:k<zs.length):standsB (zs.drop k) (xs.drop (i+k))=(hd xs (i+k) == zs.getD k 0 && standsB (zs.drop (k+1)) (xs.drop (i+(k+1)))):=by
 rw [List.drop_eq_getElem_cons hk,standsB,hd_drop,List.drop_drop]
 simp [List.getD,hk,Nat.add_assoc]
theorem rstarts_any {w:World} {v:Value} {xs:List Int} (s:ByteArray) (zs:List Int) (hz:Conv.runesFrom s s.size 0 #[]=(zs.map (Value.int .i32)).toArray) (hzl:zs.length≤100) (hv:RowAt .i32 w v xs) (fx:Fine xs) (i:Nat) (j:Int) (hj:j=i) (hi:i≤xs.length) :
  Calls Tryz.prog 40 #[v,.int .i64 j,.string s] w fun e w'=>e=.returned (.bool (standsB zs (xs.drop i)))∧Below w.heap.size w w':=by
 subst hj
 have hl:=fx.1
 obtain ⟨g,cap,W,hcv,hcap,hcell,hB⟩:=runesOf s zs hz hzl w
 have HH:Hid (RowAt .i32 W v xs∧Fine xs):=And.intro (hv.below hB) fx
 have HCELL:Hid (∀ j,j<zs.length→W.cell? ⟨g,j,none⟩=some (.int .i32 (zs.getD j 0))):=hcell
 clear hz hv fx hcell
 go_enter Tryz.func40,Tryz.ntmps40
 go_wp2
 go_loop [12] (fun a1=>∃ k:Nat,a1=.int .i64 k∧k≤zs.length∧standsB (zs.drop k) (xs.drop (i+k))=standsB zs (xs.drop i)) (fun a1=>zs.length+1 - (intOf a1).toNat)
 case atStart=>exact ⟨0,rfl,Nat.zero_le _,rfl⟩
 case round =>
  obtain ⟨k,rfl,hk,hr⟩:=hrel
  have HRR:Hid (standsB (zs.drop k) (xs.drop (i+k))=standsB zs (xs.drop i)):=hr
  clear hr
  by_cases hlt:k<zs.length
  ·have c0:=HCELL.out k hlt
   have ha:=rat_any HH.out.1 HH.out.2 (i+k) ((i:Int)+k) (by omega)
   have HS:Hid (standsB (zs.drop k) (xs.drop (i+k))=(hd xs (i+k) == zs.getD k 0 && standsB (zs.drop (k+1)) (xs.drop (i+(k+1))))):=standsB_at hlt
   generalize zs.getD k 0=z at c0 HS
   generalize hd xs (i+k)=c at ha HS
   by_cases hc:c=z
   ·subst hc
    have ec:(c != c)=false:=by simp
    go_wp2_with (go_at_call 81;fail)
    refine (ha).mono ?_
    rintro e w' ⟨rfl,rfl⟩
    go_wp2
    go_round
    case rel=>exact ⟨k+1,by go_num,by omega,by rw [← HRR.out,HS.out];simp⟩
    case measure=>simp [intOf];omega
   ·have ec:(c != z)=true:=by simpa using hc
    go_wp2_with (go_at_call 81;fail)
    refine (ha).mono ?_
    rintro e w' ⟨rfl,rfl⟩
    go_wp2
    go_ret
    exact ⟨ret_bool (by rw [← HRR.out,HS.out];simp [hc]),hB⟩
  ·go_wp2
   go_ret
   exact ⟨ret_bool (by rw [← HRR.out,List.drop_eq_nil_of_le (by omega)];rfl),hB⟩
theorem comR_at {xs:List Int} {p:Nat} (h:p<xs.length):comR (xs.drop p)=if standsB [42,47] (xs.drop p)=true then xs.drop (p+2) else comR (xs.drop (p+1)):=by
 rw [drop_hd h,comR]
 have e:standsB [42,47] (hd xs p::xs.drop (p+1))=(hd xs p == 42 && (hd (xs.drop (p+1)) 0 == 47 && true)):=rfl
 rw [e,List.drop_drop]
 simp
theorem rcomment_any {w:World} {v:Value} {xs:List Int} (hv:RowAt .i32 w v xs) (fx:Fine xs) (i:Nat) (j:Int) (hj:j=i) (hi:i+2≤xs.length) :
  Calls Tryz.prog 41 #[v,.int .i64 j] w fun e w'=>∃ p:Nat,e=.returned (.int .i64 p)∧xs.drop p=comR (xs.drop (i+2))∧i+2≤p∧p≤xs.length∧Below w.heap.size w w':=by
 subst hj
 have hl:=fx.1
 obtain ⟨a,cap,rfl,hcap,hcs⟩:=hv
 have HH:Hid (RowAt .i32 w (.slice a xs.length cap) xs∧Fine xs):=And.intro ⟨a,cap,rfl,hcap,hcs⟩ fx
 clear fx hcs
 go_enter Tryz.func41,Tryz.ntmps41
 go_wp2
 go_loopw [1] (fun a1 wr=>∃ p:Nat,a1=.int .i64 p∧i+2≤p∧p≤xs.length∧comR (xs.drop p)=comR (xs.drop (i+2))∧Below w.heap.size w wr) (fun a1 _=>xs.length+1 - (intOf a1).toNat)
 case atStart=>exact ⟨i+2,by go_num,Nat.le_refl _,hi,rfl,Below.refl _ _⟩
 case round =>
  obtain ⟨p,rfl,hip,hp,hr,hB⟩:=hrel
  have HRR:Hid (comR (xs.drop p)=comR (xs.drop (i+2))):=hr
  clear hr
  by_cases hlt:p<xs.length
  ·have hst:=rstarts_any (w:=wr) ⟨#[42,47]⟩ [42,47] (by kernel_rfl) (by decide) (HH.out.1.below hB) HH.out.2 p p rfl hp
   have HC:=comR_at hlt
   have HCC:Hid (comR (xs.drop p)=if standsB [42,47] (xs.drop p)=true then xs.drop (p+2) else comR (xs.drop (p+1))):=HC
   clear HC
   cases hs:standsB [42,47] (xs.drop p)
   ·rw [hs] at hst
    have HS:Hid (standsB [42,47] (xs.drop p)=false):=hs
    clear hs
    go_wp2_with (go_at_call 40;fail)
    refine (hst).mono ?_
    rintro e w2 ⟨rfl,b2⟩
    go_wp2
    go_roundw
    case rel=>exact ⟨p+1,by go_num,by omega,by omega,by rw [← HRR.out,HCC.out,HS.out];simp,hB.trans (b2.mono hB.size)⟩
    case measure=>simp [intOf];omega
   ·rw [hs] at hst
    have h2:p+2≤xs.length:=by
     by_cases h:p+1<xs.length
     ·omega
     ·exfalso
      have e:standsB [42,47] (xs.drop p)=(hd (xs.drop p) 0 == 42 && (hd ((xs.drop p).drop 1) 0 == 47 && true)):=rfl
      rw [e,List.drop_drop,hd_drop,hd_drop,Nat.add_zero,Nat.add_zero,hd_end h] at hs
      simp at hs
    have HS:Hid (standsB [42,47] (xs.drop p)=true):=hs
    clear hs
    go_wp2_with (go_at_call 40;fail)
    refine (hst).mono ?_
    rintro e w2 ⟨rfl,b2⟩
    go_wp2
    go_ret
    exact ⟨p+2,rfl,by rw [← HRR.out,HCC.out,HS.out];simp,by omega,by omega,hB.trans (b2.mono hB.size)⟩
  ·go_wp2
   go_ret
   exact ⟨p,rfl,by rw [← HRR.out,List.drop_eq_nil_of_le (by omega)];rfl,hip,hp,hB⟩
theorem numbered_char {n:Int} (h0:0≤n):IsChar (numberedZ n):=by
 unfold numberedZ IsChar
 split <;> omega
theorem hexN_pos:∀ (k:Nat) (l:List Int) (n:Int),0≤n→0≤(hexN k l n).1
 | 0,_,_,h=>h
 | k+1,l,n,h=>by
   rw [hexN]
   split
   ·exact hexN_pos k _ _ (by omega)
   ·exact h
theorem escT_char {t:List Int} (ht:∀ c∈t,IsChar c):IsChar (escT t).1:=by
 unfold escT
 split
 ·exact ⟨by decide,by decide,by decide⟩
 ·split
  ·rename_i h0 _
   obtain ⟨c,r,rfl⟩:=List.exists_cons_of_ne_nil h0
   exact ht c (by simp)
  ·exact numbered_char (hexN_pos _ _ _ (by omega))
theorem nameT_stop {l:List Int} (hp:partZ (hd l 0)=false) (he:escB l=false):nameT l 0=[]∧nameR l 0=l:=by
 cases l with
 | nil=>exact ⟨rfl,rfl⟩
 | cons c t =>
   have hc:partZ c=false:=hp
   exact ⟨by rw [nameT,if_neg (by simp [hc]),if_neg (by simp [he])],by rw [nameR,if_neg (by simp [hc]),if_neg (by simp [he])]⟩
theorem nameT_part {c:Int} {t:List Int} (hp:partZ c=true):nameT (c::t) 0=c::nameT t 0∧nameR (c::t) 0=nameR t 0 :=
 ⟨by rw [nameT,if_pos hp],by rw [nameR,if_pos hp]⟩
theorem nameT_esc {c:Int} {t:List Int} (hp:partZ c=false) (he:escB (c::t)=true):nameT (c::t) 0=(escT t).1::nameT (t.drop (escT t).2) 0∧nameR (c::t) 0=nameR (t.drop (escT t).2) 0 :=
 ⟨by rw [nameT,if_neg (by simp [hp]),if_pos he,nameT_skip],by rw [nameR,if_neg (by simp [hp]),if_pos he,nameR_skip]⟩
theorem nums_two (a c:List Int):strOfNums (a++c)=strOfNums a++strOfNums c:=by
 apply ByteArray.ext
 show ((a++c).map _).toArray=_
 rw [ByteArray.data_append]
 simp [strOfNums]
theorem enc_eq {c:Int} (h:IsChar c):Utf8.encode c=strOfNums (Lib.encodeRuneZ c):=by
 obtain ⟨h0,h1,h2⟩:=h
 obtain ⟨n,rfl⟩:∃ n:Nat,c=n:=⟨c.toNat,by omega⟩
 have hv:Utf8.valid (n:Int)=true:=by
  unfold Utf8.valid
  simp
  omega
 unfold Utf8.encode
 simp only [hv,if_true]
 have e0:((n:Int)).toNat=n:=by omega
 rw [e0]
 by_cases a1:n<128
 ·rw [if_pos a1,Lib.encodeRuneZ_one (by omega) (by omega)]
  simp [strOfNums,e0]
 ·rw [if_neg a1]
  by_cases a2:n<2048
  ·rw [if_pos a2,Lib.encodeRuneZ_two (by omega) (by omega)]
   have b1:((192:Int)+n / 64).toNat=192+n / 64:=by omega
   have b2:((128:Int)+n % 64).toNat=128+n % 64:=by omega
   simp [strOfNums,b1,b2]
  ·rw [if_neg a2]
   by_cases a3:n<65536
   ·rw [if_pos a3,Lib.encodeRuneZ_three (by omega)]
    have b1:((224:Int)+n / 4096).toNat=224+n / 4096:=by omega
    have b2:((128:Int)+n / 64 % 64).toNat=128+n / 64 % 64:=by omega
    have b3:((128:Int)+n % 64).toNat=128+n % 64:=by omega
    simp [strOfNums,b1,b2,b3]
   ·rw [if_neg a3,Lib.encodeRuneZ_four (by omega) (by omega)]
    have b0:((240:Int)+n / 262144).toNat=240+n / 262144:=by omega
    have b1:((128:Int)+n / 4096 % 64).toNat=128+n / 4096 % 64:=by omega
    have b2:((128:Int)+n / 64 % 64).toNat=128+n / 64 % 64:=by omega
    have b3:((128:Int)+n % 64).toNat=128+n % 64:=by omega
    simp [strOfNums,b0,b1,b2,b3]
theorem runes_bytes:∀ (l:List Int) (s:List Int),(∀ c∈l,IsChar c)→l.foldl (fun r n=>r++Utf8.encode n) (strOfNums s)=strOfNums (s++bytesZ l)
 | [],s,_=>by simp [bytesZ]
 | c::r,s,h=>by
   rw [List.foldl_cons,enc_eq (h c (by simp)),← nums_two,runes_bytes r _ (fun d hd=>h d (by simp [hd])),List.append_assoc,bytesZ_cons]
theorem runesBytes_eq (l:List Int) (h:∀ c∈l,IsChar c):runesBytes l=strOfNums (bytesZ l):=by
 have:=runes_bytes l [] h
 rw [List.nil_append] at this
 exact this
def strT (l:List Int):ByteArray:=strOfNums (bytesZ l)
def tokCells (t:Tok):List Value:=[.int .i64 t.kind,.string (strT t.text),.string (strT t.unit),.bool t.whole,.bool t.flag]
def tokV (t:Tok):Value:=.agg #[.int .i64 t.kind,.string (strT t.text),.string (strT t.unit),.bool t.whole,.bool t.flag]
theorem hexN_len:∀ (k:Nat) (l:List Int) (n:Int),(hexN k l n).2≤l.length
 | 0,_,_=>Nat.zero_le _
 | k+1,[],n=>by simp [hexN,hd,hexZ]
 | k+1,c::t,n=>by
   rw [hexN]
   split
   ·have:=hexN_len k t (n * 16+hexZ (hd (c::t) 0))
    simp only [List.length_cons]
    exact Nat.succ_le_succ this
   ·exact Nat.zero_le _
theorem escT_len (t:List Int):(escT t).2≤t.length:=by
 unfold escT
 split
 ·exact Nat.zero_le _
 ·rename_i h0
  split
  ·exact List.length_pos_iff.2 h0
  ·have h1:=hexN_len 6 t 0
   simp only
   split
   ·rename_i hb
    by_cases h2:(hexN 6 t 0).2<t.length
    ·omega
    ·rw [hd_end h2] at hb
     exact absurd hb (by decide)
   ·exact h1
theorem conv_runes {w:World} {v:Value} {xs:List Int} (h:RowAt .i32 w v xs) (hc:∀ c∈xs,IsChar c):(convert 47 9 v).run Tryz.prog w=.ok (.string (strT xs)) w:=by
 obtain ⟨a,cap,rfl,hcap,hcell⟩:=h
 unfold strT
 rw [← runesBytes_eq xs hc]
 cases a with
 | none =>
   have h0:xs=[]:=by
    by_cases h:0<xs.length
    ·obtain ⟨b,off,e,_⟩:=hcell h
     cases e
    ·exact List.length_eq_zero_iff.1 (by omega)
   subst h0
   exact run_convert_runes_nil w 47 9 21 _ _ Tryz.underlying47 Tryz.underlying21 Tryz.underlying9
 | some ad =>
   have:=run_convert_runes w 47 9 21 ad xs.length cap xs (Nat.le_refl _) Tryz.underlying47 Tryz.underlying21 Tryz.underlying9 ?_
   ·rw [List.take_length] at this
    exact this
   ·intro j hj
    obtain ⟨b,off,e,q⟩:=hcell (by omega)
    cases e
    have e:(⟨b,off,none⟩:Addr).add j=⟨b,off+j,none⟩:=by unfold Addr.add;split <;> simp_all
    rw [e]
    exact q j hj
theorem name_part_at {xs:List Int} {p:Nat} (h:partZ (hd xs p)=true):p<xs.length∧nameT (xs.drop p) 0=hd xs p::nameT (xs.drop (p+1)) 0∧nameR (xs.drop p) 0=nameR (xs.drop (p+1)) 0:=by
 by_cases hp:p<xs.length
 ·rw [drop_hd hp]
  exact ⟨hp,nameT_part h⟩
 ·rw [hd_end hp] at h
  exact absurd h (by decide)
theorem escB_lt {xs:List Int} {p:Nat} (h:escB (xs.drop p)=true):p<xs.length∧hd xs p=92:=by
 unfold escB at h
 rw [hd_drop,hd_drop,Nat.add_zero,Bool.and_eq_true] at h
 have h1:hd xs p=92:=by simpa using h.1
 refine ⟨?_,h1⟩
 by_cases hp:p<xs.length
 ·exact hp
 ·rw [hd_end hp] at h1
  exact absurd h1 (by decide)
theorem name_esc_at {xs:List Int} {p:Nat} (hz:partZ (hd xs p)=false) (he:escB (xs.drop p)=true) :
  p+1+(escT (xs.drop (p+1))).2≤xs.length∧nameT (xs.drop p) 0=(escT (xs.drop (p+1))).1::nameT (xs.drop (p+1+(escT (xs.drop (p+1))).2)) 0∧nameR (xs.drop p) 0=nameR (xs.drop (p+1+(escT (xs.drop (p+1))).2)) 0:=by
 have hp:=(escB_lt he).1
 have hl:=escT_len (xs.drop (p+1))
 rw [List.length_drop] at hl
 rw [drop_hd hp] at he
 have:=nameT_esc hz he
 rw [List.drop_drop] at this
 rw [drop_hd hp]
 exact ⟨by omega,this⟩
theorem ret2_si {a c:ByteArray} {b d:Int} (h1:a=c) (h2:b=d):Ending.returned (.tuple #[.string a,.int .i64 b])=.returned (.tuple #[.string c,.int .i64 d]):=by rw [h1,h2]
theorem chars_snoc {acc:List Int} {c:Int} (h:∀ d∈acc,IsChar d) (hc:IsChar c):∀ d∈acc++[c],IsChar d:=by
 intro d hd
 rcases List.mem_append.1 hd with h1 | h1
 ·exact h d h1
 ·simp at h1
  subst h1
  exact hc
theorem ownsRow_row {w:World} {B:Nat} {v:Value} {xs:List Int} (h:w.ownsRow B 21 1 v xs.length (xs.map (Value.int .i32))):RowAt .i32 w v xs:=RowAt.own h
theorem rname_any {w:World} {v:Value} {xs:List Int} (hv:RowAt .i32 w v xs) (fx:Fine xs) (i:Nat) (j:Int) (hj:j=i) (hi:i≤xs.length) :
  Calls Tryz.prog 88 #[v,.int .i64 j] w fun e w'=>∃ p:Nat,e=.returned (.tuple #[.string (strT (nameT (xs.drop i) 0)),.int .i64 p])∧xs.drop p=nameR (xs.drop i) 0∧i≤p∧p≤xs.length∧Below w.heap.size w w':=by
 subst hj
 have hl:=fx.1
 obtain ⟨i0,hi0,hz0,hz1,hz2⟩:=info_parts Tryz.info21
 obtain ⟨a,cap,rfl,hcap,hcs⟩:=hv
 have HH:Hid (RowAt .i32 w (.slice a xs.length cap) xs∧Fine xs):=And.intro ⟨a,cap,rfl,hcap,hcs⟩ fx
 clear fx hcs
 go_enter Tryz.func88,Tryz.ntmps88
 go_wp2
 go_loopw [1,6] (fun a1 out wr=>∃ (p:Nat) (acc:List Int),a1=.int .i64 (p:Int)∧wr.ownsRow w.heap.size 21 1 out acc.length (acc.map (Value.int .i32))∧i≤p∧p≤xs.length∧Below w.heap.size w wr∧acc++nameT (xs.drop p) 0=nameT (xs.drop i) 0∧nameR (xs.drop p) 0=nameR (xs.drop i) 0∧acc.length≤p∧∀ c∈acc,IsChar c) (fun a1 _ _=>xs.length+1 - (intOf a1).toNat)
 case atStart=>exact ⟨i,[],rfl,World.ownsRow_nil _ _ _ _,Nat.le_refl _,hi,Below.refl _ _,rfl,rfl,Nat.zero_le _,by simp⟩
 case round =>
  obtain ⟨p,acc,rfl,hown,hip,hp,hB,hT,hR,hal,hch⟩:=hrel
  have HT:=hid_mk hT
  have HR:=hid_mk hR
  have HC:=hid_mk hch
  clear hT hR hch
  have hrow:=HH.out.1.below hB
  have ha:=rat_any hrow HH.out.2 p p rfl
  have hpt:=rpart_any (hd xs p) wr
  have hes:=resc_any hrow HH.out.2 p p rfl (by omega)
  cases hz:partZ (hd xs p)
  ·rw [hz] at hpt
   cases he:escB (xs.drop p)
   ·rw [he] at hes
    have hst:=nameT_stop (l:=xs.drop p) (by rw [hd_drop];exact hz) he
    have HA:Hid (nameT (xs.drop i) 0=acc):=by
     have:=HT.out
     rw [hst.1,List.append_nil] at this
     exact this.symm
    have HZ:=hid_mk hst.2
    have hcv:=conv_runes (ownsRow_row hown) HC.out
    clear hst hz he
    go_wp2_with (go_at_call 81;fail)
    refine (ha).mono ?_
    rintro e w' ⟨rfl,rfl⟩
    go_wp2_with (go_at_call 85;fail)
    refine (hpt).mono ?_
    rintro e w' ⟨rfl,rfl⟩
    go_wp2_with (go_at_call 86;fail)
    refine (hes).mono ?_
    rintro e w' ⟨rfl,rfl⟩
    go_wp2
    go_ret2
    exact ⟨p,ret2_si (by rw [HA.out]) rfl,by rw [← HR.out,HZ.out],hip,hp,hB⟩
   ·rw [he] at hes
    obtain ⟨hle,hT2,hR2⟩:=name_esc_at hz he
    have hlt:=(escB_lt he).1
    have hsc:=rescaped_any hrow HH.out.2 p p rfl hlt
    have HT2:=hid_mk hT2
    have HR2:=hid_mk hR2
    have HCH:=hid_mk (escT_char (t:=xs.drop (p+1)) (fun c hc=>HH.out.2.2 c (List.mem_of_mem_drop hc)))
    clear hz he hT2 hR2
    generalize escT (xs.drop (p+1))=ec at *
    obtain ⟨c,n⟩:=ec
    simp only at *
    go_wp2_with (go_at_call 81;fail)
    refine (ha).mono ?_
    rintro e w' ⟨rfl,rfl⟩
    go_wp2_with (go_at_call 85;fail)
    refine (hpt).mono ?_
    rintro e w' ⟨rfl,rfl⟩
    go_wp2_with (go_at_call 86;fail)
    refine (hes).mono ?_
    rintro e w' ⟨rfl,rfl⟩
    go_wp2_with (go_at_call 119;fail)
    refine (hsc).mono ?_
    rintro e w' ⟨rfl,rfl⟩
    go_wp2_with (at_builtin;go_must (refine wpList_append_own _ rfl _ _ 47 rfl w.heap.size 21 i0 (.int .i32 0) 1 4 Tryz.underlying47 hi0 hz0 hz1 hz2 rfl (by decide) _ _ _ rfl (hown.alloc _) ⟨wr.heap.size,0,none⟩ 1 1 [.int .i32 c] rfl rfl (cell_one_new _ _ _) (by intro u hu;simp at hu;subst hu;rfl) (by unfold maxLen;omega) (by omega) (by have:=hB.size;simp;omega) ?_);intro v' w5 hown5 hgrow5 _)
    go_roundw
    case rel=>exact ⟨p+1+n,acc++[c],by first | rfl | go_num,by simpa using hown5,by omega,hle,(hB.alloc hB.size _).grown hgrow5 (by have:=hB.size;simp;omega) (fun k hk=>(hown.lt k hk).1),by rw [← HT.out,HT2.out];simp,by rw [← HR.out,HR2.out],by simp;omega,chars_snoc HC.out HCH.out⟩
    case measure=>simp [intOf];omega
  ·rw [hz] at hpt
   obtain ⟨hlt,hT2,hR2⟩:=name_part_at hz
   obtain ⟨b,off,cap',hv',_,c0⟩:=row_cell hrow p hlt
   cases hv'
   have HT2:=hid_mk hT2
   have HR2:=hid_mk hR2
   have HCH:=hid_mk (HH.out.2.2 (hd xs p) (by have:=drop_hd hlt;exact List.mem_of_mem_drop (i:=p) (by rw [this];simp)))
   clear hz hT2 hR2 hes hrow
   generalize hd xs p=c at *
   go_wp2_with (go_at_call 81;fail)
   refine (ha).mono ?_
   rintro e w' ⟨rfl,rfl⟩
   go_wp2_with (go_at_call 85;fail)
   refine (hpt).mono ?_
   rintro e w' ⟨rfl,rfl⟩
   go_wp2_with (at_builtin;go_must (refine wpList_append_own _ rfl _ _ 47 rfl w.heap.size 21 i0 (.int .i32 0) 1 4 Tryz.underlying47 hi0 hz0 hz1 hz2 rfl (by decide) _ _ _ rfl (hown.alloc _) ⟨wr.heap.size,0,none⟩ 1 1 [.int .i32 c] rfl rfl (cell_one_new _ _ _) (by intro u hu;simp at hu;subst hu;rfl) (by unfold maxLen;omega) (by omega) (by have:=hB.size;simp;omega) ?_);intro v' w5 hown5 hgrow5 _)
   go_roundw
   case rel=>exact ⟨p+1,acc++[c],by first | rfl | go_num,by simpa using hown5,by omega,by omega,(hB.alloc hB.size _).grown hgrow5 (by have:=hB.size;simp;omega) (fun k hk=>(hown.lt k hk).1),by rw [← HT.out,HT2.out];simp,by rw [← HR.out,HR2.out],by simp;omega,chars_snoc HC.out HCH.out⟩
   case measure=>simp [intOf];omega
theorem badR_at {xs:List Int} {p:Nat} (h:p<xs.length):badR (xs.drop p) 0=if hd xs p=41 then xs.drop (p+1) else if escB (xs.drop p)=true then badR (xs.drop (p+1+(escT (xs.drop (p+1))).2)) 0 else badR (xs.drop (p+1)) 0:=by
 rw [drop_hd h,badR,badR_skip (xs.drop (p+1)) (escT (xs.drop (p+1))).2,List.drop_drop]
theorem rbad_any {w:World} {v:Value} {xs:List Int} (hv:RowAt .i32 w v xs) (fx:Fine xs) (i:Nat) (j:Int) (hj:j=i) (hi:i≤xs.length) :
  Calls Tryz.prog 140 #[v,.int .i64 j] w fun e w'=>∃ p:Nat,e=.returned (.tuple #[.agg #[.int .i64 8,.string ⟨#[]⟩,.string ⟨#[]⟩,.bool false,.bool false],.int .i64 p])∧xs.drop p=badR (xs.drop i) 0∧i≤p∧p≤xs.length∧Below w.heap.size w w':=by
 subst hj
 have hl:=fx.1
 obtain ⟨a,cap,rfl,hcap,hcs⟩:=hv
 have HH:Hid (RowAt .i32 w (.slice a xs.length cap) xs∧Fine xs):=And.intro ⟨a,cap,rfl,hcap,hcs⟩ fx
 clear fx hcs
 go_enter Tryz.func140,Tryz.ntmps140
 go_wp2
 go_loopw [1] (fun a1 wr=>∃ (p:Nat),a1=.int .i64 (p:Int)∧wr=w.alloc (.cells #[.int .i64 0,.string ⟨#[]⟩,.string ⟨#[]⟩,.bool false,.bool false] 65)∧i≤p∧p≤xs.length∧badR (xs.drop p) 0=badR (xs.drop i) 0) (fun a1 _=>xs.length+1 - (intOf a1).toNat)
 case atStart=>exact ⟨i,rfl,rfl,Nat.le_refl _,hi,rfl⟩
 case round =>
  obtain ⟨p,rfl,rfl,hip,hp,hR⟩:=hrel
  have HR:=hid_mk hR
  clear hR
  have hB0:Below w.heap.size w (w.alloc (.cells #[.int .i64 0,.string ⟨#[]⟩,.string ⟨#[]⟩,.bool false,.bool false] 65)):=(Below.refl _ _).alloc (Nat.le_refl _) _
  have hrow:=HH.out.1.below hB0
  by_cases hlt:p<xs.length
  ·have HA:=hid_mk (badR_at hlt)
   obtain ⟨b,off,cap',hv',_,c0⟩:=row_cell hrow p hlt
   cases hv'
   by_cases h41:hd xs p=41
   ·rw [h41] at c0
    go_wp2
    refine bodyPost_ret (v:=.tuple #[.agg #[.int .i64 8,.string ⟨#[]⟩,.string ⟨#[]⟩,.bool false,.bool false],.int .i64 ((p+1:Nat):Int)]) (by simp [results,Tryz.results140,go_sem]) rfl ⟨p+1,rfl,by rw [← HR.out,HA.out,if_pos h41],by omega,by omega,?_⟩
    exact (Below.refl _ _).alloc (Nat.le_refl _) _
   ·have e41:(hd xs p == 41)=false:=by simpa using h41
    have hes:=resc_any hrow HH.out.2 p p rfl (by omega)
    cases he:escB (xs.drop p)
    ·rw [he] at hes
     have HE:=hid_mk he
     have H41:=hid_mk h41
     clear he h41
     generalize hd xs p=c at *
     go_wp2_with (go_at_call 86;fail)
     refine (hes).mono ?_
     rintro e w' ⟨rfl,rfl⟩
     go_wp2
     go_roundw
     case rel=>exact ⟨p+1,by go_num,by first | rfl | trivial,by omega,by omega,by rw [← HR.out,HA.out,if_neg H41.out,if_neg (by rw [HE.out];decide)]⟩
     case measure=>simp [intOf];omega
    ·rw [he] at hes
     have hsc:=rescaped_any hrow HH.out.2 p p rfl hlt
     have hle:=escT_len (xs.drop (p+1))
     rw [List.length_drop] at hle
     have HE:=hid_mk he
     have H41:=hid_mk h41
     clear he h41
     generalize escT (xs.drop (p+1))=ec at *
     obtain ⟨d,n⟩:=ec
     simp only at *
     generalize hd xs p=c at *
     go_wp2_with (go_at_call 86;fail)
     refine (hes).mono ?_
     rintro e w' ⟨rfl,rfl⟩
     go_wp2_with (go_at_call 119;fail)
     refine (hsc).mono ?_
     rintro e w' ⟨rfl,rfl⟩
     go_wp2
     go_roundw
     case rel=>exact ⟨p+1+n,by first | rfl | go_num,by first | rfl | trivial,by omega,by omega,by rw [← HR.out,HA.out,if_neg H41.out,if_pos HE.out]⟩
     case measure=>simp [intOf];omega
  ·have HNIL:=hid_mk (List.drop_eq_nil_of_le (Nat.le_of_not_lt hlt))
   go_wp2
   refine bodyPost_ret (v:=.tuple #[.agg #[.int .i64 8,.string ⟨#[]⟩,.string ⟨#[]⟩,.bool false,.bool false],.int .i64 ((p:Nat):Int)]) (by simp [results,Tryz.results140,go_sem]) rfl ⟨p,rfl,by rw [← HR.out,HNIL.out];rfl,hip,hp,?_⟩
   exact (Below.refl _ _).alloc (Nat.le_refl _) _
end Go.Proofs.YtemlnblifkdenaaGreatDoor.Y
