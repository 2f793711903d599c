/- gouacheref04.Parse, whatever the values. -/
import Derived.Test.YtdneaeokljoijaaGreatDoorNTrimBoth
set_option maxRecDepth 100000
set_option maxHeartbeats 8000000
namespace Go.Proofs.YtdneaeokljoijaaGreatDoor.N
open Go.RowKit
theorem behind_steps (tl t u:ByteArray) (h0:0<tl.size) (et:trimZ tl=t) (eu:trimZ (t.extract 1 t.size)=u) :
  (t.size=0→behindR (bytesL tl)=(0,false)) ∧
  (∀ h1:0<t.size,¬ ((t[0]'h1).toNat=43∨(t[0]'h1).toNat=45)→behindR (bytesL tl)=(0,false)) ∧
  (∀ h1:0<t.size,((t[0]'h1).toNat=43∨(t[0]'h1).toNat=45) →
    (u.size=0→behindR (bytesL tl)=(0,false)) ∧
    (∀ h3:0<u.size,¬ (48≤(u[0]'h3).toNat∧(u[0]'h3).toNat≤57)→behindR (bytesL tl)=(0,false)) ∧
    (∀ h3:0<u.size,(48≤(u[0]'h3).toNat∧(u[0]'h3).toNat≤57)→behindR (bytesL tl)=intV (negB (t.extract 0 1++u)) (bytesL (bodyS (t.extract 0 1++u))))):=by
 have hne:bytesL tl≠[]:=fun h=>by have:=size_0.2 h;omega
 have ht:=trim_list tl
 have hv:behindR (bytesL tl)=if trimL (bytesL tl)=[]∨¬ ((trimL (bytesL tl)).headD 0=43∨(trimL (bytesL tl)).headD 0=45) then (0,false)
   else if trimL ((trimL (bytesL tl)).drop 1)=[]∨¬ (48≤(trimL ((trimL (bytesL tl)).drop 1)).headD 0∧(trimL ((trimL (bytesL tl)).drop 1)).headD 0≤57) then (0,false)
   else wholeL ((trimL (bytesL tl)).take 1++trimL ((trimL (bytesL tl)).drop 1)):=by
  unfold behindR
  rw [if_neg hne]
 rw [← ht,et] at hv
 clear ht et
 generalize behindR (bytesL tl)=bv at *
 have ht1:=bytesL_tail t 1
 have ht2:=trim_list (t.extract 1 t.size)
 rw [ht1,eu] at ht2
 rw [← ht2] at hv
 have hw:=whole_list (t.extract 0 1++u)
 rw [bytesL_append,bytesL_extract] at hw
 have e0:List.take (1 - 0) (List.drop 0 (bytesL t))=(bytesL t).take 1:=rfl
 rw [e0] at hw
 rw [hw]
 clear hw e0 eu
 have hd:∀ x:ByteArray,∀ h:0<x.size,(bytesL x).headD 0=((x[0]'h).toNat:Int)∧bytesL x≠[]:=by
  intro x h
  cases hx:bytesL x with
  | nil=>have:=size_0.2 hx;omega
  | cons c r =>
    obtain ⟨h0,hc⟩:=head_is hx
    exact ⟨hc.symm,by simp⟩
 refine ⟨fun h=>?_,fun h1 h=>?_,fun h1 h=>⟨fun h2=>?_,fun h3 h4=>?_,fun h3 h4=>?_⟩⟩
 ·rw [hv,if_pos (.inl (size_0.1 h))]
 ·rw [hv,if_pos (.inr (by rw [(hd t h1).1];omega))]
 ·rw [hv,if_neg (by rw [(hd t h1).1];rintro (q | q);exact (hd t h1).2 q;omega),if_pos (.inl (size_0.1 h2))]
 ·rw [hv,if_neg (by rw [(hd t h1).1];rintro (q | q);exact (hd t h1).2 q;omega),if_pos (.inr (by rw [(hd u h3).1];omega))]
 ·rw [hv,if_neg (by rw [(hd t h1).1];rintro (q | q);exact (hd t h1).2 q;omega),if_neg (by rw [(hd u h3).1];rintro (q | q);exact (hd u h3).2 q;omega)]
theorem int_ne0 {n:Nat} (h:0<n):((n:Int) == 0)=false:=by
 rw [Bool.eq_false_iff]
 intro h
 rw [beq_iff_eq] at h
 omega
theorem ne_empty {u:ByteArray} (h:0<u.size):u≠ByteArray.empty:=by
 rintro rfl
 exact absurd h (by decide)
theorem nAt_le:∀ l:List Int,nAt l≤l.length
 | []=>Nat.le_refl _
 | c::r=>by
   have:=nAt_le r
   rw [nAt]
   split
   ·omega
   ·rw [List.length_cons];omega
theorem nAt_before:∀ (l:List Int) (k:Nat),k<nAt l→l.getD k 0≠110
 | [],k,h=>by simp [nAt] at h
 | c::r,k,h=>by
   rw [nAt] at h
   split at h
   ·omega
   ·rename_i hc
    cases k with
    | zero=>exact hc
    | succ k=>exact nAt_before r k (by omega)
theorem nAt_is:∀ (l:List Int),nAt l<l.length→l.getD (nAt l) 0=110
 | [],h=>by simp [nAt] at h
 | c::r,h=>by
   rw [nAt] at h ⊢
   split
   ·rename_i hc
    exact hc
   ·rename_i hc
    rw [if_neg hc] at h
    exact nAt_is r (by rw [List.length_cons] at h;omega)
def readR (s:ByteArray):Int×Int×Bool:=if s=evenS then (2,0,true) else if s=oddS then (2,1,true) else saidL (bytesL s)
def parseR (g:Option (List Int)):Int×Int×Bool:=match g with
 | none=>(0,0,false)
 | some p=>readR (foldS (strOfNums (rightL (leftL p))))
theorem read_same (s:ByteArray):readR s=readT s:=by
 unfold readR readT
 rw [cut_said]
theorem parse_same (g:Option (List Int)):parseR g=parseT g:=by
 cases g with
 | none=>rfl
 | some p =>
   unfold parseR parseT
   simp only
   rw [read_same,trim_comm]
theorem next_of {l:List Int} {k:Nat} {hd tl:List Int} {x y:Int×Bool} (h0:(wholeL l).2=false) (hk:k=nAt l) (hl:k<l.length) (e1:l.take k=hd) (e2:l.drop (k+1)=tl) (hx:wholeL (headR hd)=x) (hy:behindR tl=y) :
  saidL l=if x.2=false then (0,0,false) else if y.2=false then (0,0,false) else (x.1,y.1,true):=by
 subst hk e1 e2 hx hy
 unfold saidL nextR
 rw [if_neg (by rw [h0];decide),if_neg (by omega)]
theorem next_none {l:List Int} {k:Nat} (h0:(wholeL l).2=false) (hk:k=nAt l) (hl:k=l.length):saidL l=(0,0,false):=by
 subst hk
 unfold saidL nextR
 rw [if_neg (by rw [h0];decide),if_pos hl]
theorem said_whole {l:List Int} {n:Int} (h0:wholeL l=(n,true)):saidL l=(0,n,true):=by
 unfold saidL
 rw [h0,if_pos rfl]
theorem rparse_any (W:World) (v:Value) (ts:List Tk) (hv:ValsAt W v ts) (hn:ts.length≤100000) (hsz:∀ t∈ts,t.tx.size+t.un.size≤2000000) :
  Calls Tryz.prog 111 #[v] W fun e w'=>e=.returned (.tuple #[.int .i64 (parseR (gathered ts)).1,.int .i64 (parseR (gathered ts)).2.1,.bool (parseR (gathered ts)).2.2])∧Below W.heap.size W w':=by
 have hw:=rwritten_any W v ts hv hn hsz
 have hl:=fun p h=>gathered_len ts p h hsz
 obtain ⟨a,cap,rfl,_⟩:=hv
 cases hg:gathered ts with
 | none =>
   rw [hg] at hw
   have e1:wrt2 none=(⟨#[]⟩,false):=rfl
   have e2:parseR none=(0,0,false):=rfl
   rw [e1] at hw
   rw [e2]
   simp only at hw ⊢
   clear e1 e2 hl hg hsz
   go_enter Tryz.func111,Tryz.ntmps111
   go_wp2_with (go_at_call 122;fail)
   refine (hw).mono ?_
   rintro e w1 ⟨rfl,b1⟩
   go_wp2
   go_ret3
   exact ⟨rfl,b1⟩
 | some p =>
   rw [hg] at hw
   have hpl:=hl p hg
   have HR:Hid (parseR (some p)=readR (foldS (strOfNums (rightL (leftL p))))):=rfl
   have hss:(foldS (strOfNums (rightL (leftL p)))).size≤900000000000:=by
    rw [foldS_size,strOf_size]
    exact Nat.le_trans (rightL_len _) (Nat.le_trans (leftL_len _) (by omega))
   have e1:wrt2 (some p)=(foldS (strOfNums (rightL (leftL p))),true):=rfl
   rw [e1] at hw
   simp only at hw
   generalize foldS (strOfNums (rightL (leftL p)))=s at *
   generalize parseR (some p)=pv at *
   clear e1 hl hg hsz hpl
   by_cases he:s=evenS
   ·have HV:Hid (pv=(2,0,true)):=by show _=_;rw [HR.out,readR,if_pos he]
    unfold evenS at he
    subst he
    clear HR
    go_enter Tryz.func111,Tryz.ntmps111
    go_wp2_with (go_at_call 122;fail)
    refine (hw).mono ?_
    rintro e w1 ⟨rfl,b1⟩
    go_wp2
    go_ret3
    exact ⟨ret3_p HV.out,b1⟩
   obtain ⟨y1,y2⟩:=(str_eqs s ⟨#[101,118,101,110]⟩ [101,118,101,110] (by rw [ByteArray.toList_eq])).2 he
   by_cases ho:s=oddS
   ·have HV:Hid (pv=(2,1,true)):=by show _=_;rw [HR.out,readR,if_neg he,if_pos ho]
    unfold oddS at ho
    subst ho
    clear HR y1 y2 he
    go_enter Tryz.func111,Tryz.ntmps111
    go_wp2_with (go_at_call 122;fail)
    refine (hw).mono ?_
    rintro e w1 ⟨rfl,b1⟩
    go_wp2
    go_ret3
    exact ⟨ret3_p HV.out,b1⟩
   obtain ⟨z1,z2⟩:=(str_eqs s ⟨#[111,100,100]⟩ [111,100,100] (by rw [ByteArray.toList_eq])).2 ho
   have HS:Hid (pv=saidL (bytesL s)):=by show _=_;rw [HR.out,readR,if_neg he,if_neg ho]
   clear HR he ho
   have hws:=fun w=>whole_any s (by omega) w
   rw [whole_list] at hws
   have HSZ:=hid_mk (bytesL_size s)
   have HGT:=hid_mk (fun p hp=>byte_at s p hp)
   have HTL:=hid_mk (fun i=>bytesL_tail s i)
   have HHD:Hid (∀ i,bytesL (s.extract 0 i)=(bytesL s).take i):=fun i=>by rw [bytesL_extract];rfl
   generalize hgl:bytesL s=l at *
   clear hgl
   generalize hwl:wholeL l=x at *
   obtain ⟨wn,wo⟩:=x
   simp only at hws
   cases wo
   case true =>
    have HV:Hid (pv=(0,wn,true)):=HS.out.trans (said_whole hwl)
    clear HS hwl
    go_enter Tryz.func111,Tryz.ntmps111
    go_wp2_with (go_at_call 122;fail)
    refine (hw).mono ?_
    rintro e w1 ⟨rfl,b1⟩
    go_wp2_with (go_at_call 123;fail)
    refine (hws _).mono ?_
    rintro e w' ⟨rfl,rfl⟩
    go_wp2
    go_ret3
    exact ⟨ret3_p HV.out,b1⟩
   have HW0:Hid ((wholeL l).2=false):=by show _=_;rw [hwl]
   have HNL:=hid_mk (nAt_le l)
   have HNB:=hid_mk (nAt_before l)
   have HNI:=hid_mk (nAt_is l)
   have HNN:=hid_mk (fun k (h1:k=nAt l) h2=>next_none HW0.out h1 h2)
   clear hwl
   go_enter Tryz.func111,Tryz.ntmps111
   go_wp2_with (go_at_call 122;fail)
   refine (hw).mono ?_
   rintro e w1 ⟨rfl,b1⟩
   go_wp2_with (go_at_call 123;fail)
   refine (hws _).mono ?_
   rintro e w' ⟨rfl,rfl⟩
   clear hws hw y1 y2 z1 z2
   go_wp2
   go_loop [9] (fun a9=>∃ k:Nat,a9=.int .i64 k∧k≤nAt l) (fun a9=>l.length+1 - (intOf a9).toNat)
   case atStart=>exact ⟨0,rfl,Nat.zero_le _⟩
   case round =>
    obtain ⟨k,rfl,hk⟩:=hrel
    have HNLk:=HNL.out
    have HSZk:=HSZ.out
    by_cases hlt:k<nAt l
    ·have hps:k<s.size:=by omega
     have HC:=hid_mk (HNB.out k hlt)
     have HGB:=hid_mk (HGT.out k hps)
     have y1:(((s[k]'hps).toNat:Int) != 110)=true:=by
      have h1:=HC.out
      rw [HGB.out] at h1
      simpa using h1
     clear HNLk
     generalize nAt l=na at *
     go_wp2
     go_round
     case rel=>exact ⟨k+1,by go_num,by omega⟩
     case measure=>simp [intOf];omega
    ·have hkn:k=nAt l:=by omega
     have HKN:=hid_mk hkn
     by_cases hend:k=s.size
     ·have HV:Hid (pv=(0,0,false)):=HS.out.trans (HNN.out k hkn (by omega))
      have hps:¬ k<s.size:=by omega
      clear HNN hkn HNLk hlt hk
      subst hend
      go_wp2
      go_ret3
      exact ⟨ret3_p HV.out,b1⟩
     ·have hps:k<s.size:=by omega
      have HC:Hid (l.getD k 0=110):=by
       have:=HNI.out (by omega)
       rw [← hkn] at this
       exact this
      have y1:(((s[k]'hps).toNat:Int) != 110)=false:=by
       have h1:=HC.out
       rw [HGT.out k hps] at h1
       simpa using h1
      have hks:((k:Int) == (s.size:Int))=false:=by simp;omega
      have HNX:Hid (∀ (hd tl:ByteArray),bytesL hd=l.take k→bytesL tl=l.drop (k+1)→∀ x,wholeL (headR (bytesL hd))=x→∀ y,behindR (bytesL tl)=y→pv=if x.2=false then (0,0,false) else if y.2=false then (0,0,false) else (x.1,y.1,true)):=by
       intro hd tl h1 h2 x hx y hy
       rw [HS.out]
       exact next_of HW0.out hkn (by omega) h1.symm h2.symm hx hy
      have HNX2:=hid_mk (HNX.out (s.extract 0 k) (s.extract (k+1) s.size) (HHD.out k) (HTL.out (k+1)))
      have htl:(s.extract (k+1) s.size).size≤1000000000000:=by simp;omega
      have hhd:(s.extract 0 k).size≤900000000000:=by simp;omega
      have hk1:(k:Int)+1≤(s.size:Int):=by omega
      have hk2:(k:Int)+1≤1000000000000:=by omega
      clear HNX HNN HC HNI HNB HNL HHD HTL HGT HS HW0 HSZ HKN hkn hk hlt HNLk HSZk hend
      have hk0:(0:Int)≤(k:Int):=by omega
      have hk3:(k:Int)≤(s.size:Int):=by omega
      go_wp2
      go_quiet (fail)
      generalize hgt:s.extract (k+1) s.size=tl at *
      generalize hgh:s.extract 0 k=hd at *
      clear y1
      generalize (s[k]'hps).toNat=ck at *
      have b1':∀ n,Below W.heap.size W (w1.drewN n):=fun n=>b1.trans (below_drewN3 _ _ _)
      by_cases g0:hd=⟨#[]⟩
      ·subst g0
       have HNX:Hid (∀ y,behindR (bytesL tl)=y→pv=if (wholeL (headR (bytesL ⟨#[]⟩))).2=false then (0,0,false) else if y.2=false then (0,0,false) else ((wholeL (headR (bytesL ⟨#[]⟩))).1,y.1,true)):=HNX2.out _ rfl
       clear HNX2
       generalize hx:wholeL (headR (bytesL ⟨#[]⟩))=x at *
       have hwx:=fun w=>whole_any (⟨#[49]⟩) (by decide) w
       rw [whole_list,show bytesL (⟨#[49]⟩)=headR (bytesL ⟨#[]⟩) from rfl,hx] at hwx
       obtain ⟨av,ao⟩:=x
       simp only at hwx
       clear hx
       cases ao
       ·have HR:Hid (pv=(0,0,false)):=(HNX.out _ rfl).trans rfl
        clear HNX htl
        go_wp2_with (go_at_call 123;fail)
        refine (hwx _).mono ?_
        rintro e w' ⟨rfl,rfl⟩
        go_wp2
        go_ret3
        exact ⟨ret3_p HR.out,b1' _⟩
       have HN:Hid (∀ y,behindR (bytesL tl)=y→pv=if y.2=false then (0,0,false) else (av,y.1,true)):=fun y hy=>(HNX.out y hy).trans (if_neg (show ¬ (true=false) by decide))
       clear HNX
       go_wp2_with (go_at_call 123;fail)
       refine (hwx _).mono ?_
       rintro e w' ⟨rfl,rfl⟩
       clear hwx
       by_cases ht0:tl.size=0
       ·have et:=empty_of ht0
        subst et
        have HR:Hid (pv=(av,0,true)):=HN.out (0,true) rfl
        clear HN
        go_wp2
        go_ret3
        exact ⟨ret3_p HR.out,b1' _⟩
       have ht1:0<tl.size:=by omega
       obtain ⟨n1,n2,n3⟩:=(empty_facts tl).2 ht1
       have hbt:=blank_any tl
       have hsz2:(trimZ tl).size≤1000000000000:=Nat.le_trans (trim_size tl) htl
       have HSS:=hid_mk (fun t u e1 e2=>behind_steps tl t u ht1 e1 e2)
       generalize behindR (bytesL tl)=bv at *
       generalize et2:trimZ tl=t2 at *
       have hbu:=blank_any (t2.extract 1 t2.size)
       have hsz3:(trimZ (t2.extract 1 t2.size)).size≤t2.size - 1:=Nat.le_trans (trim_size _) (by simp)
       generalize eu2:trimZ (t2.extract 1 t2.size)=u at *
       obtain ⟨s1,s2,s3⟩:=HSS.out t2 u rfl eu2
       have HS1:=hid_mk s1
       have HS2:=hid_mk s2
       have HS3:=hid_mk s3
       have hw2:t2.size≠0→∀ w,_:=fun h w=>whole_any (t2.extract 0 1++u) (by rw [ByteArray.size_append];simp;omega) w
       have hus:u.size≤1000000000000:=by omega
       have hts:(t2.extract 0 1).size≤1:=by simp;omega
       clear s1 s2 s3 ht0 HSS et2 eu2 hsz3 hsz2
       go_wp2_with (go_at_call 124;fail)
       refine (hbt _).mono ?_
       rintro e w' ⟨rfl,rfl⟩
       clear hbt n1 n2 n3
       by_cases hz2:t2.size=0
       ·have et:=empty_of hz2
        have HR:Hid (pv=(0,0,false)):=HN.out _ (HS1.out hz2)
        clear HN HS1 HS2 HS3 hbu hw2
        subst et
        go_wp2
        go_ret3
        exact ⟨ret3_p HR.out,b1' _⟩
       have h21:0<t2.size:=by omega
       obtain ⟨n1,n2,n3⟩:=(empty_facts t2).2 h21
       have hw3:=hw2 hz2
       clear hw2 hz2
       by_cases hsg:(t2[0]'h21).toNat=43∨(t2[0]'h21).toNat=45
       case neg =>
        have HR:Hid (pv=(0,0,false)):=HN.out _ (HS2.out h21 hsg)
        clear HN HS1 HS2 HS3 hbu hw3
        have y1:(((t2[0]'h21).toNat:Int) != 43)=true:=by simp;omega
        have y2:(((t2[0]'h21).toNat:Int) != 45)=true:=by simp;omega
        have y3:(((t2[0]'h21).toNat:Int) == 43)=false:=by simp;omega
        have y4:(((t2[0]'h21).toNat:Int) == 45)=false:=by simp;omega
        clear hsg
        go_wp2
        go_ret3
        exact ⟨ret3_p HR.out,b1' _⟩
       obtain ⟨s1,s2,s3⟩:=HS3.out h21 hsg
       have HS4:=hid_mk s1
       have HS5:=hid_mk s2
       have HS6:=hid_mk s3
       have h1i:(1:Int)≤(t2.size:Int):=by omega
       clear s1 s2 s3 HS1 HS2 HS3
       rcases hsg with h43 | h45
       ·have y1:(((t2[0]'h21).toNat:Int) != 43)=false:=by rw [h43];rfl
        have y3:(((t2[0]'h21).toNat:Int) == 43)=true:=by rw [h43];rfl
        clear h43
        go_wp2_with (go_at_call 124;fail)
        refine (hbu _).mono ?_
        rintro e w' ⟨rfl,rfl⟩
        clear hbu y1 y3
        generalize (t2[0]'h21).toNat=c2 at *
        by_cases hz3:u.size=0
        ·have et:=empty_of hz3
         have HR:Hid (pv=(0,0,false)):=HN.out _ (HS4.out hz3)
         clear HN HS4 HS5 HS6 hw3
         subst et
         go_wp2
         go_ret3
         exact ⟨ret3_p HR.out,b1' _⟩
        have h31:0<u.size:=by omega
        have hu0:((u.size:Int) == 0)=false:=int_ne0 h31
        clear hz3
        by_cases hd1:48≤(u[0]'h31).toNat
        ·have hc1:decide (((u[0]'h31).toNat:Int)<48)=false:=by simp;omega
         by_cases hd2:(u[0]'h31).toNat≤57
         ·have HE:=hid_mk (HN.out _ (HS6.out h31 ⟨hd1,hd2⟩))
          have hc2:decide ((57:Int)<((u[0]'h31).toNat:Int))=false:=by simp;omega
          clear hd1 hd2
          clear HN HS4 HS5 HS6
          generalize intV (negB (t2.extract 0 1++u)) (bytesL (bodyS (t2.extract 0 1++u)))=z at *
          obtain ⟨zb,zo⟩:=z
          simp only at hw3
          cases zo
          ·have HR:Hid (pv=(0,0,false)):=HE.out
           clear HE
           go_wp2_with (go_at_call 123;fail)
           refine (hw3 _).mono ?_
           rintro e w' ⟨rfl,rfl⟩
           go_wp2
           go_ret3
           exact ⟨ret3_p HR.out,b1' _⟩
          ·have HR:Hid (pv=(av,zb,true)):=HE.out
           clear HE
           go_wp2_with (go_at_call 123;fail)
           refine (hw3 _).mono ?_
           rintro e w' ⟨rfl,rfl⟩
           go_wp2
           go_ret3
           exact ⟨ret3_p HR.out,b1' _⟩
         ·have HR:Hid (pv=(0,0,false)):=HN.out _ (HS5.out h31 (by omega))
          have hc2:decide ((57:Int)<((u[0]'h31).toNat:Int))=true:=by simp;omega
          clear HN HS4 HS5 HS6 hw3 hd1 hd2
          go_wp2
          go_ret3
          exact ⟨ret3_p HR.out,b1' _⟩
        ·have HR:Hid (pv=(0,0,false)):=HN.out _ (HS5.out h31 (by omega))
         have hc1:decide (((u[0]'h31).toNat:Int)<48)=true:=by simp;omega
         clear HN HS4 HS5 HS6 hw3 hd1
         go_wp2
         go_ret3
         exact ⟨ret3_p HR.out,b1' _⟩
       ·have y1:(((t2[0]'h21).toNat:Int) != 43)=true:=by rw [h45];rfl
        have y3:(((t2[0]'h21).toNat:Int) == 43)=false:=by rw [h45];rfl
        have y2:(((t2[0]'h21).toNat:Int) != 45)=false:=by rw [h45];rfl
        have y4:(((t2[0]'h21).toNat:Int) == 45)=true:=by rw [h45];rfl
        clear h45
        go_wp2_with (go_at_call 124;fail)
        refine (hbu _).mono ?_
        rintro e w' ⟨rfl,rfl⟩
        clear hbu y1 y3 y2 y4
        generalize (t2[0]'h21).toNat=c2 at *
        by_cases hz3:u.size=0
        ·have et:=empty_of hz3
         have HR:Hid (pv=(0,0,false)):=HN.out _ (HS4.out hz3)
         clear HN HS4 HS5 HS6 hw3
         subst et
         go_wp2
         go_ret3
         exact ⟨ret3_p HR.out,b1' _⟩
        have h31:0<u.size:=by omega
        have hu0:((u.size:Int) == 0)=false:=int_ne0 h31
        clear hz3
        by_cases hd1:48≤(u[0]'h31).toNat
        ·have hc1:decide (((u[0]'h31).toNat:Int)<48)=false:=by simp;omega
         by_cases hd2:(u[0]'h31).toNat≤57
         ·have HE:=hid_mk (HN.out _ (HS6.out h31 ⟨hd1,hd2⟩))
          have hc2:decide ((57:Int)<((u[0]'h31).toNat:Int))=false:=by simp;omega
          clear hd1 hd2
          clear HN HS4 HS5 HS6
          generalize intV (negB (t2.extract 0 1++u)) (bytesL (bodyS (t2.extract 0 1++u)))=z at *
          obtain ⟨zb,zo⟩:=z
          simp only at hw3
          cases zo
          ·have HR:Hid (pv=(0,0,false)):=HE.out
           clear HE
           go_wp2_with (go_at_call 123;fail)
           refine (hw3 _).mono ?_
           rintro e w' ⟨rfl,rfl⟩
           go_wp2
           go_ret3
           exact ⟨ret3_p HR.out,b1' _⟩
          ·have HR:Hid (pv=(av,zb,true)):=HE.out
           clear HE
           go_wp2_with (go_at_call 123;fail)
           refine (hw3 _).mono ?_
           rintro e w' ⟨rfl,rfl⟩
           go_wp2
           go_ret3
           exact ⟨ret3_p HR.out,b1' _⟩
         ·have HR:Hid (pv=(0,0,false)):=HN.out _ (HS5.out h31 (by omega))
          have hc2:decide ((57:Int)<((u[0]'h31).toNat:Int))=true:=by simp;omega
          clear HN HS4 HS5 HS6 hw3 hd1 hd2
          go_wp2
          go_ret3
          exact ⟨ret3_p HR.out,b1' _⟩
        ·have HR:Hid (pv=(0,0,false)):=HN.out _ (HS5.out h31 (by omega))
         have hc1:decide (((u[0]'h31).toNat:Int)<48)=true:=by simp;omega
         clear HN HS4 HS5 HS6 hw3 hd1
         go_wp2
         go_ret3
         exact ⟨ret3_p HR.out,b1' _⟩
      by_cases g1:hd=⟨#[43]⟩
      ·subst g1
       clear g0
       have HNX:Hid (∀ y,behindR (bytesL tl)=y→pv=if (wholeL (headR (bytesL ⟨#[43]⟩))).2=false then (0,0,false) else if y.2=false then (0,0,false) else ((wholeL (headR (bytesL ⟨#[43]⟩))).1,y.1,true)):=HNX2.out _ rfl
       clear HNX2
       generalize hx:wholeL (headR (bytesL ⟨#[43]⟩))=x at *
       have hwx:=fun w=>whole_any (⟨#[43,49]⟩) (by decide) w
       rw [whole_list,show bytesL (⟨#[43,49]⟩)=headR (bytesL ⟨#[43]⟩) from rfl,hx] at hwx
       obtain ⟨av,ao⟩:=x
       simp only at hwx
       clear hx
       cases ao
       ·have HR:Hid (pv=(0,0,false)):=(HNX.out _ rfl).trans rfl
        clear HNX htl
        go_wp2_with (go_at_call 123;fail)
        refine (hwx _).mono ?_
        rintro e w' ⟨rfl,rfl⟩
        go_wp2
        go_ret3
        exact ⟨ret3_p HR.out,b1' _⟩
       have HN:Hid (∀ y,behindR (bytesL tl)=y→pv=if y.2=false then (0,0,false) else (av,y.1,true)):=fun y hy=>(HNX.out y hy).trans (if_neg (show ¬ (true=false) by decide))
       clear HNX
       go_wp2_with (go_at_call 123;fail)
       refine (hwx _).mono ?_
       rintro e w' ⟨rfl,rfl⟩
       clear hwx
       by_cases ht0:tl.size=0
       ·have et:=empty_of ht0
        subst et
        have HR:Hid (pv=(av,0,true)):=HN.out (0,true) rfl
        clear HN
        go_wp2
        go_ret3
        exact ⟨ret3_p HR.out,b1' _⟩
       have ht1:0<tl.size:=by omega
       obtain ⟨n1,n2,n3⟩:=(empty_facts tl).2 ht1
       have hbt:=blank_any tl
       have hsz2:(trimZ tl).size≤1000000000000:=Nat.le_trans (trim_size tl) htl
       have HSS:=hid_mk (fun t u e1 e2=>behind_steps tl t u ht1 e1 e2)
       generalize behindR (bytesL tl)=bv at *
       generalize et2:trimZ tl=t2 at *
       have hbu:=blank_any (t2.extract 1 t2.size)
       have hsz3:(trimZ (t2.extract 1 t2.size)).size≤t2.size - 1:=Nat.le_trans (trim_size _) (by simp)
       generalize eu2:trimZ (t2.extract 1 t2.size)=u at *
       obtain ⟨s1,s2,s3⟩:=HSS.out t2 u rfl eu2
       have HS1:=hid_mk s1
       have HS2:=hid_mk s2
       have HS3:=hid_mk s3
       have hw2:t2.size≠0→∀ w,_:=fun h w=>whole_any (t2.extract 0 1++u) (by rw [ByteArray.size_append];simp;omega) w
       have hus:u.size≤1000000000000:=by omega
       have hts:(t2.extract 0 1).size≤1:=by simp;omega
       clear s1 s2 s3 ht0 HSS et2 eu2 hsz3 hsz2
       go_wp2_with (go_at_call 124;fail)
       refine (hbt _).mono ?_
       rintro e w' ⟨rfl,rfl⟩
       clear hbt n1 n2 n3
       by_cases hz2:t2.size=0
       ·have et:=empty_of hz2
        have HR:Hid (pv=(0,0,false)):=HN.out _ (HS1.out hz2)
        clear HN HS1 HS2 HS3 hbu hw2
        subst et
        go_wp2
        go_ret3
        exact ⟨ret3_p HR.out,b1' _⟩
       have h21:0<t2.size:=by omega
       obtain ⟨n1,n2,n3⟩:=(empty_facts t2).2 h21
       have hw3:=hw2 hz2
       clear hw2 hz2
       by_cases hsg:(t2[0]'h21).toNat=43∨(t2[0]'h21).toNat=45
       case neg =>
        have HR:Hid (pv=(0,0,false)):=HN.out _ (HS2.out h21 hsg)
        clear HN HS1 HS2 HS3 hbu hw3
        have y1:(((t2[0]'h21).toNat:Int) != 43)=true:=by simp;omega
        have y2:(((t2[0]'h21).toNat:Int) != 45)=true:=by simp;omega
        have y3:(((t2[0]'h21).toNat:Int) == 43)=false:=by simp;omega
        have y4:(((t2[0]'h21).toNat:Int) == 45)=false:=by simp;omega
        clear hsg
        go_wp2
        go_ret3
        exact ⟨ret3_p HR.out,b1' _⟩
       obtain ⟨s1,s2,s3⟩:=HS3.out h21 hsg
       have HS4:=hid_mk s1
       have HS5:=hid_mk s2
       have HS6:=hid_mk s3
       have h1i:(1:Int)≤(t2.size:Int):=by omega
       clear s1 s2 s3 HS1 HS2 HS3
       rcases hsg with h43 | h45
       ·have y1:(((t2[0]'h21).toNat:Int) != 43)=false:=by rw [h43];rfl
        have y3:(((t2[0]'h21).toNat:Int) == 43)=true:=by rw [h43];rfl
        clear h43
        go_wp2_with (go_at_call 124;fail)
        refine (hbu _).mono ?_
        rintro e w' ⟨rfl,rfl⟩
        clear hbu y1 y3
        generalize (t2[0]'h21).toNat=c2 at *
        by_cases hz3:u.size=0
        ·have et:=empty_of hz3
         have HR:Hid (pv=(0,0,false)):=HN.out _ (HS4.out hz3)
         clear HN HS4 HS5 HS6 hw3
         subst et
         go_wp2
         go_ret3
         exact ⟨ret3_p HR.out,b1' _⟩
        have h31:0<u.size:=by omega
        have hu0:((u.size:Int) == 0)=false:=int_ne0 h31
        clear hz3
        by_cases hd1:48≤(u[0]'h31).toNat
        ·have hc1:decide (((u[0]'h31).toNat:Int)<48)=false:=by simp;omega
         by_cases hd2:(u[0]'h31).toNat≤57
         ·have HE:=hid_mk (HN.out _ (HS6.out h31 ⟨hd1,hd2⟩))
          have hc2:decide ((57:Int)<((u[0]'h31).toNat:Int))=false:=by simp;omega
          clear hd1 hd2
          clear HN HS4 HS5 HS6
          generalize intV (negB (t2.extract 0 1++u)) (bytesL (bodyS (t2.extract 0 1++u)))=z at *
          obtain ⟨zb,zo⟩:=z
          simp only at hw3
          cases zo
          ·have HR:Hid (pv=(0,0,false)):=HE.out
           clear HE
           go_wp2_with (go_at_call 123;fail)
           refine (hw3 _).mono ?_
           rintro e w' ⟨rfl,rfl⟩
           go_wp2
           go_ret3
           exact ⟨ret3_p HR.out,b1' _⟩
          ·have HR:Hid (pv=(av,zb,true)):=HE.out
           clear HE
           go_wp2_with (go_at_call 123;fail)
           refine (hw3 _).mono ?_
           rintro e w' ⟨rfl,rfl⟩
           go_wp2
           go_ret3
           exact ⟨ret3_p HR.out,b1' _⟩
         ·have HR:Hid (pv=(0,0,false)):=HN.out _ (HS5.out h31 (by omega))
          have hc2:decide ((57:Int)<((u[0]'h31).toNat:Int))=true:=by simp;omega
          clear HN HS4 HS5 HS6 hw3 hd1 hd2
          go_wp2
          go_ret3
          exact ⟨ret3_p HR.out,b1' _⟩
        ·have HR:Hid (pv=(0,0,false)):=HN.out _ (HS5.out h31 (by omega))
         have hc1:decide (((u[0]'h31).toNat:Int)<48)=true:=by simp;omega
         clear HN HS4 HS5 HS6 hw3 hd1
         go_wp2
         go_ret3
         exact ⟨ret3_p HR.out,b1' _⟩
       ·have y1:(((t2[0]'h21).toNat:Int) != 43)=true:=by rw [h45];rfl
        have y3:(((t2[0]'h21).toNat:Int) == 43)=false:=by rw [h45];rfl
        have y2:(((t2[0]'h21).toNat:Int) != 45)=false:=by rw [h45];rfl
        have y4:(((t2[0]'h21).toNat:Int) == 45)=true:=by rw [h45];rfl
        clear h45
        go_wp2_with (go_at_call 124;fail)
        refine (hbu _).mono ?_
        rintro e w' ⟨rfl,rfl⟩
        clear hbu y1 y3 y2 y4
        generalize (t2[0]'h21).toNat=c2 at *
        by_cases hz3:u.size=0
        ·have et:=empty_of hz3
         have HR:Hid (pv=(0,0,false)):=HN.out _ (HS4.out hz3)
         clear HN HS4 HS5 HS6 hw3
         subst et
         go_wp2
         go_ret3
         exact ⟨ret3_p HR.out,b1' _⟩
        have h31:0<u.size:=by omega
        have hu0:((u.size:Int) == 0)=false:=int_ne0 h31
        clear hz3
        by_cases hd1:48≤(u[0]'h31).toNat
        ·have hc1:decide (((u[0]'h31).toNat:Int)<48)=false:=by simp;omega
         by_cases hd2:(u[0]'h31).toNat≤57
         ·have HE:=hid_mk (HN.out _ (HS6.out h31 ⟨hd1,hd2⟩))
          have hc2:decide ((57:Int)<((u[0]'h31).toNat:Int))=false:=by simp;omega
          clear hd1 hd2
          clear HN HS4 HS5 HS6
          generalize intV (negB (t2.extract 0 1++u)) (bytesL (bodyS (t2.extract 0 1++u)))=z at *
          obtain ⟨zb,zo⟩:=z
          simp only at hw3
          cases zo
          ·have HR:Hid (pv=(0,0,false)):=HE.out
           clear HE
           go_wp2_with (go_at_call 123;fail)
           refine (hw3 _).mono ?_
           rintro e w' ⟨rfl,rfl⟩
           go_wp2
           go_ret3
           exact ⟨ret3_p HR.out,b1' _⟩
          ·have HR:Hid (pv=(av,zb,true)):=HE.out
           clear HE
           go_wp2_with (go_at_call 123;fail)
           refine (hw3 _).mono ?_
           rintro e w' ⟨rfl,rfl⟩
           go_wp2
           go_ret3
           exact ⟨ret3_p HR.out,b1' _⟩
         ·have HR:Hid (pv=(0,0,false)):=HN.out _ (HS5.out h31 (by omega))
          have hc2:decide ((57:Int)<((u[0]'h31).toNat:Int))=true:=by simp;omega
          clear HN HS4 HS5 HS6 hw3 hd1 hd2
          go_wp2
          go_ret3
          exact ⟨ret3_p HR.out,b1' _⟩
        ·have HR:Hid (pv=(0,0,false)):=HN.out _ (HS5.out h31 (by omega))
         have hc1:decide (((u[0]'h31).toNat:Int)<48)=true:=by simp;omega
         clear HN HS4 HS5 HS6 hw3 hd1
         go_wp2
         go_ret3
         exact ⟨ret3_p HR.out,b1' _⟩
      by_cases g2:hd=⟨#[45]⟩
      ·subst g2
       clear g0 g1
       have HNX:Hid (∀ y,behindR (bytesL tl)=y→pv=if (wholeL (headR (bytesL ⟨#[45]⟩))).2=false then (0,0,false) else if y.2=false then (0,0,false) else ((wholeL (headR (bytesL ⟨#[45]⟩))).1,y.1,true)):=HNX2.out _ rfl
       clear HNX2
       generalize hx:wholeL (headR (bytesL ⟨#[45]⟩))=x at *
       have hwx:=fun w=>whole_any (⟨#[45,49]⟩) (by decide) w
       rw [whole_list,show bytesL (⟨#[45,49]⟩)=headR (bytesL ⟨#[45]⟩) from rfl,hx] at hwx
       obtain ⟨av,ao⟩:=x
       simp only at hwx
       clear hx
       cases ao
       ·have HR:Hid (pv=(0,0,false)):=(HNX.out _ rfl).trans rfl
        clear HNX htl
        go_wp2_with (go_at_call 123;fail)
        refine (hwx _).mono ?_
        rintro e w' ⟨rfl,rfl⟩
        go_wp2
        go_ret3
        exact ⟨ret3_p HR.out,b1' _⟩
       have HN:Hid (∀ y,behindR (bytesL tl)=y→pv=if y.2=false then (0,0,false) else (av,y.1,true)):=fun y hy=>(HNX.out y hy).trans (if_neg (show ¬ (true=false) by decide))
       clear HNX
       go_wp2_with (go_at_call 123;fail)
       refine (hwx _).mono ?_
       rintro e w' ⟨rfl,rfl⟩
       clear hwx
       by_cases ht0:tl.size=0
       ·have et:=empty_of ht0
        subst et
        have HR:Hid (pv=(av,0,true)):=HN.out (0,true) rfl
        clear HN
        go_wp2
        go_ret3
        exact ⟨ret3_p HR.out,b1' _⟩
       have ht1:0<tl.size:=by omega
       obtain ⟨n1,n2,n3⟩:=(empty_facts tl).2 ht1
       have hbt:=blank_any tl
       have hsz2:(trimZ tl).size≤1000000000000:=Nat.le_trans (trim_size tl) htl
       have HSS:=hid_mk (fun t u e1 e2=>behind_steps tl t u ht1 e1 e2)
       generalize behindR (bytesL tl)=bv at *
       generalize et2:trimZ tl=t2 at *
       have hbu:=blank_any (t2.extract 1 t2.size)
       have hsz3:(trimZ (t2.extract 1 t2.size)).size≤t2.size - 1:=Nat.le_trans (trim_size _) (by simp)
       generalize eu2:trimZ (t2.extract 1 t2.size)=u at *
       obtain ⟨s1,s2,s3⟩:=HSS.out t2 u rfl eu2
       have HS1:=hid_mk s1
       have HS2:=hid_mk s2
       have HS3:=hid_mk s3
       have hw2:t2.size≠0→∀ w,_:=fun h w=>whole_any (t2.extract 0 1++u) (by rw [ByteArray.size_append];simp;omega) w
       have hus:u.size≤1000000000000:=by omega
       have hts:(t2.extract 0 1).size≤1:=by simp;omega
       clear s1 s2 s3 ht0 HSS et2 eu2 hsz3 hsz2
       go_wp2_with (go_at_call 124;fail)
       refine (hbt _).mono ?_
       rintro e w' ⟨rfl,rfl⟩
       clear hbt n1 n2 n3
       by_cases hz2:t2.size=0
       ·have et:=empty_of hz2
        have HR:Hid (pv=(0,0,false)):=HN.out _ (HS1.out hz2)
        clear HN HS1 HS2 HS3 hbu hw2
        subst et
        go_wp2
        go_ret3
        exact ⟨ret3_p HR.out,b1' _⟩
       have h21:0<t2.size:=by omega
       obtain ⟨n1,n2,n3⟩:=(empty_facts t2).2 h21
       have hw3:=hw2 hz2
       clear hw2 hz2
       by_cases hsg:(t2[0]'h21).toNat=43∨(t2[0]'h21).toNat=45
       case neg =>
        have HR:Hid (pv=(0,0,false)):=HN.out _ (HS2.out h21 hsg)
        clear HN HS1 HS2 HS3 hbu hw3
        have y1:(((t2[0]'h21).toNat:Int) != 43)=true:=by simp;omega
        have y2:(((t2[0]'h21).toNat:Int) != 45)=true:=by simp;omega
        have y3:(((t2[0]'h21).toNat:Int) == 43)=false:=by simp;omega
        have y4:(((t2[0]'h21).toNat:Int) == 45)=false:=by simp;omega
        clear hsg
        go_wp2
        go_ret3
        exact ⟨ret3_p HR.out,b1' _⟩
       obtain ⟨s1,s2,s3⟩:=HS3.out h21 hsg
       have HS4:=hid_mk s1
       have HS5:=hid_mk s2
       have HS6:=hid_mk s3
       have h1i:(1:Int)≤(t2.size:Int):=by omega
       clear s1 s2 s3 HS1 HS2 HS3
       rcases hsg with h43 | h45
       ·have y1:(((t2[0]'h21).toNat:Int) != 43)=false:=by rw [h43];rfl
        have y3:(((t2[0]'h21).toNat:Int) == 43)=true:=by rw [h43];rfl
        clear h43
        go_wp2_with (go_at_call 124;fail)
        refine (hbu _).mono ?_
        rintro e w' ⟨rfl,rfl⟩
        clear hbu y1 y3
        generalize (t2[0]'h21).toNat=c2 at *
        by_cases hz3:u.size=0
        ·have et:=empty_of hz3
         have HR:Hid (pv=(0,0,false)):=HN.out _ (HS4.out hz3)
         clear HN HS4 HS5 HS6 hw3
         subst et
         go_wp2
         go_ret3
         exact ⟨ret3_p HR.out,b1' _⟩
        have h31:0<u.size:=by omega
        have hu0:((u.size:Int) == 0)=false:=int_ne0 h31
        clear hz3
        by_cases hd1:48≤(u[0]'h31).toNat
        ·have hc1:decide (((u[0]'h31).toNat:Int)<48)=false:=by simp;omega
         by_cases hd2:(u[0]'h31).toNat≤57
         ·have HE:=hid_mk (HN.out _ (HS6.out h31 ⟨hd1,hd2⟩))
          have hc2:decide ((57:Int)<((u[0]'h31).toNat:Int))=false:=by simp;omega
          clear hd1 hd2
          clear HN HS4 HS5 HS6
          generalize intV (negB (t2.extract 0 1++u)) (bytesL (bodyS (t2.extract 0 1++u)))=z at *
          obtain ⟨zb,zo⟩:=z
          simp only at hw3
          cases zo
          ·have HR:Hid (pv=(0,0,false)):=HE.out
           clear HE
           go_wp2_with (go_at_call 123;fail)
           refine (hw3 _).mono ?_
           rintro e w' ⟨rfl,rfl⟩
           go_wp2
           go_ret3
           exact ⟨ret3_p HR.out,b1' _⟩
          ·have HR:Hid (pv=(av,zb,true)):=HE.out
           clear HE
           go_wp2_with (go_at_call 123;fail)
           refine (hw3 _).mono ?_
           rintro e w' ⟨rfl,rfl⟩
           go_wp2
           go_ret3
           exact ⟨ret3_p HR.out,b1' _⟩
         ·have HR:Hid (pv=(0,0,false)):=HN.out _ (HS5.out h31 (by omega))
          have hc2:decide ((57:Int)<((u[0]'h31).toNat:Int))=true:=by simp;omega
          clear HN HS4 HS5 HS6 hw3 hd1 hd2
          go_wp2
          go_ret3
          exact ⟨ret3_p HR.out,b1' _⟩
        ·have HR:Hid (pv=(0,0,false)):=HN.out _ (HS5.out h31 (by omega))
         have hc1:decide (((u[0]'h31).toNat:Int)<48)=true:=by simp;omega
         clear HN HS4 HS5 HS6 hw3 hd1
         go_wp2
         go_ret3
         exact ⟨ret3_p HR.out,b1' _⟩
       ·have y1:(((t2[0]'h21).toNat:Int) != 43)=true:=by rw [h45];rfl
        have y3:(((t2[0]'h21).toNat:Int) == 43)=false:=by rw [h45];rfl
        have y2:(((t2[0]'h21).toNat:Int) != 45)=false:=by rw [h45];rfl
        have y4:(((t2[0]'h21).toNat:Int) == 45)=true:=by rw [h45];rfl
        clear h45
        go_wp2_with (go_at_call 124;fail)
        refine (hbu _).mono ?_
        rintro e w' ⟨rfl,rfl⟩
        clear hbu y1 y3 y2 y4
        generalize (t2[0]'h21).toNat=c2 at *
        by_cases hz3:u.size=0
        ·have et:=empty_of hz3
         have HR:Hid (pv=(0,0,false)):=HN.out _ (HS4.out hz3)
         clear HN HS4 HS5 HS6 hw3
         subst et
         go_wp2
         go_ret3
         exact ⟨ret3_p HR.out,b1' _⟩
        have h31:0<u.size:=by omega
        have hu0:((u.size:Int) == 0)=false:=int_ne0 h31
        clear hz3
        by_cases hd1:48≤(u[0]'h31).toNat
        ·have hc1:decide (((u[0]'h31).toNat:Int)<48)=false:=by simp;omega
         by_cases hd2:(u[0]'h31).toNat≤57
         ·have HE:=hid_mk (HN.out _ (HS6.out h31 ⟨hd1,hd2⟩))
          have hc2:decide ((57:Int)<((u[0]'h31).toNat:Int))=false:=by simp;omega
          clear hd1 hd2
          clear HN HS4 HS5 HS6
          generalize intV (negB (t2.extract 0 1++u)) (bytesL (bodyS (t2.extract 0 1++u)))=z at *
          obtain ⟨zb,zo⟩:=z
          simp only at hw3
          cases zo
          ·have HR:Hid (pv=(0,0,false)):=HE.out
           clear HE
           go_wp2_with (go_at_call 123;fail)
           refine (hw3 _).mono ?_
           rintro e w' ⟨rfl,rfl⟩
           go_wp2
           go_ret3
           exact ⟨ret3_p HR.out,b1' _⟩
          ·have HR:Hid (pv=(av,zb,true)):=HE.out
           clear HE
           go_wp2_with (go_at_call 123;fail)
           refine (hw3 _).mono ?_
           rintro e w' ⟨rfl,rfl⟩
           go_wp2
           go_ret3
           exact ⟨ret3_p HR.out,b1' _⟩
         ·have HR:Hid (pv=(0,0,false)):=HN.out _ (HS5.out h31 (by omega))
          have hc2:decide ((57:Int)<((u[0]'h31).toNat:Int))=true:=by simp;omega
          clear HN HS4 HS5 HS6 hw3 hd1 hd2
          go_wp2
          go_ret3
          exact ⟨ret3_p HR.out,b1' _⟩
        ·have HR:Hid (pv=(0,0,false)):=HN.out _ (HS5.out h31 (by omega))
         have hc1:decide (((u[0]'h31).toNat:Int)<48)=true:=by simp;omega
         clear HN HS4 HS5 HS6 hw3 hd1
         go_wp2
         go_ret3
         exact ⟨ret3_p HR.out,b1' _⟩
      have HNX:Hid (∀ y,behindR (bytesL tl)=y→pv=if (wholeL (headR (bytesL hd))).2=false then (0,0,false) else if y.2=false then (0,0,false) else ((wholeL (headR (bytesL hd))).1,y.1,true)):=HNX2.out _ rfl
      clear HNX2
      obtain ⟨m1,m2⟩:=(str_eqs hd ⟨#[]⟩ [] (by rw [ByteArray.toList_eq])).2 g0
      obtain ⟨m3,m4⟩:=(str_eqs hd ⟨#[43]⟩ [43] (by rw [ByteArray.toList_eq])).2 g1
      obtain ⟨m5,m6⟩:=(str_eqs hd ⟨#[45]⟩ [45] (by rw [ByteArray.toList_eq])).2 g2
      have hhr:bytesL hd=headR (bytesL hd):=by
       unfold headR
       rw [if_neg]
       rintro (q | q | q)
       ·exact g0 (bytesL_ext q)
       ·exact g1 (bytesL_ext q)
       ·exact g2 (bytesL_ext q)
      clear g0 g1 g2
      generalize hx:wholeL (headR (bytesL hd))=x at *
      have hwx:=fun w=>whole_any (hd) (by omega) w
      rw [whole_list,show bytesL (hd)=headR (bytesL hd) from hhr,hx] at hwx
      obtain ⟨av,ao⟩:=x
      simp only at hwx
      clear hx
      cases ao
      ·have HR:Hid (pv=(0,0,false)):=(HNX.out _ rfl).trans rfl
       clear HNX htl
       go_wp2_with (go_at_call 123;fail)
       refine (hwx _).mono ?_
       rintro e w' ⟨rfl,rfl⟩
       go_wp2
       go_ret3
       exact ⟨ret3_p HR.out,b1' _⟩
      have HN:Hid (∀ y,behindR (bytesL tl)=y→pv=if y.2=false then (0,0,false) else (av,y.1,true)):=fun y hy=>(HNX.out y hy).trans (if_neg (show ¬ (true=false) by decide))
      clear HNX
      go_wp2_with (go_at_call 123;fail)
      refine (hwx _).mono ?_
      rintro e w' ⟨rfl,rfl⟩
      clear hwx
      by_cases ht0:tl.size=0
      ·have et:=empty_of ht0
       subst et
       have HR:Hid (pv=(av,0,true)):=HN.out (0,true) rfl
       clear HN
       go_wp2
       go_ret3
       exact ⟨ret3_p HR.out,b1' _⟩
      have ht1:0<tl.size:=by omega
      obtain ⟨n1,n2,n3⟩:=(empty_facts tl).2 ht1
      have hbt:=blank_any tl
      have hsz2:(trimZ tl).size≤1000000000000:=Nat.le_trans (trim_size tl) htl
      have HSS:=hid_mk (fun t u e1 e2=>behind_steps tl t u ht1 e1 e2)
      generalize behindR (bytesL tl)=bv at *
      generalize et2:trimZ tl=t2 at *
      have hbu:=blank_any (t2.extract 1 t2.size)
      have hsz3:(trimZ (t2.extract 1 t2.size)).size≤t2.size - 1:=Nat.le_trans (trim_size _) (by simp)
      generalize eu2:trimZ (t2.extract 1 t2.size)=u at *
      obtain ⟨s1,s2,s3⟩:=HSS.out t2 u rfl eu2
      have HS1:=hid_mk s1
      have HS2:=hid_mk s2
      have HS3:=hid_mk s3
      have hw2:t2.size≠0→∀ w,_:=fun h w=>whole_any (t2.extract 0 1++u) (by rw [ByteArray.size_append];simp;omega) w
      have hus:u.size≤1000000000000:=by omega
      have hts:(t2.extract 0 1).size≤1:=by simp;omega
      clear s1 s2 s3 ht0 HSS et2 eu2 hsz3 hsz2
      go_wp2_with (go_at_call 124;fail)
      refine (hbt _).mono ?_
      rintro e w' ⟨rfl,rfl⟩
      clear hbt n1 n2 n3
      by_cases hz2:t2.size=0
      ·have et:=empty_of hz2
       have HR:Hid (pv=(0,0,false)):=HN.out _ (HS1.out hz2)
       clear HN HS1 HS2 HS3 hbu hw2
       subst et
       go_wp2
       go_ret3
       exact ⟨ret3_p HR.out,b1' _⟩
      have h21:0<t2.size:=by omega
      obtain ⟨n1,n2,n3⟩:=(empty_facts t2).2 h21
      have hw3:=hw2 hz2
      clear hw2 hz2
      by_cases hsg:(t2[0]'h21).toNat=43∨(t2[0]'h21).toNat=45
      case neg =>
       have HR:Hid (pv=(0,0,false)):=HN.out _ (HS2.out h21 hsg)
       clear HN HS1 HS2 HS3 hbu hw3
       have y1:(((t2[0]'h21).toNat:Int) != 43)=true:=by simp;omega
       have y2:(((t2[0]'h21).toNat:Int) != 45)=true:=by simp;omega
       have y3:(((t2[0]'h21).toNat:Int) == 43)=false:=by simp;omega
       have y4:(((t2[0]'h21).toNat:Int) == 45)=false:=by simp;omega
       clear hsg
       go_wp2
       go_ret3
       exact ⟨ret3_p HR.out,b1' _⟩
      obtain ⟨s1,s2,s3⟩:=HS3.out h21 hsg
      have HS4:=hid_mk s1
      have HS5:=hid_mk s2
      have HS6:=hid_mk s3
      have h1i:(1:Int)≤(t2.size:Int):=by omega
      clear s1 s2 s3 HS1 HS2 HS3
      rcases hsg with h43 | h45
      ·have y1:(((t2[0]'h21).toNat:Int) != 43)=false:=by rw [h43];rfl
       have y3:(((t2[0]'h21).toNat:Int) == 43)=true:=by rw [h43];rfl
       clear h43
       go_wp2_with (go_at_call 124;fail)
       refine (hbu _).mono ?_
       rintro e w' ⟨rfl,rfl⟩
       clear hbu y1 y3
       generalize (t2[0]'h21).toNat=c2 at *
       by_cases hz3:u.size=0
       ·have et:=empty_of hz3
        have HR:Hid (pv=(0,0,false)):=HN.out _ (HS4.out hz3)
        clear HN HS4 HS5 HS6 hw3
        subst et
        go_wp2
        go_ret3
        exact ⟨ret3_p HR.out,b1' _⟩
       have h31:0<u.size:=by omega
       have hu0:((u.size:Int) == 0)=false:=int_ne0 h31
       clear hz3
       by_cases hd1:48≤(u[0]'h31).toNat
       ·have hc1:decide (((u[0]'h31).toNat:Int)<48)=false:=by simp;omega
        by_cases hd2:(u[0]'h31).toNat≤57
        ·have HE:=hid_mk (HN.out _ (HS6.out h31 ⟨hd1,hd2⟩))
         have hc2:decide ((57:Int)<((u[0]'h31).toNat:Int))=false:=by simp;omega
         clear hd1 hd2
         clear HN HS4 HS5 HS6
         generalize intV (negB (t2.extract 0 1++u)) (bytesL (bodyS (t2.extract 0 1++u)))=z at *
         obtain ⟨zb,zo⟩:=z
         simp only at hw3
         cases zo
         ·have HR:Hid (pv=(0,0,false)):=HE.out
          clear HE
          go_wp2_with (go_at_call 123;fail)
          refine (hw3 _).mono ?_
          rintro e w' ⟨rfl,rfl⟩
          go_wp2
          go_ret3
          exact ⟨ret3_p HR.out,b1' _⟩
         ·have HR:Hid (pv=(av,zb,true)):=HE.out
          clear HE
          go_wp2_with (go_at_call 123;fail)
          refine (hw3 _).mono ?_
          rintro e w' ⟨rfl,rfl⟩
          go_wp2
          go_ret3
          exact ⟨ret3_p HR.out,b1' _⟩
        ·have HR:Hid (pv=(0,0,false)):=HN.out _ (HS5.out h31 (by omega))
         have hc2:decide ((57:Int)<((u[0]'h31).toNat:Int))=true:=by simp;omega
         clear HN HS4 HS5 HS6 hw3 hd1 hd2
         go_wp2
         go_ret3
         exact ⟨ret3_p HR.out,b1' _⟩
       ·have HR:Hid (pv=(0,0,false)):=HN.out _ (HS5.out h31 (by omega))
        have hc1:decide (((u[0]'h31).toNat:Int)<48)=true:=by simp;omega
        clear HN HS4 HS5 HS6 hw3 hd1
        go_wp2
        go_ret3
        exact ⟨ret3_p HR.out,b1' _⟩
      ·have y1:(((t2[0]'h21).toNat:Int) != 43)=true:=by rw [h45];rfl
       have y3:(((t2[0]'h21).toNat:Int) == 43)=false:=by rw [h45];rfl
       have y2:(((t2[0]'h21).toNat:Int) != 45)=false:=by rw [h45];rfl
       have y4:(((t2[0]'h21).toNat:Int) == 45)=true:=by rw [h45];rfl
       clear h45
       go_wp2_with (go_at_call 124;fail)
       refine (hbu _).mono ?_
       rintro e w' ⟨rfl,rfl⟩
       clear hbu y1 y3 y2 y4
       generalize (t2[0]'h21).toNat=c2 at *
       by_cases hz3:u.size=0
       ·have et:=empty_of hz3
        have HR:Hid (pv=(0,0,false)):=HN.out _ (HS4.out hz3)
        clear HN HS4 HS5 HS6 hw3
        subst et
        go_wp2
        go_ret3
        exact ⟨ret3_p HR.out,b1' _⟩
       have h31:0<u.size:=by omega
       have hu0:((u.size:Int) == 0)=false:=int_ne0 h31
       clear hz3
       by_cases hd1:48≤(u[0]'h31).toNat
       ·have hc1:decide (((u[0]'h31).toNat:Int)<48)=false:=by simp;omega
        by_cases hd2:(u[0]'h31).toNat≤57
        ·have HE:=hid_mk (HN.out _ (HS6.out h31 ⟨hd1,hd2⟩))
         have hc2:decide ((57:Int)<((u[0]'h31).toNat:Int))=false:=by simp;omega
         clear hd1 hd2
         clear HN HS4 HS5 HS6
         generalize intV (negB (t2.extract 0 1++u)) (bytesL (bodyS (t2.extract 0 1++u)))=z at *
         obtain ⟨zb,zo⟩:=z
         simp only at hw3
         cases zo
         ·have HR:Hid (pv=(0,0,false)):=HE.out
          clear HE
          go_wp2_with (go_at_call 123;fail)
          refine (hw3 _).mono ?_
          rintro e w' ⟨rfl,rfl⟩
          go_wp2
          go_ret3
          exact ⟨ret3_p HR.out,b1' _⟩
         ·have HR:Hid (pv=(av,zb,true)):=HE.out
          clear HE
          go_wp2_with (go_at_call 123;fail)
          refine (hw3 _).mono ?_
          rintro e w' ⟨rfl,rfl⟩
          go_wp2
          go_ret3
          exact ⟨ret3_p HR.out,b1' _⟩
        ·have HR:Hid (pv=(0,0,false)):=HN.out _ (HS5.out h31 (by omega))
         have hc2:decide ((57:Int)<((u[0]'h31).toNat:Int))=true:=by simp;omega
         clear HN HS4 HS5 HS6 hw3 hd1 hd2
         go_wp2
         go_ret3
         exact ⟨ret3_p HR.out,b1' _⟩
       ·have HR:Hid (pv=(0,0,false)):=HN.out _ (HS5.out h31 (by omega))
        have hc1:decide (((u[0]'h31).toNat:Int)<48)=true:=by simp;omega
        clear HN HS4 HS5 HS6 hw3 hd1
        go_wp2
        go_ret3
        exact ⟨ret3_p HR.out,b1' _⟩
end Go.Proofs.YtdneaeokljoijaaGreatDoor.N
