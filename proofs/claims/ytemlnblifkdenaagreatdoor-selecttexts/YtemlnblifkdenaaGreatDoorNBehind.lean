/- nth.cutBehind, whatever the text. -/
import Derived.Test.YtemlnblifkdenaaGreatDoorLTl
import Derived.Test.YtemlnblifkdenaaGreatDoorRows
import Derived.WalkKit
import Derived.WalkLawsBesides
import Derived.IntWalk
import Derived.WalkSmall
import Derived.WalkMore
import Derived.Laws.IdiomStrings
import Derived.WalkSpells
import Derived.Laws.BytesArg
import Derived.Laws.Cover4
import Derived.Shelf.Strconv.Itoa3
import Derived.Shelf.Lay
import Derived.Lib.AppendIntMem
import Derived.Lib.DecodeN
import Derived.Lib.OthersKept
import Derived.BigQuiet
import Derived.Deep.QuietTactic
import Derived.Lib.RuneCount
import Derived.OwnWalk
set_option maxRecDepth 100000
set_option maxHeartbeats 8000000
namespace Go.Proofs.YtemlnblifkdenaaGreatDoor.L
open Go.RowKit
def nthS (k:Int):S6:=⟨k,⟨#[]⟩,0,⟨#[]⟩,0,1⟩
def stL (nm:ByteArray):Option (List S6×Nat) :=
 if (nm.toList == [102,105,114,115,116,45,99,104,105,108,100])=true then some ([nthS 8],2) else if (nm.toList == [108,97,115,116,45,99,104,105,108,100])=true then some ([nthS 9],2) else if (nm.toList == [111,110,108,121,45,99,104,105,108,100])=true then some ([nthS 8,nthS 9],2)
 else if numZ 2 nm=10∨numZ 2 nm=11 then some ([⟨numZ 2 nm,⟨#[]⟩,0,⟨#[]⟩,0,0⟩],2) else none
def stateR (vs:List V):Option (List S6×Nat):=match vs[1]? with
 | some u=>if (ahd vs 0 16 && ahd vs 1 1)=true then stL (foldS u.tok.tx) else none
 | none=>none
theorem stateR_no {vs:List V} (h:(ahd vs 0 16 && ahd vs 1 1)=false):stateR vs=none:=by
 unfold stateR
 cases vs[1]? with
 | none=>rfl
 | some u=>simp only [];rw [if_neg (by rw [h];decide)]
theorem state_any {W:World} {lo b:Nat} {kids:Value} {vs:List V} (h:Rd lo W b kids vs W) (hsg:Signs W) (hz:∀ v∈vs,v.tok.tx.size≤1000000000000) :
  Calls Tryz.prog 147 #[.pointer (some ⟨b,0,none⟩)] W (Way lo W b kids vs (stateR vs)):=by
 have ha:=ahead_any h 0 16
 have ha2:=ahead_any h 1 1
 cases hk1:ahd vs 0 16 with
 | false =>
   rw [stateR_no (by rw [hk1];rfl)]
   rw [hk1] at ha
   clear h hsg hz hk1 ha2
   go_enter Tryz.func147,Tryz.ntmps147
   go_wp2_with (go_at_call 48;fail)
   refine ha.mono ?_
   rintro e w1 ⟨rfl,rfl⟩
   clear ha
   go_wp2
   go_ret
   exact ⟨rfl,Below.refl _ _⟩
 | true =>
 cases hk2:ahd vs 1 1 with
 | false =>
   rw [stateR_no (by rw [hk1,hk2];rfl)]
   rw [hk1] at ha
   rw [hk2] at ha2
   clear h hsg hz hk1 hk2
   go_enter Tryz.func147,Tryz.ntmps147
   go_wp2_with (go_at_call 48;fail)
   refine ha.mono ?_
   rintro e w1 ⟨rfl,rfl⟩
   clear ha
   go_wp2_with (go_at_call 48;fail)
   refine ha2.mono ?_
   rintro e w1 ⟨rfl,rfl⟩
   clear ha2
   go_wp2
   go_ret
   exact ⟨rfl,Below.refl _ _⟩
 | true =>
 obtain ⟨u,hu⟩:=ahd_some hk2
 have hlen:2≤vs.length:=(List.getElem?_eq_some_iff.1 hu).1
 have HE0:Hid (stateR vs=stL (foldS u.tok.tx)):=by
  rw [Hid]
  unfold stateR
  rw [hu]
  simp only [hk1,hk2,Bool.and_self,if_true]
 have hus:u.tok.tx.size≤1000000000000:=hz u (List.mem_of_getElem? hu)
 obtain ⟨a,n,cap,hn,hc1,hc2,h1,_,hs⟩:=h.see
 have c0:W.cell? ⟨b,0,none⟩=some (.slice a n cap):=cellAt h1 0
 obtain ⟨hl,g,off,kv,rfl,q0,q1,q4,q5,hkv⟩:=hs 1 u hu
 rw [Nat.one_mul] at q0 q1 q4 q5
 have hfo:=fold_any u.tok.tx W hus
 have HT:Hid (∀ l w3,Below W.heap.size W w3→l.length≤10→Calls Tryz.prog 143 #[.pointer (some ⟨b,0,none⟩),.int .i64 2,.slice (some ⟨w3.heap.size,0,none⟩) l.length l.length] (w3.alloc (.cells (ssC l).toArray 39)) (Way lo W b kids vs (some (l,2)))):=fun l w3 hB hl=>told_lit h l 2 hlen hl w3 hB
 have HN:Hid (∀ nm w3,Below W.heap.size W w3→Calls Tryz.prog 127 #[.int .i64 2,.string nm] w3 fun e w'=>e=.returned (.int .i64 (numZ 2 nm))∧Below w3.heap.size w3 w'):=fun nm w3 hB=>number_any (hsg.keep hB) 2 nm
 rw [HE0.out]
 rw [hk1] at ha
 rw [hk2] at ha2
 generalize foldS u.tok.tx=nm at *
 clear h h1 hs hn hk1 hk2 q0 q4 q5 hkv hu hz HE0 hsg
 go_enter Tryz.func147,Tryz.ntmps147
 go_wp2_with (go_at_call 48;fail)
 refine ha.mono ?_
 rintro e w1 ⟨rfl,rfl⟩
 clear ha
 go_wp2_with (go_at_call 48;fail)
 refine ha2.mono ?_
 rintro e w1 ⟨rfl,rfl⟩
 clear ha2
 go_wp2_with (go_at_call 70;fail)
 refine hfo.mono ?_
 rintro e w2 ⟨rfl,hB2⟩
 obtain ⟨W3,hW3⟩:∃ W3,W3=(w2.alloc (.cells #[.int .i64 8,.string ⟨#[]⟩,.int .i64 0,.string ⟨#[]⟩,.int .i64 0,.int .i64 1,.slice none 0 0] 39)).alloc (.cells #[.int .i64 9,.string ⟨#[]⟩,.int .i64 0,.string ⟨#[]⟩,.int .i64 0,.int .i64 1,.slice none 0 0] 39):=⟨_,rfl⟩
 have HB3:Hid (Below w1.heap.size w1 W3):=by rw [Hid,hW3];exact (hB2.alloc hB2.size _).alloc (by have:=hB2.size;simp;omega) _
 have x8:W3.heap[w2.heap.size]? = some (.cells #[.int .i64 8,.string ⟨#[]⟩,.int .i64 0,.string ⟨#[]⟩,.int .i64 0,.int .i64 1,.slice none 0 0] 39 (0,0)):=by
  rw [hW3,Below.heap_alloc _ _ _ (by simp)]
  exact heap_alloc_last w2 _
 have x9:W3.heap[w2.heap.size+1]? = some (.cells #[.int .i64 9,.string ⟨#[]⟩,.int .i64 0,.string ⟨#[]⟩,.int .i64 0,.int .i64 1,.slice none 0 0] 39 (0,0)):=by
  have e:w2.heap.size+1=(w2.alloc (.cells #[.int .i64 8,.string ⟨#[]⟩,.int .i64 0,.string ⟨#[]⟩,.int .i64 0,.int .i64 1,.slice none 0 0] 39)).heap.size:=by simp
  rw [hW3,e]
  exact heap_alloc_last _ _
 have HW3:=hid_mk hW3
 clear hfo hB2 q1 c0 hW3
 go_upto_if 27 with (fail)
 rw [← HW3.out]
 clear HW3
 have a0:=cellAt x8 0
 have a1:=cellAt x8 1
 have a2:=cellAt x8 2
 have a3:=cellAt x8 3
 have a4:=cellAt x8 4
 have a5:=cellAt x8 5
 have a6:=cellAt x8 6
 have b0:=cellAt x9 0
 have b1:=cellAt x9 1
 have b2:=cellAt x9 2
 have b3:=cellAt x9 3
 have b4:=cellAt x9 4
 have b5:=cellAt x9 5
 have b6:=cellAt x9 6
 clear x8 x9
 cases t1:(nm.toList == [102,105,114,115,116,45,99,104,105,108,100]) with
 | true =>
   have HE:Hid (stL nm=some ([nthS 8],2)):=by rw [Hid,stL,if_pos t1]
   clear t1
   have htl:=HT.out [nthS 8] W3 HB3.out (by decide)
   rw [show (ssC [nthS 8]).toArray=#[.int .i64 8,.string ⟨#[]⟩,.int .i64 0,.string ⟨#[]⟩,.int .i64 0,.int .i64 1,.slice none 0 0] from rfl] at htl
   clear HT HN
   go_wp2_with (go_at_call 143;fail)
   refine htl.mono ?_
   rintro e w5 ⟨v',rfl,ho,hr⟩
   have HZ:Hid (Way lo w1 b kids vs (some ([nthS 8],2)) (.returned v') w5):=⟨v',rfl,ho,hr⟩
   clear htl ho hr
   go_wp2
   go_ret
   rw [HE.out]
   exact HZ.out
 | false =>
 cases t2:(nm.toList == [108,97,115,116,45,99,104,105,108,100]) with
 | true =>
   have HE:Hid (stL nm=some ([nthS 9],2)):=by rw [Hid,stL,if_neg (by rw [t1];decide),if_pos t2]
   clear t1
   have htl:=HT.out [nthS 9] W3 HB3.out (by decide)
   rw [show (ssC [nthS 9]).toArray=#[.int .i64 9,.string ⟨#[]⟩,.int .i64 0,.string ⟨#[]⟩,.int .i64 0,.int .i64 1,.slice none 0 0] from rfl] at htl
   clear HT HN
   go_wp2_with (go_at_call 143;fail)
   refine htl.mono ?_
   rintro e w5 ⟨v',rfl,ho,hr⟩
   have HZ:Hid (Way lo w1 b kids vs (some ([nthS 9],2)) (.returned v') w5):=⟨v',rfl,ho,hr⟩
   clear htl ho hr
   go_wp2
   go_ret
   rw [HE.out]
   exact HZ.out
 | false =>
 cases t3:(nm.toList == [111,110,108,121,45,99,104,105,108,100]) with
 | true =>
   have HE:Hid (stL nm=some ([nthS 8,nthS 9],2)):=by rw [Hid,stL,if_neg (by rw [t1];decide),if_neg (by rw [t2];decide),if_pos t3]
   clear t1
   have htl:=HT.out [nthS 8,nthS 9] W3 HB3.out (by decide)
   rw [show (ssC [nthS 8,nthS 9]).toArray=#[.int .i64 8,.string ⟨#[]⟩,.int .i64 0,.string ⟨#[]⟩,.int .i64 0,.int .i64 1,.slice none 0 0,.int .i64 9,.string ⟨#[]⟩,.int .i64 0,.string ⟨#[]⟩,.int .i64 0,.int .i64 1,.slice none 0 0] from rfl] at htl
   clear HT HN
   go_wp2_with (go_at_call 143;fail)
   refine htl.mono ?_
   rintro e w5 ⟨v',rfl,ho,hr⟩
   have HZ:Hid (Way lo w1 b kids vs (some ([nthS 8,nthS 9],2)) (.returned v') w5):=⟨v',rfl,ho,hr⟩
   clear htl ho hr
   go_wp2
   go_ret
   rw [HE.out]
   exact HZ.out
 | false =>
 have HE0:Hid (stL nm=if numZ 2 nm=10∨numZ 2 nm=11 then some ([⟨numZ 2 nm,⟨#[]⟩,0,⟨#[]⟩,0,0⟩],2) else none):=by rw [Hid,stL,if_neg (by rw [t1];decide),if_neg (by rw [t2];decide),if_neg (by rw [t3];decide)]
 have hnu:=HN.out nm W3 HB3.out
 generalize numZ 2 nm=z at *
 clear t1 HN a0 a1 a2 a3 a4 a5 a6 b0 b1 b2 b3 b4 b5 b6
 go_wp2_with (go_at_call 127;fail)
 refine hnu.mono ?_
 rintro e w4 ⟨rfl,hB4⟩
 have HB4:Hid (Below w1.heap.size w1 w4):=HB3.out.trans (hB4.mono HB3.out.size)
 clear hnu hB4 HB3
 by_cases hz:z=10∨z=11
 ·have HE:Hid (stL nm=some ([⟨z,⟨#[]⟩,0,⟨#[]⟩,0,0⟩],2)):=by rw [Hid,HE0.out,if_pos hz]
  have htl:=HT.out [⟨z,⟨#[]⟩,0,⟨#[]⟩,0,0⟩] w4 HB4.out (by simp)
  rw [show (ssC [⟨z,⟨#[]⟩,0,⟨#[]⟩,0,0⟩]).toArray=#[.int .i64 z,.string ⟨#[]⟩,.int .i64 0,.string ⟨#[]⟩,.int .i64 0,.int .i64 0,.slice none 0 0] from rfl] at htl
  clear HE0 HT
  rcases hz with hz | hz
  ·have n1:(z != 10)=false:=by rw [hz];rfl
   have HZ0:=hid_mk hz
   clear hz
   go_wp2_with (go_at_call 143;fail)
   refine htl.mono ?_
   rintro e w5 ⟨v',rfl,ho,hr⟩
   have HZ:Hid (Way lo w1 b kids vs (some ([⟨z,⟨#[]⟩,0,⟨#[]⟩,0,0⟩],2)) (.returned v') w5):=⟨v',rfl,ho,hr⟩
   clear htl ho hr
   go_wp2
   go_ret
   rw [HE.out]
   exact HZ.out
  ·have n1:(z != 10)=true:=by rw [hz];rfl
   have n2:(z != 11)=false:=by rw [hz];rfl
   have HZ0:=hid_mk hz
   clear hz
   go_wp2_with (go_at_call 143;fail)
   refine htl.mono ?_
   rintro e w5 ⟨v',rfl,ho,hr⟩
   have HZ:Hid (Way lo w1 b kids vs (some ([⟨z,⟨#[]⟩,0,⟨#[]⟩,0,0⟩],2)) (.returned v') w5):=⟨v',rfl,ho,hr⟩
   clear htl ho hr
   go_wp2
   go_ret
   rw [HE.out]
   exact HZ.out
 ·have HE:Hid (stL nm=none):=by rw [Hid,HE0.out,if_neg hz]
  have n1:(z != 10)=true:=bne_iff_ne.2 fun h=>hz (.inl h)
  have n2:(z != 11)=true:=bne_iff_ne.2 fun h=>hz (.inr h)
  clear hz HE0 HT
  go_wp2
  go_ret
  rw [HE.out]
  exact ⟨rfl,HB4.out⟩
def cbN (us:List V):Int:=match us[0]? with
 | some u=>if ahd us 0 9=true then numZ 0 u.tok.tx else 0
 | none=>0
def cbE (was:Bool) (us:List V):Int:=if was=true∧us≠[]∧ahd us 0 18=false then 1 else 0
def combR (vs:List V):Int×List V:=if cbN (spc vs)≠0 then (cbN (spc vs),spc ((spc vs).drop 1)) else (cbE (ahd vs 0 13) (spc vs),spc vs)
theorem comb_any {W:World} {lo b:Nat} {kids:Value} {vs:List V} (h:Rd lo W b kids vs W) (hsg:Signs W) (hb:b≠sgB) :
  Calls Tryz.prog 99 #[.pointer (some ⟨b,0,none⟩)] W fun e w'=>e=.returned (.int .i64 (combR vs).1)∧Rd lo W b kids (combR vs).2 w':=by
 have hsp:=spaces_any h
 have HSG:Hid (∀ w',KeepX b W w'→Signs w'):=fun w' hk=>hsg.keepX hk hb
 have HC:Hid (combR vs=if cbN (spc vs)≠0 then (cbN (spc vs),spc ((spc vs).drop 1)) else (cbE (ahd vs 0 13) (spc vs),spc vs)):=rfl
 generalize ahd vs 0 13=was at *
 generalize combR vs=R at *
 generalize spc vs=us at *
 clear h hsg
 go_enter Tryz.func99,Tryz.ntmps99
 go_wp2_with (go_at_call 46;fail)
 refine hsp.mono ?_
 rintro e w1 ⟨rfl,hR1⟩
 have ha:=ahead_any hR1 0 9
 have HR1:=hid_mk hR1
 have hS1:=HSG.out w1 hR1.keep
 clear hsp hR1 HSG
 go_wp2_with (go_at_call 48;fail)
 refine ha.mono ?_
 rintro e wa ⟨rfl,rfl⟩
 clear ha
 cases hk:ahd us 0 9 with
 | true =>
   obtain ⟨u,hu⟩:=ahd_some hk
   have HN:Hid (cbN us=numZ 0 u.tok.tx):=by rw [Hid];unfold cbN;rw [hu];simp only [hk,if_true]
   obtain ⟨a,n,cap,hn,hc1,hc2,h1,_,hs⟩:=HR1.out.see
   have c0:wa.cell? ⟨b,0,none⟩=some (.slice a n cap):=cellAt h1 0
   obtain ⟨hl,g,off,kv,rfl,q0,q1,q4,q5,hkv⟩:=hs 0 u hu
   rw [Nat.zero_mul,Nat.add_zero] at q0 q1 q4 q5
   have hnu:=number_any hS1 0 u.tok.tx
   have hne:us≠[]:=fun e=>by rw [e] at hu;cases hu
   have hlen:1≤us.length:=by have:=(List.getElem?_eq_some_iff.1 hu).1;omega
   generalize numZ 0 u.tok.tx=z at *
   clear h1 hs hn hk q0 q4 q5 hkv hu hS1
   go_wp2_with (go_at_call 127;fail)
   refine hnu.mono ?_
   rintro e w2 ⟨rfl,hB2⟩
   have HR2:=hid_mk (HR1.out.then hB2)
   clear hnu hB2 HR1 q1 c0
   by_cases hz:z=0
   ·have hz1:(z != 0)=false:=by rw [hz];rfl
    have HE:Hid (R=(cbE was us,us)):=by rw [Hid,HC.out,if_neg (by rw [HN.out];exact fun h=>h hz)]
    clear HC HN
    obtain ⟨a,n,cap,hn,hc1,hc2,h1,_,_⟩:=HR2.out.see
    have c0:w2.cell? ⟨b,0,none⟩=some (.slice a n cap):=cellAt h1 0
    have hn0:((n:Int) == 0)=false:=by simp;omega
    have ha:=ahead_any HR2.out 0 18
    have HN0:=hid_mk hz
    clear h1 hn hz
    cases was with
    | false =>
      have HZ:Hid (cbE false us=0):=by rw [Hid,cbE,if_neg (by simp)]
      clear ha
      go_wp2
      go_ret
      exact ⟨by rw [HE.out];simp only [];rw [HZ.out];try rfl,by rw [HE.out];exact HR2.out⟩
    | true =>
      cases hcm:ahd us 0 18 with
      | true =>
        have HZ:Hid (cbE true us=0):=by rw [Hid,cbE,if_neg (by rw [hcm];simp)]
        rw [hcm] at ha
        clear hcm
        go_wp2_with (go_at_call 48;fail)
        refine ha.mono ?_
        rintro e w3 ⟨rfl,rfl⟩
        clear ha
        go_wp2
        go_ret
        exact ⟨by rw [HE.out];simp only [];rw [HZ.out];try rfl,by rw [HE.out];exact HR2.out⟩
      | false =>
        have HZ:Hid (cbE true us=1):=by rw [Hid,cbE,if_pos ⟨rfl,hne,hcm⟩]
        rw [hcm] at ha
        clear hcm
        go_wp2_with (go_at_call 48;fail)
        refine ha.mono ?_
        rintro e w3 ⟨rfl,rfl⟩
        clear ha
        go_wp2
        go_ret
        exact ⟨by rw [HE.out];simp only [];rw [HZ.out];try rfl,by rw [HE.out];exact HR2.out⟩
   ·have hz1:(z != 0)=true:=bne_iff_ne.2 hz
    have HE:Hid (R=(z,spc (us.drop 1))):=by rw [Hid,HC.out,if_pos (by rw [HN.out];exact hz),HN.out]
    have hsk:=skip_any HR2.out.self 1 hlen
    clear HC HN hz
    go_wp2_with (go_at_call 49;fail)
    refine hsk.mono ?_
    rintro e w3 ⟨rfl,hR3⟩
    have hsp:=spaces_any hR3.self
    have HR3:=hid_mk (HR2.out.from hR3)
    clear hsk hR3 HR2
    go_wp2_with (go_at_call 46;fail)
    refine hsp.mono ?_
    rintro e w4 ⟨rfl,hR4⟩
    have HR4:=hid_mk (HR3.out.from hR4)
    clear hsp hR4 HR3
    go_wp2
    go_ret
    exact ⟨by rw [HE.out];try rfl,by rw [HE.out];exact HR4.out⟩
 | false =>
   have HN:Hid (cbN us=0):=by
    rw [Hid]
    unfold cbN
    cases us[0]? with
    | none=>rfl
    | some u=>simp only [];rw [if_neg (by rw [hk];decide)]
   have HE:Hid (R=(cbE was us,us)):=by rw [Hid,HC.out,if_neg (by rw [HN.out];exact fun h=>h rfl)]
   clear HC HN hk hS1
   obtain ⟨a,n,cap,hn,hc1,hc2,h1,_,_⟩:=HR1.out.see
   have c0:wa.cell? ⟨b,0,none⟩=some (.slice a n cap):=cellAt h1 0
   have ha:=ahead_any HR1.out 0 18
   cases was with
   | false =>
     have HZ:Hid (cbE false us=0):=by rw [Hid,cbE,if_neg (by simp)]
     clear ha h1 hn
     go_wp2
     go_ret
     exact ⟨by rw [HE.out];simp only [];rw [HZ.out];try rfl,by rw [HE.out];exact HR1.out⟩
   | true =>
     by_cases hne:us=[]
     ·have hn0:((n:Int) == 0)=true:=by rw [beq_iff_eq,hn,hne];rfl
      have HZ:Hid (cbE true us=0):=by rw [Hid,cbE,if_neg (by simp [hne])]
      have hn1:n=0:=by rw [hn,hne];rfl
      clear ha h1 hn hne
      subst hn1
      go_wp2
      go_ret
      exact ⟨by rw [HE.out];simp only [];rw [HZ.out];try rfl,by rw [HE.out];exact HR1.out⟩
     ·have hn0:((n:Int) == 0)=false:=by
       have:us.length≠0:=fun e=>hne (List.length_eq_zero_iff.1 e)
       simp;omega
      cases hcm:ahd us 0 18 with
      | true =>
        have HZ:Hid (cbE true us=0):=by rw [Hid,cbE,if_neg (by rw [hcm];simp)]
        rw [hcm] at ha
        clear hcm h1 hn hne
        go_wp2_with (go_at_call 48;fail)
        refine ha.mono ?_
        rintro e w3 ⟨rfl,rfl⟩
        clear ha
        go_wp2
        go_ret
        exact ⟨by rw [HE.out];simp only [];rw [HZ.out];try rfl,by rw [HE.out];exact HR1.out⟩
      | false =>
        have HZ:Hid (cbE true us=1):=by rw [Hid,cbE,if_pos ⟨rfl,hne,hcm⟩]
        rw [hcm] at ha
        clear hcm h1 hn hne
        go_wp2_with (go_at_call 48;fail)
        refine ha.mono ?_
        rintro e w3 ⟨rfl,rfl⟩
        clear ha
        go_wp2
        go_ret
        exact ⟨by rw [HE.out];simp only [];rw [HZ.out];try rfl,by rw [HE.out];exact HR1.out⟩
end Go.Proofs.YtemlnblifkdenaaGreatDoor.L
namespace Go.Proofs.YtemlnblifkdenaaGreatDoor.N
open Go.RowKit
theorem hid_mk {p:Prop} (h:p):Hid p:=h
theorem strOf_size (xs:List Int):(strOfNums xs).size=xs.length:=by
 show (xs.map _).toArray.size=_
 simp
theorem nums_two (a c:List Int):strOfNums (a++c)=strOfNums a++strOfNums c:=by
 apply ByteArray.ext
 show ((a++c).map _).toArray=_
 rw [ByteArray.data_append]
 simp [strOfNums]
def digitZ (c:Int):Bool:=decide (48≤c) && decide (c≤57)
theorem digit_any (c:Int) (w:World):Calls Tryz.prog 105 #[.int .i32 c] w fun e w'=>e=.returned (.bool (digitZ c))∧w=w':=by
 unfold digitZ
 by_cases h1:48≤c
 ·by_cases h2:c≤57
  ·go_enter Tryz.func105,Tryz.ntmps105
   go_wp2
   go_ret
   exact ⟨by simp [h1,h2],rfl⟩
  ·go_enter Tryz.func105,Tryz.ntmps105
   go_wp2
   go_ret
   exact ⟨by simp;omega,rfl⟩
 ·go_enter Tryz.func105,Tryz.ntmps105
  go_wp2
  go_ret
  exact ⟨by simp;omega,rfl⟩
theorem direction_m (w:World):Calls Tryz.prog 174 #[.string ⟨#[45]⟩] w fun e w'=>e=.returned (.int .i64 (-1))∧w=w':=by
 go_enter Tryz.func174,Tryz.ntmps174
 go_wp2
 go_ret
 exact ⟨rfl,rfl⟩
theorem direction_p (w:World):Calls Tryz.prog 174 #[.string ⟨#[43]⟩] w fun e w'=>e=.returned (.int .i64 1)∧w=w':=by
 go_enter Tryz.func174,Tryz.ntmps174
 go_wp2
 go_ret
 exact ⟨rfl,rfl⟩
theorem direction_0 (w:World):Calls Tryz.prog 174 #[.string ⟨#[]⟩] w fun e w'=>e=.returned (.int .i64 1)∧w=w':=by
 go_enter Tryz.func174,Tryz.ntmps174
 go_wp2
 go_ret
 exact ⟨rfl,rfl⟩
def bytesL (a:ByteArray):List Int:=a.data.toList.map fun x=>(x.toNat:Int)
theorem bytesL_size (a:ByteArray):(bytesL a).length=a.size:=by
 unfold bytesL
 rw [List.length_map]
 rfl
theorem bytesL_byte (a:ByteArray):∀ n∈bytesL a,0≤n∧n<256:=by
 intro n hn
 unfold bytesL at hn
 obtain ⟨x,_,rfl⟩:=List.mem_map.1 hn
 have:=x.toNat_lt
 omega
theorem empty_of {s:ByteArray} (h:s.size=0):s=⟨#[]⟩:=by
 cases s with
 | mk d =>
   have h1:d.size=0:=h
   have h2:d=#[]:=by simpa using h1
   subst h2
   rfl
theorem strOf (s:ByteArray):strOfNums (s.data.toList.map fun b=>(b.toNat:Int))=s:=by
 cases s with
 | mk d =>
   have e:((fun n:Int=>UInt8.ofNat n.toNat) ∘ fun b:UInt8=>(b.toNat:Int))=id:=by
    funext b
    simp
   simp [strOfNums,e]
theorem bytesL_str (a:ByteArray):strOfNums (bytesL a)=a:=strOf a
theorem str_get {l:List Int} (hl:∀ n∈l,0≤n∧n<256) (j:Nat):((strOfNums l).get! j).toNat=(l.getD j 0).toNat:=by
 by_cases hj:j<l.length
 ·have hm:l.getD j 0∈l:=by simp [List.getD,hj]
  have hb:=hl _ hm
  have e:(strOfNums l).get! j=UInt8.ofNat (l.getD j 0).toNat:=by
   show (l.map fun n=>UInt8.ofNat n.toNat).toArray[j]! = _
   rw [getElem!_pos _ j (by simpa using hj)]
   simp [List.getD,hj]
  rw [e]
  simp only [UInt8.toNat_ofNat']
  omega
 ·have e:(strOfNums l).get! j=default:=by
   show (l.map fun n=>UInt8.ofNat n.toNat).toArray[j]! = _
   exact getElem!_neg _ j (by simpa using hj)
  rw [e]
  simp [List.getD,List.getElem?_eq_none (Nat.le_of_not_lt hj)]
  rfl
def Dig (l:List Int):Prop:=∀ c∈l,48≤c∧c≤57
def satZ (n:Int) (c:Int):Int:=if 1000000<n * 10+(c - 48) then 1000000 else n * 10+(c - 48)
def satL (l:List Int):Int:=l.foldl satZ 0
theorem satZ_bd {n c:Int} (h0:0≤n) (hc:48≤c):0≤satZ n c∧satZ n c≤1000000:=by
 unfold satZ
 split <;> omega
theorem satL_snoc (l:List Int) (c:Int):satL (l++[c])=satZ (satL l) c:=by unfold satL;rw [List.foldl_append];rfl
theorem satL_bd:∀ (l:List Int),Dig l→0≤satL l∧satL l≤1000000:=by
 intro l h
 unfold satL
 have:∀ (l:List Int) (n:Int),0≤n→n≤1000000→Dig l→0≤l.foldl satZ n∧l.foldl satZ n≤1000000:=by
  intro l
  induction l with
  | nil=>intro n h0 h1 _;exact ⟨h0,h1⟩
  | cons c r ih =>
    intro n h0 _ hd
    have hb:=satZ_bd h0 (hd c (by simp)).1
    exact ih _ hb.1 hb.2 (fun x hx=>hd x (by simp [hx]))
 exact this l 0 (by omega) (by omega) h
theorem dec_byte (t:ByteArray) (p:Nat) (hp:p<t.size):(48≤(bytesL t).getD p 0∧(bytesL t).getD p 0≤57∧(((Utf8.decode t p).1:Nat):Int)=(bytesL t).getD p 0∧(Utf8.decode t p).2=1)∨(¬ (48≤(bytesL t).getD p 0∧(bytesL t).getD p 0≤57)∧digitZ (((Utf8.decode t p).1:Nat):Int)=false):=by
 have hg:(bytesL t).getD p 0=((t.get! p).toNat:Int):=by
  have hs:=str_get (bytesL_byte t) p
  rw [bytesL_str] at hs
  have hb:0≤(bytesL t).getD p 0:=(bytesL_byte t _ (by
   have:p<(bytesL t).length:=by rw [bytesL_size];exact hp
   simp [List.getD,this])).1
  omega
 rw [hg,Lib.decode_at]
 have hb:=(t.get! p).toNat_lt
 generalize (t.get! p).toNat=b0 at *
 generalize (t.get! (p+1)).toNat=b1
 generalize (t.get! (p+2)).toNat=b2
 generalize (t.get! (p+3)).toNat=b3
 by_cases h:48≤b0∧b0≤57
 ·left
  have e:Lib.decodeN (t.size - p) b0 b1 b2 b3=(b0,1):=by
   unfold Lib.decodeN
   rw [if_pos (by omega)]
  rw [e]
  exact ⟨by omega,by omega,rfl,rfl⟩
 ·right
  refine ⟨by omega,?_⟩
  have key:(((Lib.decodeN (t.size - p) b0 b1 b2 b3).1:Nat):Int)=b0∨128≤(((Lib.decodeN (t.size - p) b0 b1 b2 b3).1:Nat):Int):=by
   unfold Lib.decodeN
   repeat' split
   all_goals (simp only;first | exact .inl trivial | omega)
  unfold digitZ
  simp
  omega
theorem byte_at (t:ByteArray) (p:Nat) (hp:p<t.size):(bytesL t).getD p 0=(((t[p]'hp).toNat:Nat):Int):=by
 unfold bytesL
 have h1:t.data[p]? = some (t.data[p]'hp):=Array.getElem?_eq_getElem hp
 simp [List.getD,h1]
 rfl
theorem digit_yes {c:Int} (h:48≤c∧c≤57):digitZ c=true:=by unfold digitZ;simp;omega
def digN:List Int→Nat
 | []=>0
 | c::r=>if digitZ c then digN r+1 else 0
theorem digN_le:∀ l:List Int,digN l≤l.length
 | []=>Nat.le_refl _
 | c::r=>by
   rw [digN]
   have:=digN_le r
   split
   ·rw [List.length_cons]
    omega
   ·omega
theorem digN_at:∀ (l:List Int) (p:Nat),Dig (l.take p)→p≤l.length→(p=l.length∨digitZ (l.getD p 0)=false)→digN l=p
 | [],p,_,h,_=>by simp at h;simp [digN,h]
 | c::r,0,_,_,h=>by
   rcases h with h | h
   ·simp at h
   ·rw [digN,if_neg]
    have h':digitZ c=false:=h
    rw [h']
    decide
 | c::r,p+1,hd,hl,h=>by
   have hc:=hd c (by simp)
   rw [digN,if_pos (digit_yes hc)]
   have ih:=digN_at r p (fun x hx=>hd x (by simp [hx])) (by simpa using hl) (by
    rcases h with h | h
    ·left;simpa using h
    ·right;exact h)
   rw [ih]
theorem below_drewN3 (B:Nat) (w:World) (n:Nat):Below B w (w.drewN n):=⟨rfl,rfl,rfl,Nat.le_refl _,fun _ _=>rfl⟩
theorem ret3 {n m:Int} {a c:ByteArray} {x y:Bool} (h1:n=m) (h2:a=c) (h3:x=y):Ending.returned (.tuple #[.int .i64 n,.string a,.bool x])=.returned (.tuple #[.int .i64 m,.string c,.bool y]):=by rw [h1,h2,h3]
theorem satZ_min (n c:Int):satZ n c=min (n * 10+(c - 48)) 1000000:=by
 unfold satZ
 split <;> omega
theorem extract_all (s:ByteArray):s.extract s.size s.size=⟨#[]⟩:=empty_of (by simp)
theorem numberAhead_any (s:ByteArray) (hs:s.size≤1000000000000) (w:World) :
  Calls Tryz.prog 173 #[.string s] w fun e w'=>e=.returned (.tuple #[.int .i64 (satL ((bytesL s).take (digN (bytesL s)))),.string (s.extract (digN (bytesL s)) s.size),.bool (decide (0<digN (bytesL s)))])∧Below w.heap.size w w':=by
 have HDEC:=hid_mk (fun p hp=>dec_byte s p hp)
 have HSZ:=hid_mk (bytesL_size s)
 have hsne:s.size=0∨(s == ⟨#[]⟩)=false∧(s.toList == [])=false:=by
  by_cases h:s.size=0
  ·exact .inl h
  ·right
   have h3:(s.toList == [])=false:=by
    rw [Bool.eq_false_iff]
    intro h2
    rw [beq_iff_eq,ByteArray.toList_eq] at h2
    have h4:=congrArg List.length h2
    exact h (by simpa using h4)
   exact ⟨by rw [beq_toListBytes,ByteArray.toList_eq ⟨#[]⟩];exact h3,h3⟩
 have HNE:=hid_mk hsne
 clear hsne
 generalize hds:bytesL s=ds at *
 go_enter Tryz.func173,Tryz.ntmps173
 go_wp2
 go_loopw [5] (fun a5 wr=>∃ p:Nat,wr.heap[w.heap.size]? = some (.stringIter s p)∧Below w.heap.size w wr∧a5=.int .i64 (satL (ds.take p))∧p≤ds.length∧Dig (ds.take p)) (fun _ wr=>s.size - wr.iterPos w.heap.size)
 case atStart=>exact ⟨0,World.iter_heap w s 0,(Below.refl _ w).alloc (Nat.le_refl _) _,rfl,Nat.zero_le _,fun c hc=>by simp at hc⟩
 case round =>
  obtain ⟨p,hit,hbw,rfl,hp,hdig⟩:=hrel
  have hsb:=satL_bd (ds.take p) hdig
  have HDG:=hid_mk hdig
  have HD:=hid_mk (fun h=>digN_at ds p hdig hp h)
  clear hdig hds
  by_cases hlt:p<ds.length
  ·have hps:p<s.size:=by rw [← HSZ.out];exact hlt
   have hnx:∀ ty,(Instr.next (.pointer (some ⟨w.heap.size,0,none⟩)) true ty).run Tryz.prog wr=_:=fun ty=>Lib.run_next_any_at wr w.heap.size s p ty hit hps
   have hit3:=Lib.iterAt_heap wr w.heap.size s p (p+(Utf8.decode s p).2) hit
   have hbw3:=Lib.below_iterAt hbw (k:=w.heap.size) (Nat.le_refl _) s (p+(Utf8.decode s p).2)
   have HTK:Hid (ds.take (p+1)=ds.take p++[ds.getD p 0]):=by
    show _=_
    rw [List.take_add_one]
    simp [List.getD,hlt]
   rcases HDEC.out p hps with ⟨hc1,hc2,hdc,hwd⟩ | ⟨hnd,hdz⟩
   ·rw [hwd] at hnx hit3 hbw3
    rw [hdc] at hnx
    have HS:Hid (satL (ds.take (p+1))=satZ (satL (ds.take p)) (ds.getD p 0)):=by
     show satL (ds.take (p+1))=_
     rw [HTK.out,satL_snoc]
    have HD2:Hid (Dig (ds.take (p+1))):=by
     show Dig _
     rw [HTK.out]
     intro c hc
     rcases List.mem_append.1 hc with hc | hc
     ·exact HDG.out c hc
     ·rw [List.mem_singleton.1 hc]
      exact ⟨hc1,hc2⟩
    have hdg:=digit_any (ds.getD p 0) (wr.iterAt w.heap.size s (p+1))
    rw [digit_yes ⟨hc1,hc2⟩] at hdg
    generalize ds.getD p 0=c at *
    generalize wr.iterAt w.heap.size s (p+1)=W3 at *
    have hm:s.size - W3.iterPos w.heap.size<s.size - wr.iterPos w.heap.size:=by
     simp only [World.iterPos,hit3,hit]
     omega
    clear hdc hwd hit hbw
    generalize satL (ds.take p)=sn at *
    go_wp2_with (go_at_call 105;fail)
    refine (hdg).mono ?_
    rintro e w' ⟨rfl,rfl⟩
    go_wp2
    go_roundw
    case rel=>exact ⟨p+1,hit3,hbw3,congrArg (Value.int .i64) ((satZ_min _ _).symm.trans HS.out.symm),by omega,HD2.out⟩
    case measure=>exact hm
   ·have HP:Hid (digN ds=p):=HD.out (.inr (by
     cases h:digitZ (ds.getD p 0)
     ·rfl
     ·unfold digitZ at h
      simp at h
      exact absurd h (by simpa using hnd)))
    have hdg:=digit_any (((Utf8.decode s p).1:Nat):Int) (wr.iterAt w.heap.size s (p+(Utf8.decode s p).2))
    rw [hdz] at hdg
    generalize ((Utf8.decode s p).1:Nat)=cd at *
    generalize wr.iterAt w.heap.size s (p+(Utf8.decode s p).2)=W3 at *
    clear hdz hnd hit hbw
    have HSN:Hid (satL (ds.take (digN ds))=satL (ds.take p)):=by show _=_;rw [HP.out]
    generalize satL (ds.take p)=sn at *
    go_wp2_with (go_at_call 105;fail)
    refine (hdg).mono ?_
    rintro e w' ⟨rfl,rfl⟩
    go_wp2
    go_quiet (fail)
    go_wp2
    go_ret3
    exact ⟨ret3 HSN.out.symm (by rw [HP.out]) (by rw [HP.out];first | done | simp),hbw3.trans (below_drewN3 _ _ _)⟩
  ·have hps:¬ p<s.size:=by rw [← HSZ.out];exact hlt
   have hnx:∀ ty,(Instr.next (.pointer (some ⟨w.heap.size,0,none⟩)) true ty).run Tryz.prog wr=_:=fun ty=>Lib.run_next_end_at wr w.heap.size s p ty hit hps
   have HP:Hid (digN ds=p):=HD.out (.inl (by omega))
   have HPS:Hid (p=s.size):=by show _=_;rw [← HSZ.out];omega
   have HSN:Hid (satL (ds.take (digN ds))=satL (ds.take p)):=by show _=_;rw [HP.out]
   generalize satL (ds.take p)=sn at *
   rcases HNE.out with h0 | ⟨n1,n2⟩
   ·have e0:=empty_of h0
    subst e0
    go_wp2
    go_ret3
    exact ⟨ret3 HSN.out.symm (by rw [HP.out,HPS.out];exact (extract_all ⟨#[]⟩).symm) (by rw [HP.out,HPS.out];rfl),hbw⟩
   ·have hp0:0<p:=by
     by_cases h:s.size=0
     ·have e0:=empty_of h
      subst e0
      exact absurd n2 (by rw [ByteArray.toList_eq];decide)
     ·rw [HPS.out]
      omega
    go_wp2
    go_ret3
    exact ⟨ret3 HSN.out.symm (by rw [HP.out,HPS.out];exact (extract_all s).symm) (by rw [HP.out];simp [hp0]),hbw⟩
theorem get_at (s:ByteArray) (h0:0<s.size):s.get! 0=s[0]'h0:=by
 show s.data[0]! = s.data[0]
 rw [getElem!_pos s.data 0 h0]
theorem first_byte (s:ByteArray) (h0:0<s.size):s.extract 0 1=⟨#[s[0]'h0]⟩:=by
 apply ByteArray.ext
 apply Array.ext
 ·simp
  have:0<s.data.size:=h0
  omega
 ·intro i h1 h2
  have hi:i=0:=by
   have:i<1:=h2
   omega
  subst hi
  simp
  rfl
theorem first_list (s:ByteArray) (h0:0<s.size) (c:UInt8):((s.extract 0 1).toList == [c])=((s[0]'h0) == c):=by
 rw [first_byte s h0,ByteArray.toList_eq]
 simp
def sgnZ (s:ByteArray):ByteArray×ByteArray:=if h:0<s.size then (if (s[0]'h).toNat=43 then (⟨#[43]⟩,s.extract 1 s.size) else if (s[0]'h).toNat=45 then (⟨#[45]⟩,s.extract 1 s.size) else (⟨#[]⟩,s)) else (⟨#[]⟩,s)
theorem ret_ss {a b c d:ByteArray} (h1:a=c) (h2:b=d):Ending.returned (.tuple #[.string a,.string b])=.returned (.tuple #[.string c,.string d]):=by rw [h1,h2]
theorem signAhead_any (s:ByteArray) (w:World):Calls Tryz.prog 172 #[.string s] w fun e w'=>e=.returned (.tuple #[.string (sgnZ s).1,.string (sgnZ s).2])∧Below w.heap.size w w':=by
 have hB:Below w.heap.size w w:=Below.refl _ w
 by_cases h0:0<s.size
 ·have f1:=first_list s h0 43
  have f2:=first_list s h0 45
  have fb:=first_byte s h0
  have h1:(1:Int)≤(s.size:Int):=by omega
  by_cases h43:(s[0]'h0).toNat=43
  ·have e43:(s[0]'h0)=43:=UInt8.toNat_inj.1 h43
   have HS:Hid (sgnZ s=(⟨#[43]⟩,s.extract 1 s.size)):=by
    show _=_
    unfold sgnZ
    rw [dif_pos h0,if_pos h43]
   have HF:Hid (s.extract 0 1=⟨#[43]⟩):=by show _=_;rw [fb,e43]
   have z1:((s.extract 0 1).toList == [43])=true:=by rw [f1,e43];rfl
   clear f1 f2 fb h43 e43
   go_enter Tryz.func172,Tryz.ntmps172
   go_wp2
   go_quiet (fail)
   go_wp2
   go_ret2
   exact ⟨ret_ss (by rw [HS.out,HF.out]) (by rw [HS.out]),hB.trans (below_drewN3 _ _ _)⟩
  ·have n43:((s[0]'h0) == 43)=false:=by
    rw [Bool.eq_false_iff]
    intro h
    have:(s[0]'h0)=43:=by simpa using h
    rw [this] at h43
    exact h43 rfl
   by_cases h45:(s[0]'h0).toNat=45
   ·have e45:(s[0]'h0)=45:=UInt8.toNat_inj.1 h45
    have HS:Hid (sgnZ s=(⟨#[45]⟩,s.extract 1 s.size)):=by
     show _=_
     unfold sgnZ
     rw [dif_pos h0,if_neg h43,if_pos h45]
    have HF:Hid (s.extract 0 1=⟨#[45]⟩):=by show _=_;rw [fb,e45]
    have z1:((s.extract 0 1).toList == [43])=false:=by rw [f1,n43]
    have z2:((s.extract 0 1).toList == [45])=true:=by rw [f2,e45];rfl
    clear f1 f2 fb h43 h45 e45 n43
    go_enter Tryz.func172,Tryz.ntmps172
    go_wp2
    go_quiet (fail)
    go_wp2
    go_ret2
    exact ⟨ret_ss (by rw [HS.out,HF.out]) (by rw [HS.out]),hB.trans (below_drewN3 _ _ _)⟩
   ·have HS:Hid (sgnZ s=(⟨#[]⟩,s)):=by
     show _=_
     unfold sgnZ
     rw [dif_pos h0,if_neg h43,if_neg h45]
    have n45:((s[0]'h0) == 45)=false:=by
     rw [Bool.eq_false_iff]
     intro h
     have:(s[0]'h0)=45:=by simpa using h
     rw [this] at h45
     exact h45 rfl
    have z1:((s.extract 0 1).toList == [43])=false:=by rw [f1,n43]
    have z2:((s.extract 0 1).toList == [45])=false:=by rw [f2,n45]
    clear f1 f2 fb h43 h45 n43 n45
    go_enter Tryz.func172,Tryz.ntmps172
    go_wp2
    go_ret2
    exact ⟨ret_ss (by rw [HS.out]) (by rw [HS.out]),hB⟩
 ·have e0:=empty_of (show s.size=0 by omega)
  subst e0
  go_enter Tryz.func172,Tryz.ntmps172
  go_wp2
  go_ret2
  exact ⟨rfl,hB⟩
def leftL:List Int→List Int
 | []=>[]
 | c::r=>if c=32 then leftL r else c::r
def rightL (l:List Int):List Int:=(leftL l.reverse).reverse
theorem trimLeft_any (l:List Int) (hl:∀ n∈l,0≤n∧n<256) (hn:l.length≤1000000000000) (w:World) :
  Calls Tryz.prog 165 #[.string (strOfNums l),.int .u8 32] w fun e w'=>e=.returned (.string (strOfNums (leftL l)))∧w=w':=by
 go_enter Tryz.func165,Tryz.ntmps165
 go_wp2
 go_loop [0] (fun a0=>∃ m:List Int,a0=.string (strOfNums m)∧leftL m=leftL l∧m.length≤l.length∧∀ n∈m,0≤n∧n<256) (fun a0=>match a0 with | .string s=>s.size | _=>0)
 case atStart=>exact ⟨l,rfl,rfl,Nat.le_refl _,hl⟩
 case round =>
  obtain ⟨m,rfl,hm,hml,hmb⟩:=hrel
  have HM:=hid_mk hm
  clear hm
  have hsz:=strOf_size m
  cases m with
  | nil =>
    have HR:Hid (leftL l=[]):=HM.out.symm
    have he:strOfNums []=⟨#[]⟩:=rfl
    rw [he]
    clear hsz
    go_wp2
    go_ret
    exact ⟨by rw [HR.out];rfl,rfl⟩
  | cons c r =>
    have h0:0<(strOfNums (c::r)).size:=by rw [hsz];simp
    have hc:=hmb c (by simp)
    have hg:(((strOfNums (c::r))[0]'h0).toNat:Int)=c:=by
     have h1:=get_at (strOfNums (c::r)) h0
     have h2:=str_get hmb 0
     rw [h1] at h2
     have h3:((c::r).getD 0 0)=c:=rfl
     rw [h3] at h2
     omega
    have HX:Hid ((strOfNums (c::r)).extract 1 (strOfNums (c::r)).size=strOfNums r):=by
     show _=_
     rw [hsz]
     apply ByteArray.ext
     simp [strOfNums]
     exact List.take_of_length_le (by simp)
    have HLEN:Hid ((strOfNums (c::r)).size=r.length+1):=by show _=_;rw [hsz];rfl
    have hsb:(strOfNums (c::r)).size≤1000000000000:=by rw [hsz];omega
    clear hsz
    generalize hse:strOfNums (c::r)=s at *
    have HSE:=hid_mk hse
    clear hse
    by_cases h32:c=32
    ·have z1:(((s[0]'h0).toNat:Int) == 32)=true:=by rw [hg,h32];rfl
     have HL:Hid (leftL r=leftL l):=by
      show _=_
      rw [← HM.out,leftL,if_pos h32]
     clear hg
     go_wp2
     go_round
     case rel=>exact ⟨r,congrArg Value.string HX.out,HL.out,by simp at hml;omega,fun n hn=>hmb n (by simp [hn])⟩
     case measure =>
      show (s.extract 1 s.size).size<s.size
      rw [HX.out,strOf_size,HLEN.out]
      omega
    ·have z1:(((s[0]'h0).toNat:Int) == 32)=false:=by rw [hg];simpa using h32
     have HL:Hid (strOfNums (leftL l)=s):=by
      show _=_
      rw [← HM.out,leftL,if_neg h32]
      exact HSE.out
     clear hg
     go_wp2
     go_ret
     exact ⟨by rw [HL.out];rfl,rfl⟩
theorem nil_or_snoc (m:List Int):m=[]∨∃ r c,m=r++[c]:=by
 rcases List.eq_nil_or_concat m with h | ⟨r,c,h⟩
 ·exact .inl h
 ·exact .inr ⟨r,c,by rw [h,List.concat_eq_append]⟩
theorem rightL_snoc (m:List Int) (c:Int):rightL (m++[c])=if c=32 then rightL m else m++[c]:=by
 unfold rightL
 rw [List.reverse_append,List.reverse_singleton,List.singleton_append,leftL]
 split
 ·rfl
 ·simp
theorem str_last (m:List Int) (c:Int) (hb:∀ n∈m++[c],0≤n∧n<256) (h:m.length<(strOfNums (m++[c])).size):(((strOfNums (m++[c]))[m.length]'h).toNat:Int)=c:=by
 have h1:(strOfNums (m++[c])).get! m.length=(strOfNums (m++[c]))[m.length]'h:=by
  show (strOfNums (m++[c])).data[m.length]! = (strOfNums (m++[c])).data[m.length]
  rw [getElem!_pos (strOfNums (m++[c])).data m.length h]
 have h2:=str_get hb m.length
 rw [h1] at h2
 have h3:(m++[c]).getD m.length 0=c:=by simp [List.getD]
 rw [h3] at h2
 have hc:=hb c (by simp)
 omega
theorem trimRight_any (l:List Int) (hl:∀ n∈l,0≤n∧n<256) (hn:l.length≤1000000000000) (w:World) :
  Calls Tryz.prog 166 #[.string (strOfNums l),.int .u8 32] w fun e w'=>e=.returned (.string (strOfNums (rightL l)))∧w=w':=by
 go_enter Tryz.func166,Tryz.ntmps166
 go_wp2
 go_loop [0] (fun a0=>∃ m:List Int,a0=.string (strOfNums m)∧rightL m=rightL l∧m.length≤l.length∧∀ n∈m,0≤n∧n<256) (fun a0=>match a0 with | .string s=>s.size | _=>0)
 case atStart=>exact ⟨l,rfl,rfl,Nat.le_refl _,hl⟩
 case round =>
  obtain ⟨m,rfl,hm,hml,hmb⟩:=hrel
  have HM:=hid_mk hm
  clear hm
  have hsz:=strOf_size m
  rcases (show m=[]∨∃ r c,m=r++[c] by exact nil_or_snoc m) with rfl | ⟨r,c,rfl⟩
  ·have HR:Hid (rightL l=[]):=HM.out.symm
   have he:strOfNums []=⟨#[]⟩:=rfl
   rw [he]
   clear hsz
   go_wp2
   go_ret
   exact ⟨by rw [HR.out];rfl,rfl⟩
  ·have hlast:r.length<(strOfNums (r++[c])).size:=by rw [hsz];simp
   have hg:=str_last r c hmb hlast
   have HX:Hid ((strOfNums (r++[c])).extract 0 r.length=strOfNums r):=by
    show _=_
    apply ByteArray.ext
    simp [strOfNums]
   have hlen:(strOfNums (r++[c])).size=r.length+1:=by rw [hsz];simp
   have hrl:r.length+1≤1000000000000:=by simp at hml;omega
   clear hsz
   generalize hse:strOfNums (r++[c])=s at *
   have HSE:=hid_mk hse
   clear hse
   by_cases h32:c=32
   ·have z1:(((s[r.length]'hlast).toNat:Int) == 32)=true:=by rw [hg,h32];rfl
    have HL:Hid (rightL r=rightL l):=by
     show _=_
     rw [← HM.out,rightL_snoc,if_pos h32]
    clear hg
    go_wp2
    go_round
    case rel=>exact ⟨r,congrArg Value.string HX.out,HL.out,by simp at hml;omega,fun n hn=>hmb n (by simp [hn])⟩
    case measure =>
     show (s.extract 0 r.length).size<s.size
     rw [HX.out,strOf_size,hlen]
     omega
   ·have z1:(((s[r.length]'hlast).toNat:Int) == 32)=false:=by rw [hg];simpa using h32
    have HL:Hid (strOfNums (rightL l)=s):=by
     show _=_
     rw [← HM.out,rightL_snoc,if_neg h32]
     exact HSE.out
    clear hg
    go_wp2
    go_ret
    exact ⟨by rw [HL.out];rfl,rfl⟩
theorem leftL_byte:∀ (l:List Int),(∀ n∈l,0≤n∧n<256)→∀ n∈leftL l,0≤n∧n<256
 | [],_,n,hn=>by cases hn
 | c::r,h,n,hn=>by
   rw [leftL] at hn
   split at hn
   ·exact leftL_byte r (fun m hm=>h m (by simp [hm])) n hn
   ·exact h n hn
theorem rightL_byte (l:List Int) (h:∀ n∈l,0≤n∧n<256):∀ n∈rightL l,0≤n∧n<256:=by
 intro n hn
 unfold rightL at hn
 exact leftL_byte l.reverse (fun m hm=>h m (by simpa using hm)) n (by simpa using hn)
theorem leftL_len:∀ l:List Int,(leftL l).length≤l.length
 | []=>Nat.le_refl _
 | c::r=>by
   rw [leftL]
   have:=leftL_len r
   split
   ·rw [List.length_cons];omega
   ·exact Nat.le_refl _
theorem rightL_len (l:List Int):(rightL l).length≤l.length:=by
 unfold rightL
 have:=leftL_len l.reverse
 simpa using this
theorem trim_any (l:List Int) (hl:∀ n∈l,0≤n∧n<256) (hn:l.length≤1000000000000) (w:World) :
  Calls Tryz.prog 160 #[.string (strOfNums l),.string ⟨#[32]⟩] w fun e w'=>e=.returned (.string (strOfNums (leftL (rightL l))))∧Below w.heap.size w w':=by
 have hr:=fun w=>trimRight_any l hl hn w
 have hle:=fun w=>trimLeft_any (rightL l) (rightL_byte l hl) (Nat.le_trans (rightL_len l) hn) w
 have hsz:=strOf_size l
 cases l with
 | nil =>
   have he:strOfNums []=⟨#[]⟩:=rfl
   rw [he]
   clear hsz hr hle
   go_enter Tryz.func160,Tryz.ntmps160
   go_wp2
   go_ret
   exact ⟨rfl,Below.refl _ w⟩
 | cons c r =>
   have h0:0<(strOfNums (c::r)).size:=by rw [hsz];simp
   have h3:((strOfNums (c::r)).toList == [])=false:=by
    rw [Bool.eq_false_iff]
    intro h2
    rw [beq_iff_eq,ByteArray.toList_eq] at h2
    have h4:=congrArg List.length h2
    have h5:(strOfNums (c::r)).size=0:=by simpa using h4
    omega
   have h4:(strOfNums (c::r) == ⟨#[]⟩)=false:=by rw [beq_toListBytes,ByteArray.toList_eq ⟨#[]⟩];exact h3
   generalize strOfNums (leftL (rightL (c::r)))=T at *
   generalize strOfNums (rightL (c::r))=R at *
   generalize strOfNums (c::r)=s at *
   clear hsz hl hn h0
   have hb32:(((⟨#[32]⟩:ByteArray)[0]'(by decide)).toNat:Int)=32:=rfl
   go_enter Tryz.func160,Tryz.ntmps160
   go_wp2
   go_quiet (first | (go_at_call 166;refine Calls.quiet_of_same ((hr _).mono fun _ _ ⟨x,y⟩=>⟨x,y.symm⟩)) | (go_at_call 165;refine Calls.quiet_of_same ((hle _).mono fun _ _ ⟨x,y⟩=>⟨x,y.symm⟩)))
   go_wp2
   go_ret
   exact ⟨rfl,below_drewN3 _ _ _⟩
theorem getD_bytes (s:ByteArray) (j:Nat) (h:j<s.size):(s.data.toList.map fun b=>(b.toNat:Int)).getD j 0=((s.get! j).toNat:Int):=by
 cases s with
 | mk d =>
   have h':j<d.size:=h
   simp [List.getD,ByteArray.get!,getElem!_pos,h']
theorem conv {w:World} {b off cap:Nat} {s:ByteArray} (hc:∀ j,j<s.size→w.cell? ⟨b,off+j,none⟩=some (.int .u8 (s.get! j).toNat)) :
  (convert 49 9 (.slice (some ⟨b,off,none⟩) s.size cap)).run Tryz.prog w=.ok (.string s) w:=by
 have:=run_convert_bytes_arg (P:=Tryz.prog) w 49 5 Tryz.underlying49 Tryz.underlying5 b off s.size cap (s.data.toList.map fun b=>(b.toNat:Int)) (by rw [List.length_map];rfl) (fun i hi=>by rw [getD_bytes s i hi];exact hc i hi) 9 Tryz.underlying9
 rw [strOf] at this
 exact this
def foldN (c:Nat):Nat:=if 65≤c∧c≤90 then c+32 else c
def foldB (b:UInt8):UInt8:=UInt8.ofNat (foldN b.toNat)
def foldS (s:ByteArray):ByteArray:=⟨s.data.map foldB⟩
theorem foldB_nat (b:UInt8):(foldB b).toNat=foldN b.toNat:=by
 have:=b.toNat_lt
 unfold foldB foldN
 split <;> simp <;> omega
theorem foldS_size (s:ByteArray):(foldS s).size=s.size:=by
 cases s with
 | mk d=>exact Array.size_map
theorem foldS_get (s:ByteArray) (j:Nat) (h:j<s.size):(foldS s).get! j=foldB (s.get! j):=by
 cases s with
 | mk d =>
   have h':j<d.size:=h
   simp [foldS,ByteArray.get!,getElem!_pos,h']
theorem bytesOf (s:ByteArray) (w:World):∃ g cap W,(convert 9 49 (.string s)).run Tryz.prog w=.ok (.slice (some ⟨g,0,none⟩) s.size cap) W∧s.size≤cap∧w.heap.size≤g ∧
  (∀ j,j<s.size→W.cell? ⟨g,j,none⟩=some (.int .u8 (s.get! j).toNat))∧(∀ j,j<s.size→W.frozen? ⟨g,j,none⟩=false)∧Below w.heap.size w W:=by
 have hcv:=run_bytes_of_string (P:=Tryz.prog) w 9 49 5 s Tryz.underlying9 Tryz.underlying49 Tryz.underlying5
 have hge:=grownCap_ge w s.size 0 5
 have hsz:(bytesRow s (grownCap w s.size 0 5)).size=grownCap w s.size 0 5:=by
  have:s.data.size=s.size:=rfl
  simp [bytesRow]
  omega
 generalize grownCap w s.size 0 5=cap at *
 have hnew:(w.drew.alloc (.cells (bytesRow s cap) 5 ((bytesRow s cap).size,(bytesRow s cap).size+1))).heap[w.heap.size]? = some (.cells (bytesRow s cap) 5 ((bytesRow s cap).size,(bytesRow s cap).size+1)):=heap_alloc_new w.drew _
 refine ⟨w.heap.size,cap,_,hcv,hge,Nat.le_refl _,fun j hj=>?_,fun j hj=>?_,((Below.refl _ w).drew).alloc (Nat.le_refl _) _⟩
 ·have hd:j<s.data.size:=hj
  have hg:(bytesRow s cap)[j]? = some (.int .u8 (s.get! j).toNat):=by
   have hgs:s.get! j=s.data[j]:=by
    cases s with
    | mk d=>exact getElem!_pos d j hd
   rw [hgs]
   unfold bytesRow
   rw [Array.getElem?_append_left (by simpa using hd),Array.getElem?_map,Array.getElem?_eq_getElem hd]
   rfl
  simp only [World.cell?,hnew]
  exact hg
 ·simp only [World.frozen?,hnew]
  simp
  omega
def FoldAt (s:ByteArray) (g k:Nat) (w:World):Prop:=∀ j,j<s.size→w.cell? ⟨g,j,none⟩=some (.int .u8 (if j<k then foldN (s.get! j).toNat else (s.get! j).toNat:Nat))
theorem fold_step {s:ByteArray} {g k:Nat} {w:World} (h:FoldAt s g k w) (hk:k<s.size) {x:Int} (hx:x=foldN (s.get! k).toNat):FoldAt s g (k+1) (w.setCell ⟨g,k,none⟩ (.int .u8 x)):=by
 intro j hj
 by_cases e:j=k
 ·subst e
  rw [World.cell?_setCell_same _ _ _ (h j hj),if_pos (by omega),hx]
 ·rw [World.cell?_setCell_other _ _ _ _ (by simp;try omega),h j hj]
  by_cases h1:j<k
  ·rw [if_pos h1,if_pos (by omega)]
  ·rw [if_neg h1,if_neg (by omega)]
theorem fold_keep {s:ByteArray} {g k:Nat} {w:World} (h:FoldAt s g k w) (hx:foldN (s.get! k).toNat=(s.get! k).toNat):FoldAt s g (k+1) w:=by
 intro j hj
 rw [h j hj]
 by_cases e:j=k
 ·subst e
  rw [if_neg (by omega),if_pos (by omega),hx]
 ·by_cases h1:j<k
  ·rw [if_pos h1,if_pos (by omega)]
  ·rw [if_neg h1,if_neg (by omega)]
theorem fold_conv {s:ByteArray} {g cap:Nat} {w:World} (h:FoldAt s g s.size w):(convert 49 9 (.slice (some ⟨g,0,none⟩) s.size cap)).run Tryz.prog w=.ok (.string (foldS s)) w:=by
 have:=conv (w:=w) (b:=g) (off:=0) (cap:=cap) (s:=foldS s) (fun j hj=>by
  rw [foldS_size] at hj
  rw [Nat.zero_add,h j hj,if_pos hj,foldS_get s j hj,foldB_nat])
 rw [foldS_size] at this
 exact this
set_option maxRecDepth 1000000 in
theorem fold_any (s:ByteArray) (w:World) (hs:s.size≤1000000000000) :
  Calls Tryz.prog 70 #[.string s] w fun e w'=>e=.returned (.string (foldS s))∧Below w.heap.size w w':=by
 obtain ⟨g,cap,W,hcv,hcap,hg,hcell,hfr,hb⟩:=bytesOf s w
 go_enter Tryz.func70,Tryz.ntmps70
 go_wp2
 clear hcv
 go_loopw [10] (fun i wr=>∃ k:Nat,k≤s.size∧i=.int .i64 k∧FoldAt s g k wr∧(∀ j,j<s.size→wr.frozen? ⟨g,j,none⟩=false)∧Below w.heap.size w wr) (fun i _=>s.size - (intOf i).toNat)
 case atStart=>exact ⟨0,Nat.zero_le _,rfl,fun j hj=>by simpa using hcell j hj,hfr,hb⟩
 case round =>
  clear hcell hfr hb
  obtain ⟨k,hk,rfl,hcell,hfr,hb⟩:=hrel
  by_cases hlt:k<s.size
  ·obtain ⟨c,hc⟩:∃ c:Nat,(s.get! k).toNat=c:=⟨_,rfl⟩
   have ck:wr.cell? ⟨g,k,none⟩=some (.int .u8 c):=by
    have:=hcell k hlt
    rw [if_neg (Nat.lt_irrefl k),hc] at this
    exact this
   have fk:=hfr k hlt
   have h256:c<256:=by rw [← hc];exact (s.get! k).toNat_lt
   have HF:Hid (∀ j,j<s.size→wr.frozen? ⟨g,j,none⟩=false):=hfr
   clear hfr
   by_cases h:65≤c∧c≤90
   ·have HX:Hid (((c:Int)+32)=foldN (s.get! k).toNat):=by
     show _=_
     rw [hc,foldN,if_pos h]
     omega
    obtain ⟨h1,h2⟩:=h
    clear hc
    go_wp2
    go_roundw
    case rel=>exact ⟨k+1,by omega,by go_num,fold_step hcell hlt (by rw [← HX.out];try omega),fun j hj=>by rw [World.frozen?_setCell];exact HF.out j hj,hb.setCell hg _⟩
    case measure=>simp [intOf];omega
   ·have HX:Hid (foldN (s.get! k).toNat=(s.get! k).toNat):=by
     show _=_
     rw [hc,foldN,if_neg h]
    clear hc
    rcases (show c<65∨90<c by omega) with h1 | h1
    all_goals
     clear h
     go_wp2
     go_roundw
     case rel=>exact ⟨k+1,by omega,by go_num,fold_keep hcell HX.out,HF.out,hb⟩
     case measure=>simp [intOf];omega
  ·have hks:k=s.size:=by omega
   rw [hks] at hcell
   have hcv2:=fold_conv (cap:=cap) hcell
   clear hks
   go_wp2
   go_ret
   exact ⟨rfl,hb⟩
def trimZ (s:ByteArray):ByteArray:=if h:0<s.size then (if (s[0]'h).toNat=32 then s.extract 1 s.size else s) else s
theorem trim_size (s:ByteArray):(trimZ s).size≤s.size:=by
 unfold trimZ
 split
 ·split
  ·simp
  ·exact Nat.le_refl _
 ·exact Nat.le_refl _
theorem sgn_size (s:ByteArray):(sgnZ s).2.size≤s.size:=by
 unfold sgnZ
 split
 ·split
  ·simp
  ·split
   ·simp
   ·exact Nat.le_refl _
 ·exact Nat.le_refl _
theorem trimPrefix_any (s:ByteArray) (w:World):Calls Tryz.prog 183 #[.string s,.string ⟨#[32]⟩] w fun e w'=>e=.returned (.string (trimZ s))∧w=w':=by
 by_cases h0:0<s.size
 ·have f1:=first_list s h0 32
  have h1:(1:Int)≤(s.size:Int):=by omega
  by_cases h32:(s[0]'h0).toNat=32
  ·have e32:(s[0]'h0)=32:=UInt8.toNat_inj.1 h32
   have HS:Hid (trimZ s=s.extract 1 s.size):=by
    show _=_
    unfold trimZ
    rw [dif_pos h0,if_pos h32]
   have z1:((s.extract 0 1).toList == [32])=true:=by rw [f1,e32];rfl
   clear f1 h32 e32
   go_enter Tryz.func183,Tryz.ntmps183
   go_wp2
   go_ret
   exact ⟨congrArg (fun s=>Ending.returned (.string s)) HS.out.symm,rfl⟩
  ·have HS:Hid (trimZ s=s):=by
    show _=_
    unfold trimZ
    rw [dif_pos h0,if_neg h32]
   have n32:((s[0]'h0) == 32)=false:=by
    rw [Bool.eq_false_iff]
    intro h
    have:(s[0]'h0)=32:=by simpa using h
    rw [this] at h32
    exact h32 rfl
   have z1:((s.extract 0 1).toList == [32])=false:=by rw [f1,n32]
   clear f1 h32 n32
   go_enter Tryz.func183,Tryz.ntmps183
   go_wp2
   go_ret
   exact ⟨congrArg (fun s=>Ending.returned (.string s)) HS.out.symm,rfl⟩
 ·have e0:=empty_of (show s.size=0 by omega)
  subst e0
  go_enter Tryz.func183,Tryz.ntmps183
  go_wp2
  go_ret
  exact ⟨rfl,rfl⟩
theorem dig_take:∀ l:List Int,Dig (l.take (digN l))
 | [],c,hc=>by simp at hc
 | x::r,c,hc=>by
   rw [digN] at hc
   split at hc
   ·rename_i h
    rw [List.take_succ_cons] at hc
    rcases List.mem_cons.1 hc with rfl | hc
    ·unfold digitZ at h
     simp at h
     exact h
    ·exact dig_take r c hc
   ·simp at hc
def dirB (sg:ByteArray):Int:=if sg=⟨#[45]⟩ then -1 else 1
theorem sgn_cases (s:ByteArray):(sgnZ s).1=⟨#[43]⟩∨(sgnZ s).1=⟨#[45]⟩∨(sgnZ s).1=⟨#[]⟩:=by
 unfold sgnZ
 split
 ·split
  ·exact .inl rfl
  ·split
   ·exact .inr (.inl rfl)
   ·exact .inr (.inr rfl)
 ·exact .inr (.inr rfl)
def behindZ (s:ByteArray):Int×Bool :=
 if s.size=0 then (0,true)
 else if (sgnZ (trimZ s)).1=⟨#[]⟩∨digN (bytesL (trimZ (sgnZ (trimZ s)).2))=0∨digN (bytesL (trimZ (sgnZ (trimZ s)).2))<(trimZ (sgnZ (trimZ s)).2).size then (0,false)
 else (dirB (sgnZ (trimZ s)).1 * satL ((bytesL (trimZ (sgnZ (trimZ s)).2)).take (digN (bytesL (trimZ (sgnZ (trimZ s)).2)))),true)
theorem ret2_p {v:Int×Bool} {a:Int} {b:Bool} (h:v=(a,b)):Ending.returned (.tuple #[.int .i64 a,.bool b])=.returned (.tuple #[.int .i64 v.1,.bool v.2]):=by rw [h]
theorem empty_facts (s:ByteArray):(s.size=0→s=⟨#[]⟩)∧(0<s.size→(s == ⟨#[]⟩)=false∧(s.toList == [])=false∧(s != ⟨#[]⟩)=true):=by
 refine ⟨empty_of,fun h=>?_⟩
 have h3:(s.toList == [])=false:=by
  rw [Bool.eq_false_iff]
  intro h2
  rw [beq_iff_eq,ByteArray.toList_eq] at h2
  have h4:=congrArg List.length h2
  have h5:s.size=0:=by simpa using h4
  omega
 have h4:(s == ⟨#[]⟩)=false:=by rw [beq_toListBytes,ByteArray.toList_eq ⟨#[]⟩];exact h3
 exact ⟨h4,h3,by simp [bne,h4]⟩
theorem cutBehind_any (s:ByteArray) (hs:s.size≤1000000000000) (w:World) :
  Calls Tryz.prog 176 #[.string s] w fun e w'=>e=.returned (.tuple #[.int .i64 (behindZ s).1,.bool (behindZ s).2])∧Below w.heap.size w w':=by
 have hB:Below w.heap.size w w:=Below.refl _ w
 by_cases h0:0<s.size
 ·obtain ⟨n1,n2,n3⟩:=(empty_facts s).2 h0
  have ht:=trimPrefix_any s w
  have hsg:=fun w=>signAhead_any (trimZ s) w
  have ht2:=fun w=>trimPrefix_any (sgnZ (trimZ s)).2 w
  have hsz:(trimZ (sgnZ (trimZ s)).2).size≤1000000000000:=Nat.le_trans (trim_size _) (Nat.le_trans (sgn_size _) (Nat.le_trans (trim_size _) hs))
  have hnu:=fun w=>numberAhead_any (trimZ (sgnZ (trimZ s)).2) hsz w
  have HV:Hid (behindZ s=if (sgnZ (trimZ s)).1=⟨#[]⟩∨digN (bytesL (trimZ (sgnZ (trimZ s)).2))=0∨digN (bytesL (trimZ (sgnZ (trimZ s)).2))<(trimZ (sgnZ (trimZ s)).2).size then (0,false) else (dirB (sgnZ (trimZ s)).1 * satL ((bytesL (trimZ (sgnZ (trimZ s)).2)).take (digN (bytesL (trimZ (sgnZ (trimZ s)).2)))),true)):=by
   show _=_
   unfold behindZ
   rw [if_neg (by omega)]
  have hsc:=sgn_cases (trimZ s)
  have hbd:0≤satL ((bytesL (trimZ (sgnZ (trimZ s)).2)).take (digN (bytesL (trimZ (sgnZ (trimZ s)).2))))∧satL ((bytesL (trimZ (sgnZ (trimZ s)).2)).take (digN (bytesL (trimZ (sgnZ (trimZ s)).2))))≤1000000:=satL_bd _ (dig_take _)
  have hrs:((trimZ (sgnZ (trimZ s)).2).extract (digN (bytesL (trimZ (sgnZ (trimZ s)).2))) (trimZ (sgnZ (trimZ s)).2).size).size=(trimZ (sgnZ (trimZ s)).2).size - digN (bytesL (trimZ (sgnZ (trimZ s)).2)):=by simp
  have hef:=empty_facts ((trimZ (sgnZ (trimZ s)).2).extract (digN (bytesL (trimZ (sgnZ (trimZ s)).2))) (trimZ (sgnZ (trimZ s)).2).size)
  generalize satL ((bytesL (trimZ (sgnZ (trimZ s)).2)).take (digN (bytesL (trimZ (sgnZ (trimZ s)).2))))=n at *
  generalize (trimZ (sgnZ (trimZ s)).2).extract (digN (bytesL (trimZ (sgnZ (trimZ s)).2))) (trimZ (sgnZ (trimZ s)).2).size=rest at *
  generalize digN (bytesL (trimZ (sgnZ (trimZ s)).2))=p at *
  generalize (trimZ (sgnZ (trimZ s)).2).size=tn at *
  generalize trimZ (sgnZ (trimZ s)).2=t2 at *
  generalize (sgnZ (trimZ s)).1=sg at *
  generalize (sgnZ (trimZ s)).2=t1 at *
  generalize trimZ s=t0 at *
  go_enter Tryz.func176,Tryz.ntmps176
  go_wp2_with (go_at_call 183;fail)
  refine (ht).mono ?_
  rintro e w1 ⟨rfl,rfl⟩
  go_wp2_with (go_at_call 172;fail)
  refine (hsg _).mono ?_
  rintro e w2 ⟨rfl,b2⟩
  go_wp2_with (go_at_call 183;fail)
  refine (ht2 _).mono ?_
  rintro e w' ⟨rfl,rfl⟩
  go_wp2_with (go_at_call 173;fail)
  refine (hnu _).mono ?_
  rintro e w3 ⟨rfl,b3⟩
  have B3:=b2.trans (b3.mono b2.size)
  clear ht hsg ht2 hnu b2 b3
  rcases hsc with rfl | rfl | rfl
  ·by_cases hp0:p=0
   ·subst hp0
    have HR:Hid (behindZ s=(0,false)):=by show _=_;rw [HV.out,if_pos (.inr (.inl rfl))]
    clear HV hef hrs
    go_wp2
    go_ret2
    exact ⟨ret2_p HR.out,B3⟩
   ·have hp1:0<p:=by omega
    have zp:decide (0<p)=true:=by simp [hp1]
    by_cases hlt:p<tn
    ·have HR:Hid (behindZ s=(0,false)):=by show _=_;rw [HV.out,if_pos (.inr (.inr hlt))]
     obtain ⟨r1,r2,r3⟩:=hef.2 (by omega)
     clear HV hef hrs
     go_wp2
     go_ret2
     exact ⟨ret2_p HR.out,B3⟩
    ·have HR:Hid (behindZ s=(1 * n,true)):=by
      show _=_
      rw [HV.out,if_neg]
      ·rfl
      ·rintro (h | h | h)
       ·exact absurd h (by decide)
       ·omega
       ·omega
     have er:=hef.1 (by omega)
     subst er
     clear HV hef hrs
     go_wp2_with (go_at_call 174;fail)
     refine (direction_p _).mono ?_
     rintro e w' ⟨rfl,rfl⟩
     go_wp2
     go_ret2
     exact ⟨ret2_p (HR.out.trans (by congr 1;omega)),B3⟩
  ·by_cases hp0:p=0
   ·subst hp0
    have HR:Hid (behindZ s=(0,false)):=by show _=_;rw [HV.out,if_pos (.inr (.inl rfl))]
    clear HV hef hrs
    go_wp2
    go_ret2
    exact ⟨ret2_p HR.out,B3⟩
   ·have hp1:0<p:=by omega
    have zp:decide (0<p)=true:=by simp [hp1]
    by_cases hlt:p<tn
    ·have HR:Hid (behindZ s=(0,false)):=by show _=_;rw [HV.out,if_pos (.inr (.inr hlt))]
     obtain ⟨r1,r2,r3⟩:=hef.2 (by omega)
     clear HV hef hrs
     go_wp2
     go_ret2
     exact ⟨ret2_p HR.out,B3⟩
    ·have HR:Hid (behindZ s=(-1 * n,true)):=by
      show _=_
      rw [HV.out,if_neg]
      ·rfl
      ·rintro (h | h | h)
       ·exact absurd h (by decide)
       ·omega
       ·omega
     have er:=hef.1 (by omega)
     subst er
     clear HV hef hrs
     go_wp2_with (go_at_call 174;fail)
     refine (direction_m _).mono ?_
     rintro e w' ⟨rfl,rfl⟩
     go_wp2
     go_ret2
     exact ⟨ret2_p (HR.out.trans (by congr 1;omega)),B3⟩
  ·have HR:Hid (behindZ s=(0,false)):=by show _=_;rw [HV.out,if_pos (.inl rfl)]
   clear HV hef hrs
   go_wp2
   go_ret2
   exact ⟨ret2_p HR.out,B3⟩
 ·have e0:=empty_of (show s.size=0 by omega)
  subst e0
  go_enter Tryz.func176,Tryz.ntmps176
  go_wp2
  go_ret2
  exact ⟨rfl,hB⟩
end Go.Proofs.YtemlnblifkdenaaGreatDoor.N
