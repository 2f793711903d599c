/- strings.Trim at a cutset of one blank. text.Fold, whatever the text. -/
import Derived.Test.YtdneaeokljoijaaGreatDoorLId
import Derived.Test.YtdneaeokljoijaaGreatDoorFold
import Derived.Test.YtdneaeokljoijaaGreatDoorRows
import Derived.WalkKit
import Derived.WalkLawsBesides
import Derived.IntWalk
import Derived.WalkSmall
import Derived.WalkMore
import Derived.Laws.IdiomStrings
import Derived.WalkSpells
import Derived.Laws.BytesArg
import Derived.Laws.Cover4
import Derived.Shelf.Strconv.Itoa3
import Derived.Shelf.Lay
import Derived.Lib.AppendIntMem
import Derived.Lib.DecodeN
import Derived.Lib.OthersKept
import Derived.BigQuiet
import Derived.Deep.QuietTactic
import Derived.Lib.RuneCount
import Derived.OwnWalk
set_option maxRecDepth 100000
set_option maxHeartbeats 8000000
namespace Go.Proofs.YtdneaeokljoijaaGreatDoor.L
open Go.RowKit
def starB:ByteArray:=⟨#[42]⟩
def tagR (vs:List V):Option (List S6×Nat):=match vs with
 | v::_=>if (ahd vs 0 1 || dlm vs 0 starB)=true then some ([⟨1,foldS v.tok.tx,0,⟨#[]⟩,0,0⟩],1) else none
 | []=>none
theorem tagR_none {vs:List V} (h:(ahd vs 0 1 || dlm vs 0 starB)=false):tagR vs=none:=by
 cases vs with
 | nil=>rfl
 | cons v r =>
   show (if (ahd (v::r) 0 1 || dlm (v::r) 0 starB)=true then _ else _)=_
   rw [if_neg (by rw [h];decide)]
theorem tagR_some {vs:List V} (h:(ahd vs 0 1 || dlm vs 0 starB)=true):∃ v,vs[0]? = some v∧1≤vs.length∧tagR vs=some ([⟨1,foldS v.tok.tx,0,⟨#[]⟩,0,0⟩],1):=by
 cases vs with
 | nil=>cases h
 | cons v r =>
   refine ⟨v,rfl,by simp,?_⟩
   show (if (ahd (v::r) 0 1 || dlm (v::r) 0 starB)=true then _ else _)=_
   rw [if_pos h]
theorem tag_any {W:World} {lo b:Nat} {kids:Value} {vs:List V} (h:Rd lo W b kids vs W) (hz:∀ v∈vs,v.tok.tx.size≤1000000000000) :
  Calls Tryz.prog 81 #[.pointer (some ⟨b,0,none⟩)] W (Way lo W b kids vs (tagR vs)):=by
 have hd:=delim_any h 0 starB
 have ha:=ahead_any h 0 1
 by_cases hk:(ahd vs 0 1 || dlm vs 0 starB)=true
 ·obtain ⟨u,hu,hlen,hE⟩:=tagR_some hk
  have hus:u.tok.tx.size≤1000000000000:=hz u (List.mem_of_getElem? hu)
  obtain ⟨a,n,cap,hn,hc1,hc2,h1,_,hs⟩:=h.see
  have c0:W.cell? ⟨b,0,none⟩=some (.slice a n cap):=cellAt h1 0
  obtain ⟨hl,g,off,kv,rfl,q0,q1,q4,q5,hkv⟩:=hs 0 u hu
  rw [Nat.zero_mul,Nat.add_zero] at q0 q1 q4 q5
  have hfo:=fold_any u.tok.tx W hus
  have HT:Hid (∀ w2,Below W.heap.size W w2→Calls Tryz.prog 104 #[.pointer (some ⟨b,0,none⟩),.int .i64 1,.slice (some ⟨w2.heap.size,0,none⟩) 1 1] (w2.alloc (.cells #[.int .i64 1,.string (foldS u.tok.tx),.int .i64 0,.string ⟨#[]⟩,.int .i64 0,.int .i64 0,.slice none 0 0] 46)) fun e w'=>Way lo W b kids vs (some ([⟨1,foldS u.tok.tx,0,⟨#[]⟩,0,0⟩],1)) e w'):=fun w2 hB2=>by
   have hB1:Below W.heap.size W (w2.alloc (.cells (sC ⟨1,foldS u.tok.tx,0,⟨#[]⟩,0,0⟩).toArray 46)):=hB2.alloc hB2.size _
   have hx1:(w2.alloc (.cells (sC ⟨1,foldS u.tok.tx,0,⟨#[]⟩,0,0⟩).toArray 46)).heap[w2.heap.size]? = some (.cells (sC ⟨1,foldS u.tok.tx,0,⟨#[]⟩,0,0⟩).toArray 46 (0,0)):=heap_alloc_last w2 _
   refine (told_any (h.then hB1).self 1 hlen (g:=w2.heap.size) (m:=1) (c:=1) (cs:=sC ⟨1,foldS u.tok.tx,0,⟨#[]⟩,0,0⟩) (by have:=h.lt;have:=hB2.size;omega) (by simp) (by decide) rfl (fun j u hu=>by rw [cellAt hx1 j];simpa using hu) (sC_one _)).mono ?_
   rintro e w' ⟨v',rfl,ho,hr⟩
   exact ⟨v',rfl,⟨ho.1,ho.2.imp id fun ⟨g,cap,cur,x1,x2,x3⟩=>⟨g,cap,cur,x1,Nat.le_trans hB1.size x2,x3⟩⟩,(h.then hB1).from hr⟩
  rw [hE]
  cases hk1:ahd vs 0 1 with
  | true =>
    rw [hk1] at ha
    clear h h1 hs hn hE hk hk1 q0 q4 q5 hkv hu hd hz
    go_enter Tryz.func81,Tryz.ntmps81
    go_wp2_with (go_at_call 25;fail)
    refine ha.mono ?_
    rintro e w1 ⟨rfl,rfl⟩
    clear ha
    go_wp2_with (go_at_call 72;fail)
    refine hfo.mono ?_
    rintro e w2 ⟨rfl,hB2⟩
    have htl:=HT.out w2 hB2
    clear hfo HT hB2
    go_wp2_with (go_at_call 104;fail)
    refine htl.mono ?_
    rintro e w3 ⟨v',rfl,ho,hr⟩
    have HZ:Hid (Way lo w1 b kids vs (some ([⟨1,foldS u.tok.tx,0,⟨#[]⟩,0,0⟩],1)) (.returned v') w3):=⟨v',rfl,ho,hr⟩
    clear htl ho hr
    go_wp2
    go_ret
    exact HZ.out
  | false =>
    have hk2:dlm vs 0 starB=true:=by rw [hk1,Bool.false_or] at hk;exact hk
    rw [hk1] at ha
    rw [hk2] at hd
    unfold starB at hd
    clear h h1 hs hn hE hk hk1 hk2 q0 q4 q5 hkv hu hz
    go_enter Tryz.func81,Tryz.ntmps81
    go_wp2_with (go_at_call 25;fail)
    refine ha.mono ?_
    rintro e w1 ⟨rfl,rfl⟩
    clear ha
    go_wp2_with (go_at_call 103;fail)
    refine hd.mono ?_
    rintro e w1 ⟨rfl,rfl⟩
    clear hd
    go_wp2_with (go_at_call 72;fail)
    refine hfo.mono ?_
    rintro e w2 ⟨rfl,hB2⟩
    have htl:=HT.out w2 hB2
    clear hfo HT hB2
    go_wp2_with (go_at_call 104;fail)
    refine htl.mono ?_
    rintro e w3 ⟨v',rfl,ho,hr⟩
    have HZ:Hid (Way lo w1 b kids vs (some ([⟨1,foldS u.tok.tx,0,⟨#[]⟩,0,0⟩],1)) (.returned v') w3):=⟨v',rfl,ho,hr⟩
    clear htl ho hr
    go_wp2
    go_ret
    exact HZ.out
 ·have hk0:(ahd vs 0 1 || dlm vs 0 starB)=false:=by simpa using hk
  rw [Bool.or_eq_false_iff] at hk0
  rw [tagR_none (by rw [hk0.1,hk0.2];rfl)]
  rw [hk0.1] at ha
  rw [hk0.2] at hd
  unfold starB at hd
  clear h hk hk0 hz
  go_enter Tryz.func81,Tryz.ntmps81
  go_wp2_with (go_at_call 25;fail)
  refine ha.mono ?_
  rintro e w1 ⟨rfl,rfl⟩
  clear ha
  go_wp2_with (go_at_call 103;fail)
  refine hd.mono ?_
  rintro e w1 ⟨rfl,rfl⟩
  clear hd
  go_wp2
  go_ret
  exact ⟨rfl,Below.refl _ _⟩
theorem Signs.lt {W:World} (h:Signs W) {j:Nat} {v:Value} (hv:sgnC[j]? = some v):sgB<W.heap.size:=by
 have h1:=h j v hv
 rcases Nat.lt_or_ge sgB W.heap.size with h0 | h0
 ·exact h0
 ·have:W.heap[sgB]? = none:=Array.getElem?_eq_none h0
  simp [World.cell?,this] at h1
theorem Signs.keep {W W':World} (h:Signs W) (hb:Below W.heap.size W W'):Signs W':=fun j v hv=>by
 have h1:=h j v hv
 have hl:=h.lt (v:=v) hv
 exact (cell_of_heap (hb.block sgB hl)).trans h1
theorem Signs.keepX {W W':World} {b:Nat} (h:Signs W) (hb:KeepX b W W') (hn:b≠sgB):Signs W':=fun j v hv=>by
 have h1:=h j v hv
 have hl:=h.lt (v:=v) hv
 exact (cell_of_heap (hb.block sgB hl (by omega))).trans h1
def fnR (vs:List V):Int:=match vs[1]? with
 | some u=>if (ahd vs 0 16 && ahd vs 1 2)=true then numZ 2 (foldS u.tok.tx) else 0
 | none=>0
theorem ahd_some {vs:List V} {i:Nat} {k:Int} (h:ahd vs i k=true):∃ u,vs[i]? = some u:=by
 unfold ahd at h
 cases hu:vs[i]? with
 | none=>rw [hu] at h;cases h
 | some u=>exact ⟨u,rfl⟩
theorem fnR_no {vs:List V} (h:(ahd vs 0 16 && ahd vs 1 2)=false):fnR vs=0:=by
 unfold fnR
 cases vs[1]? with
 | none=>rfl
 | some u=>simp only [];rw [if_neg (by rw [h];decide)]
theorem function_any {W0 W:World} {lo b:Nat} {kids:Value} {vs:List V} (h:Rd lo W0 b kids vs W) (hsg:Signs W) (hz:∀ v∈vs,v.tok.tx.size≤1000000000000) :
  Calls Tryz.prog 120 #[.pointer (some ⟨b,0,none⟩)] W fun e w'=>e=.returned (.int .i64 (fnR vs))∧Below W.heap.size W w':=by
 have ha:=ahead_any h 0 16
 have ha2:=ahead_any h 1 2
 cases hk1:ahd vs 0 16 with
 | false =>
   rw [fnR_no (by rw [hk1];rfl)]
   rw [hk1] at ha
   clear h hsg hz hk1 ha2
   go_enter Tryz.func120,Tryz.ntmps120
   go_wp2_with (go_at_call 25;fail)
   refine ha.mono ?_
   rintro e w1 ⟨rfl,rfl⟩
   clear ha
   go_wp2
   go_ret
   exact ⟨rfl,Below.refl _ _⟩
 | true =>
   cases hk2:ahd vs 1 2 with
   | false =>
     rw [fnR_no (by rw [hk1,hk2];rfl)]
     rw [hk1] at ha
     rw [hk2] at ha2
     clear h hsg hz hk1 hk2
     go_enter Tryz.func120,Tryz.ntmps120
     go_wp2_with (go_at_call 25;fail)
     refine ha.mono ?_
     rintro e w1 ⟨rfl,rfl⟩
     clear ha
     go_wp2_with (go_at_call 25;fail)
     refine ha2.mono ?_
     rintro e w1 ⟨rfl,rfl⟩
     clear ha2
     go_wp2
     go_ret
     exact ⟨rfl,Below.refl _ _⟩
   | true =>
     obtain ⟨u,hu⟩:=ahd_some hk2
     have HE:Hid (fnR vs=numZ 2 (foldS u.tok.tx)):=by
      rw [Hid]
      unfold fnR
      rw [hu]
      simp only [hk1,hk2,Bool.and_self,if_true]
     have hus:u.tok.tx.size≤1000000000000:=hz u (List.mem_of_getElem? hu)
     obtain ⟨a,n,cap,hn,hc1,hc2,h1,_,hs⟩:=h.see
     have c0:W.cell? ⟨b,0,none⟩=some (.slice a n cap):=cellAt h1 0
     obtain ⟨hl,g,off,kv,rfl,q0,q1,q4,q5,hkv⟩:=hs 1 u hu
     rw [Nat.one_mul] at q0 q1 q4 q5
     have hfo:=fold_any u.tok.tx W hus
     have HN:Hid (∀ w2,Below W.heap.size W w2→_):=fun w2 hB=>number_any (hsg.keep hB) 2 (foldS u.tok.tx)
     rw [HE.out]
     rw [hk1] at ha
     rw [hk2] at ha2
     clear h h1 hs hn HE hk1 hk2 q0 q4 q5 hkv hu hz hsg
     go_enter Tryz.func120,Tryz.ntmps120
     go_wp2_with (go_at_call 25;fail)
     refine ha.mono ?_
     rintro e w1 ⟨rfl,rfl⟩
     clear ha
     go_wp2_with (go_at_call 25;fail)
     refine ha2.mono ?_
     rintro e w1 ⟨rfl,rfl⟩
     clear ha2
     go_wp2_with (go_at_call 72;fail)
     refine hfo.mono ?_
     rintro e w2 ⟨rfl,hB2⟩
     have hnu:=HN.out w2 hB2
     have HB2:=hid_mk hB2
     clear hfo HN hB2
     go_wp2_with (go_at_call 83;fail)
     refine hnu.mono ?_
     rintro e w3 ⟨rfl,hB3⟩
     have HB3:=hid_mk (HB2.out.trans (hB3.mono HB2.out.size))
     clear hnu hB3
     go_wp2
     go_ret
     exact ⟨rfl,HB3.out⟩
def eqB:ByteArray:=⟨#[61]⟩
def opR (vs:List V):Int×Nat:=if dlm vs 0 eqB=true then (1,1) else if (ahd vs 0 9 && dlm vs 1 eqB)=true then (match vs[0]? with
 | some v=>numZ 1 v.tok.tx
 | none=>0,2) else (0,0)
theorem dlm_lt {vs:List V} {i:Nat} {s:ByteArray} (h:dlm vs i s=true):i<vs.length:=by
 unfold dlm at h
 cases hu:vs[i]? with
 | none=>rw [hu] at h;cases h
 | some u=>exact (List.getElem?_eq_some_iff.1 hu).1
theorem operator_any {W:World} {lo b:Nat} {kids:Value} {vs:List V} (h:Rd lo W b kids vs W) (hsg:Signs W) :
  Calls Tryz.prog 126 #[.pointer (some ⟨b,0,none⟩)] W fun e w'=>e=.returned (.int .i64 (opR vs).1)∧Rd lo W b kids (vs.drop (opR vs).2) w':=by
 have hd:=delim_any h 0 eqB
 have ha:=ahead_any h 0 9
 have hd1:=delim_any h 1 eqB
 cases hk:dlm vs 0 eqB with
 | true =>
   have HE:Hid (opR vs=(1,1)):=by rw [Hid,opR,if_pos hk]
   have hsk:=skip_any h 1 (dlm_lt hk)
   rw [HE.out]
   rw [hk] at hd
   unfold eqB at hd
   clear h hsg ha hd1 hk HE
   go_enter Tryz.func126,Tryz.ntmps126
   go_wp2_with (go_at_call 103;fail)
   refine hd.mono ?_
   rintro e w1 ⟨rfl,rfl⟩
   clear hd
   go_wp2_with (go_at_call 26;fail)
   refine hsk.mono ?_
   rintro e w2 ⟨rfl,hR⟩
   have HR:=hid_mk hR
   clear hsk hR
   go_wp2
   go_ret
   exact ⟨rfl,HR.out⟩
 | false =>
   rw [hk] at hd
   unfold eqB at hd
   cases hk1:ahd vs 0 9 with
   | false =>
     have HE:Hid (opR vs=(0,0)):=by rw [Hid,opR,if_neg (by rw [hk];decide),if_neg (by rw [hk1];simp)]
     have HR:=hid_mk h
     rw [HE.out]
     rw [hk1] at ha
     clear h hsg hd1 hk hk1 HE
     go_enter Tryz.func126,Tryz.ntmps126
     go_wp2_with (go_at_call 103;fail)
     refine hd.mono ?_
     rintro e w1 ⟨rfl,rfl⟩
     clear hd
     go_wp2_with (go_at_call 25;fail)
     refine ha.mono ?_
     rintro e w1 ⟨rfl,rfl⟩
     clear ha
     go_wp2
     go_ret
     exact ⟨rfl,HR.out⟩
   | true =>
     cases hk2:dlm vs 1 eqB with
     | false =>
       have HE:Hid (opR vs=(0,0)):=by rw [Hid,opR,if_neg (by rw [hk];decide),if_neg (by rw [hk2];simp)]
       have HR:=hid_mk h
       rw [HE.out]
       rw [hk1] at ha
       rw [hk2] at hd1
       unfold eqB at hd1
       clear h hsg hk hk1 hk2 HE
       go_enter Tryz.func126,Tryz.ntmps126
       go_wp2_with (go_at_call 103;fail)
       refine hd.mono ?_
       rintro e w1 ⟨rfl,rfl⟩
       clear hd
       go_wp2_with (go_at_call 25;fail)
       refine ha.mono ?_
       rintro e w1 ⟨rfl,rfl⟩
       clear ha
       go_wp2_with (go_at_call 103;fail)
       refine hd1.mono ?_
       rintro e w1 ⟨rfl,rfl⟩
       clear hd1
       go_wp2
       go_ret
       exact ⟨rfl,HR.out⟩
     | true =>
       obtain ⟨u,hu⟩:=ahd_some hk1
       have HE:Hid (opR vs=(numZ 1 u.tok.tx,2)):=by rw [Hid,opR,if_neg (by rw [hk];decide),if_pos (by rw [hk1,hk2];rfl),hu]
       obtain ⟨a,n,cap,hn,hc1,hc2,h1,_,hs⟩:=h.see
       have c0:W.cell? ⟨b,0,none⟩=some (.slice a n cap):=cellAt h1 0
       obtain ⟨hl,g,off,kv,rfl,q0,q1,q4,q5,hkv⟩:=hs 0 u hu
       rw [Nat.zero_mul,Nat.add_zero] at q0 q1 q4 q5
       have hnu:=number_any hsg 1 u.tok.tx
       have HSK:Hid (∀ w2,Below W.heap.size W w2→Calls Tryz.prog 26 #[.pointer (some ⟨b,0,none⟩),.int .i64 2] w2 fun e w'=>e=.returned (.tuple #[])∧Rd lo W b kids (vs.drop 2) w'):=fun w2 hB=>(skip_any (h.then hB).self 2 (dlm_lt hk2)).mono fun e w' q=>⟨q.1,(h.then hB).from q.2⟩
       rw [HE.out]
       rw [hk1] at ha
       rw [hk2] at hd1
       unfold eqB at hd1
       clear h h1 hs hn HE hk hk1 hk2 q0 q4 q5 hkv hu hsg
       go_enter Tryz.func126,Tryz.ntmps126
       go_wp2_with (go_at_call 103;fail)
       refine hd.mono ?_
       rintro e w1 ⟨rfl,rfl⟩
       clear hd
       go_wp2_with (go_at_call 25;fail)
       refine ha.mono ?_
       rintro e w1 ⟨rfl,rfl⟩
       clear ha
       go_wp2_with (go_at_call 103;fail)
       refine hd1.mono ?_
       rintro e w1 ⟨rfl,rfl⟩
       clear hd1
       go_wp2_with (go_at_call 83;fail)
       refine hnu.mono ?_
       rintro e w2 ⟨rfl,hB2⟩
       have hsk:=HSK.out w2 hB2
       clear hnu hB2 HSK
       go_wp2_with (go_at_call 26;fail)
       refine hsk.mono ?_
       rintro e w3 ⟨rfl,hR⟩
       have HR:=hid_mk hR
       clear hsk hR
       go_wp2
       go_ret
       exact ⟨rfl,HR.out⟩
theorem ssC_len:∀ l:List S6,(ssC l).length=l.length * 7
 | []=>rfl
 | s::l=>by
   have:=ssC_len l
   simp only [ssC,List.flatMap_cons,List.length_append,List.length_cons] at this ⊢
   rw [this,sC_len]
   omega
theorem ssC_one (l:List S6):∀ u∈ssC l,u.oneCell'=true:=by
 intro u hu
 obtain ⟨s,_,hs⟩:=List.mem_flatMap.1 hu
 exact sC_one s u hs
theorem told_lit {W:World} {lo b:Nat} {kids:Value} {vs:List V} (h:Rd lo W b kids vs W) (l:List S6) (n:Nat) (hn:n≤vs.length) (hl:l.length≤10) (w2:World) (hB2:Below W.heap.size W w2) :
  Calls Tryz.prog 104 #[.pointer (some ⟨b,0,none⟩),.int .i64 (n:Int),.slice (some ⟨w2.heap.size,0,none⟩) l.length l.length] (w2.alloc (.cells (ssC l).toArray 46)) (Way lo W b kids vs (some (l,n))):=by
 have hB1:Below W.heap.size W (w2.alloc (.cells (ssC l).toArray 46)):=hB2.alloc hB2.size _
 have hx1:(w2.alloc (.cells (ssC l).toArray 46)).heap[w2.heap.size]? = some (.cells (ssC l).toArray 46 (0,0)):=heap_alloc_last w2 _
 refine (told_any (h.then hB1).self n hn (g:=w2.heap.size) (m:=l.length) (c:=l.length) (cs:=ssC l) (by have:=h.lt;have:=hB2.size;omega) (by simp) hl (ssC_len l) (fun j u hu=>by rw [cellAt hx1 j];simpa using hu) (ssC_one l)).mono ?_
 rintro e w' ⟨v',rfl,ho,hr⟩
 exact ⟨v',rfl,⟨ho.1,ho.2.imp id fun ⟨g,cap,cur,x1,x2,x3⟩=>⟨g,cap,cur,x1,Nat.le_trans hB1.size x2,x3⟩⟩,(h.then hB1).from hr⟩
def nthS (k:Int):S6:=⟨k,⟨#[]⟩,0,⟨#[]⟩,0,1⟩
def stL (nm:ByteArray):Option (List S6×Nat) :=
 if (nm.toList == [102,105,114,115,116,45,99,104,105,108,100])=true then some ([nthS 8],2) else if (nm.toList == [108,97,115,116,45,99,104,105,108,100])=true then some ([nthS 9],2) else if (nm.toList == [111,110,108,121,45,99,104,105,108,100])=true then some ([nthS 8,nthS 9],2)
 else if numZ 2 nm=10∨numZ 2 nm=11 then some ([⟨numZ 2 nm,⟨#[]⟩,0,⟨#[]⟩,0,0⟩],2) else none
def stateR (vs:List V):Option (List S6×Nat):=match vs[1]? with
 | some u=>if (ahd vs 0 16 && ahd vs 1 1)=true then stL (foldS u.tok.tx) else none
 | none=>none
theorem stateR_no {vs:List V} (h:(ahd vs 0 16 && ahd vs 1 1)=false):stateR vs=none:=by
 unfold stateR
 cases vs[1]? with
 | none=>rfl
 | some u=>simp only [];rw [if_neg (by rw [h];decide)]
theorem state_any {W:World} {lo b:Nat} {kids:Value} {vs:List V} (h:Rd lo W b kids vs W) (hsg:Signs W) (hz:∀ v∈vs,v.tok.tx.size≤1000000000000) :
  Calls Tryz.prog 108 #[.pointer (some ⟨b,0,none⟩)] W (Way lo W b kids vs (stateR vs)):=by
 have ha:=ahead_any h 0 16
 have ha2:=ahead_any h 1 1
 cases hk1:ahd vs 0 16 with
 | false =>
   rw [stateR_no (by rw [hk1];rfl)]
   rw [hk1] at ha
   clear h hsg hz hk1 ha2
   go_enter Tryz.func108,Tryz.ntmps108
   go_wp2_with (go_at_call 25;fail)
   refine ha.mono ?_
   rintro e w1 ⟨rfl,rfl⟩
   clear ha
   go_wp2
   go_ret
   exact ⟨rfl,Below.refl _ _⟩
 | true =>
 cases hk2:ahd vs 1 1 with
 | false =>
   rw [stateR_no (by rw [hk1,hk2];rfl)]
   rw [hk1] at ha
   rw [hk2] at ha2
   clear h hsg hz hk1 hk2
   go_enter Tryz.func108,Tryz.ntmps108
   go_wp2_with (go_at_call 25;fail)
   refine ha.mono ?_
   rintro e w1 ⟨rfl,rfl⟩
   clear ha
   go_wp2_with (go_at_call 25;fail)
   refine ha2.mono ?_
   rintro e w1 ⟨rfl,rfl⟩
   clear ha2
   go_wp2
   go_ret
   exact ⟨rfl,Below.refl _ _⟩
 | true =>
 obtain ⟨u,hu⟩:=ahd_some hk2
 have hlen:2≤vs.length:=(List.getElem?_eq_some_iff.1 hu).1
 have HE0:Hid (stateR vs=stL (foldS u.tok.tx)):=by
  rw [Hid]
  unfold stateR
  rw [hu]
  simp only [hk1,hk2,Bool.and_self,if_true]
 have hus:u.tok.tx.size≤1000000000000:=hz u (List.mem_of_getElem? hu)
 obtain ⟨a,n,cap,hn,hc1,hc2,h1,_,hs⟩:=h.see
 have c0:W.cell? ⟨b,0,none⟩=some (.slice a n cap):=cellAt h1 0
 obtain ⟨hl,g,off,kv,rfl,q0,q1,q4,q5,hkv⟩:=hs 1 u hu
 rw [Nat.one_mul] at q0 q1 q4 q5
 have hfo:=fold_any u.tok.tx W hus
 have HT:Hid (∀ l w3,Below W.heap.size W w3→l.length≤10→Calls Tryz.prog 104 #[.pointer (some ⟨b,0,none⟩),.int .i64 2,.slice (some ⟨w3.heap.size,0,none⟩) l.length l.length] (w3.alloc (.cells (ssC l).toArray 46)) (Way lo W b kids vs (some (l,2)))):=fun l w3 hB hl=>told_lit h l 2 hlen hl w3 hB
 have HN:Hid (∀ nm w3,Below W.heap.size W w3→Calls Tryz.prog 83 #[.int .i64 2,.string nm] w3 fun e w'=>e=.returned (.int .i64 (numZ 2 nm))∧Below w3.heap.size w3 w'):=fun nm w3 hB=>number_any (hsg.keep hB) 2 nm
 rw [HE0.out]
 rw [hk1] at ha
 rw [hk2] at ha2
 generalize foldS u.tok.tx=nm at *
 clear h h1 hs hn hk1 hk2 q0 q4 q5 hkv hu hz HE0 hsg
 go_enter Tryz.func108,Tryz.ntmps108
 go_wp2_with (go_at_call 25;fail)
 refine ha.mono ?_
 rintro e w1 ⟨rfl,rfl⟩
 clear ha
 go_wp2_with (go_at_call 25;fail)
 refine ha2.mono ?_
 rintro e w1 ⟨rfl,rfl⟩
 clear ha2
 go_wp2_with (go_at_call 72;fail)
 refine hfo.mono ?_
 rintro e w2 ⟨rfl,hB2⟩
 obtain ⟨W3,hW3⟩:∃ W3,W3=(w2.alloc (.cells #[.int .i64 8,.string ⟨#[]⟩,.int .i64 0,.string ⟨#[]⟩,.int .i64 0,.int .i64 1,.slice none 0 0] 46)).alloc (.cells #[.int .i64 9,.string ⟨#[]⟩,.int .i64 0,.string ⟨#[]⟩,.int .i64 0,.int .i64 1,.slice none 0 0] 46):=⟨_,rfl⟩
 have HB3:Hid (Below w1.heap.size w1 W3):=by rw [Hid,hW3];exact (hB2.alloc hB2.size _).alloc (by have:=hB2.size;simp;omega) _
 have x8:W3.heap[w2.heap.size]? = some (.cells #[.int .i64 8,.string ⟨#[]⟩,.int .i64 0,.string ⟨#[]⟩,.int .i64 0,.int .i64 1,.slice none 0 0] 46 (0,0)):=by
  rw [hW3,Below.heap_alloc _ _ _ (by simp)]
  exact heap_alloc_last w2 _
 have x9:W3.heap[w2.heap.size+1]? = some (.cells #[.int .i64 9,.string ⟨#[]⟩,.int .i64 0,.string ⟨#[]⟩,.int .i64 0,.int .i64 1,.slice none 0 0] 46 (0,0)):=by
  have e:w2.heap.size+1=(w2.alloc (.cells #[.int .i64 8,.string ⟨#[]⟩,.int .i64 0,.string ⟨#[]⟩,.int .i64 0,.int .i64 1,.slice none 0 0] 46)).heap.size:=by simp
  rw [hW3,e]
  exact heap_alloc_last _ _
 have HW3:=hid_mk hW3
 clear hfo hB2 q1 c0 hW3
 go_upto_if 27 with (fail)
 rw [← HW3.out]
 clear HW3
 have a0:=cellAt x8 0
 have a1:=cellAt x8 1
 have a2:=cellAt x8 2
 have a3:=cellAt x8 3
 have a4:=cellAt x8 4
 have a5:=cellAt x8 5
 have a6:=cellAt x8 6
 have b0:=cellAt x9 0
 have b1:=cellAt x9 1
 have b2:=cellAt x9 2
 have b3:=cellAt x9 3
 have b4:=cellAt x9 4
 have b5:=cellAt x9 5
 have b6:=cellAt x9 6
 clear x8 x9
 cases t1:(nm.toList == [102,105,114,115,116,45,99,104,105,108,100]) with
 | true =>
   have HE:Hid (stL nm=some ([nthS 8],2)):=by rw [Hid,stL,if_pos t1]
   clear t1
   have htl:=HT.out [nthS 8] W3 HB3.out (by decide)
   rw [show (ssC [nthS 8]).toArray=#[.int .i64 8,.string ⟨#[]⟩,.int .i64 0,.string ⟨#[]⟩,.int .i64 0,.int .i64 1,.slice none 0 0] from rfl] at htl
   clear HT HN
   go_wp2_with (go_at_call 104;fail)
   refine htl.mono ?_
   rintro e w5 ⟨v',rfl,ho,hr⟩
   have HZ:Hid (Way lo w1 b kids vs (some ([nthS 8],2)) (.returned v') w5):=⟨v',rfl,ho,hr⟩
   clear htl ho hr
   go_wp2
   go_ret
   rw [HE.out]
   exact HZ.out
 | false =>
 cases t2:(nm.toList == [108,97,115,116,45,99,104,105,108,100]) with
 | true =>
   have HE:Hid (stL nm=some ([nthS 9],2)):=by rw [Hid,stL,if_neg (by rw [t1];decide),if_pos t2]
   clear t1
   have htl:=HT.out [nthS 9] W3 HB3.out (by decide)
   rw [show (ssC [nthS 9]).toArray=#[.int .i64 9,.string ⟨#[]⟩,.int .i64 0,.string ⟨#[]⟩,.int .i64 0,.int .i64 1,.slice none 0 0] from rfl] at htl
   clear HT HN
   go_wp2_with (go_at_call 104;fail)
   refine htl.mono ?_
   rintro e w5 ⟨v',rfl,ho,hr⟩
   have HZ:Hid (Way lo w1 b kids vs (some ([nthS 9],2)) (.returned v') w5):=⟨v',rfl,ho,hr⟩
   clear htl ho hr
   go_wp2
   go_ret
   rw [HE.out]
   exact HZ.out
 | false =>
 cases t3:(nm.toList == [111,110,108,121,45,99,104,105,108,100]) with
 | true =>
   have HE:Hid (stL nm=some ([nthS 8,nthS 9],2)):=by rw [Hid,stL,if_neg (by rw [t1];decide),if_neg (by rw [t2];decide),if_pos t3]
   clear t1
   have htl:=HT.out [nthS 8,nthS 9] W3 HB3.out (by decide)
   rw [show (ssC [nthS 8,nthS 9]).toArray=#[.int .i64 8,.string ⟨#[]⟩,.int .i64 0,.string ⟨#[]⟩,.int .i64 0,.int .i64 1,.slice none 0 0,.int .i64 9,.string ⟨#[]⟩,.int .i64 0,.string ⟨#[]⟩,.int .i64 0,.int .i64 1,.slice none 0 0] from rfl] at htl
   clear HT HN
   go_wp2_with (go_at_call 104;fail)
   refine htl.mono ?_
   rintro e w5 ⟨v',rfl,ho,hr⟩
   have HZ:Hid (Way lo w1 b kids vs (some ([nthS 8,nthS 9],2)) (.returned v') w5):=⟨v',rfl,ho,hr⟩
   clear htl ho hr
   go_wp2
   go_ret
   rw [HE.out]
   exact HZ.out
 | false =>
 have HE0:Hid (stL nm=if numZ 2 nm=10∨numZ 2 nm=11 then some ([⟨numZ 2 nm,⟨#[]⟩,0,⟨#[]⟩,0,0⟩],2) else none):=by rw [Hid,stL,if_neg (by rw [t1];decide),if_neg (by rw [t2];decide),if_neg (by rw [t3];decide)]
 have hnu:=HN.out nm W3 HB3.out
 generalize numZ 2 nm=z at *
 clear t1 HN a0 a1 a2 a3 a4 a5 a6 b0 b1 b2 b3 b4 b5 b6
 go_wp2_with (go_at_call 83;fail)
 refine hnu.mono ?_
 rintro e w4 ⟨rfl,hB4⟩
 have HB4:Hid (Below w1.heap.size w1 w4):=HB3.out.trans (hB4.mono HB3.out.size)
 clear hnu hB4 HB3
 by_cases hz:z=10∨z=11
 ·have HE:Hid (stL nm=some ([⟨z,⟨#[]⟩,0,⟨#[]⟩,0,0⟩],2)):=by rw [Hid,HE0.out,if_pos hz]
  have htl:=HT.out [⟨z,⟨#[]⟩,0,⟨#[]⟩,0,0⟩] w4 HB4.out (by simp)
  rw [show (ssC [⟨z,⟨#[]⟩,0,⟨#[]⟩,0,0⟩]).toArray=#[.int .i64 z,.string ⟨#[]⟩,.int .i64 0,.string ⟨#[]⟩,.int .i64 0,.int .i64 0,.slice none 0 0] from rfl] at htl
  clear HE0 HT
  rcases hz with hz | hz
  ·have n1:(z != 10)=false:=by rw [hz];rfl
   have HZ0:=hid_mk hz
   clear hz
   go_wp2_with (go_at_call 104;fail)
   refine htl.mono ?_
   rintro e w5 ⟨v',rfl,ho,hr⟩
   have HZ:Hid (Way lo w1 b kids vs (some ([⟨z,⟨#[]⟩,0,⟨#[]⟩,0,0⟩],2)) (.returned v') w5):=⟨v',rfl,ho,hr⟩
   clear htl ho hr
   go_wp2
   go_ret
   rw [HE.out]
   exact HZ.out
  ·have n1:(z != 10)=true:=by rw [hz];rfl
   have n2:(z != 11)=false:=by rw [hz];rfl
   have HZ0:=hid_mk hz
   clear hz
   go_wp2_with (go_at_call 104;fail)
   refine htl.mono ?_
   rintro e w5 ⟨v',rfl,ho,hr⟩
   have HZ:Hid (Way lo w1 b kids vs (some ([⟨z,⟨#[]⟩,0,⟨#[]⟩,0,0⟩],2)) (.returned v') w5):=⟨v',rfl,ho,hr⟩
   clear htl ho hr
   go_wp2
   go_ret
   rw [HE.out]
   exact HZ.out
 ·have HE:Hid (stL nm=none):=by rw [Hid,HE0.out,if_neg hz]
  have n1:(z != 10)=true:=bne_iff_ne.2 fun h=>hz (.inl h)
  have n2:(z != 11)=true:=bne_iff_ne.2 fun h=>hz (.inr h)
  clear hz HE0 HT
  go_wp2
  go_ret
  rw [HE.out]
  exact ⟨rfl,HB4.out⟩
def cbN (us:List V):Int:=match us[0]? with
 | some u=>if ahd us 0 9=true then numZ 0 u.tok.tx else 0
 | none=>0
def cbE (was:Bool) (us:List V):Int:=if was=true∧us≠[]∧ahd us 0 18=false then 1 else 0
def combR (vs:List V):Int×List V:=if cbN (spc vs)≠0 then (cbN (spc vs),spc ((spc vs).drop 1)) else (cbE (ahd vs 0 13) (spc vs),spc vs)
theorem comb_any {W:World} {lo b:Nat} {kids:Value} {vs:List V} (h:Rd lo W b kids vs W) (hsg:Signs W) (hb:b≠sgB) :
  Calls Tryz.prog 51 #[.pointer (some ⟨b,0,none⟩)] W fun e w'=>e=.returned (.int .i64 (combR vs).1)∧Rd lo W b kids (combR vs).2 w':=by
 have hsp:=spaces_any h
 have HSG:Hid (∀ w',KeepX b W w'→Signs w'):=fun w' hk=>hsg.keepX hk hb
 have HC:Hid (combR vs=if cbN (spc vs)≠0 then (cbN (spc vs),spc ((spc vs).drop 1)) else (cbE (ahd vs 0 13) (spc vs),spc vs)):=rfl
 generalize ahd vs 0 13=was at *
 generalize combR vs=R at *
 generalize spc vs=us at *
 clear h hsg
 go_enter Tryz.func51,Tryz.ntmps51
 go_wp2_with (go_at_call 23;fail)
 refine hsp.mono ?_
 rintro e w1 ⟨rfl,hR1⟩
 have ha:=ahead_any hR1 0 9
 have HR1:=hid_mk hR1
 have hS1:=HSG.out w1 hR1.keep
 clear hsp hR1 HSG
 go_wp2_with (go_at_call 25;fail)
 refine ha.mono ?_
 rintro e wa ⟨rfl,rfl⟩
 clear ha
 cases hk:ahd us 0 9 with
 | true =>
   obtain ⟨u,hu⟩:=ahd_some hk
   have HN:Hid (cbN us=numZ 0 u.tok.tx):=by rw [Hid];unfold cbN;rw [hu];simp only [hk,if_true]
   obtain ⟨a,n,cap,hn,hc1,hc2,h1,_,hs⟩:=HR1.out.see
   have c0:wa.cell? ⟨b,0,none⟩=some (.slice a n cap):=cellAt h1 0
   obtain ⟨hl,g,off,kv,rfl,q0,q1,q4,q5,hkv⟩:=hs 0 u hu
   rw [Nat.zero_mul,Nat.add_zero] at q0 q1 q4 q5
   have hnu:=number_any hS1 0 u.tok.tx
   have hne:us≠[]:=fun e=>by rw [e] at hu;cases hu
   have hlen:1≤us.length:=by have:=(List.getElem?_eq_some_iff.1 hu).1;omega
   generalize numZ 0 u.tok.tx=z at *
   clear h1 hs hn hk q0 q4 q5 hkv hu hS1
   go_wp2_with (go_at_call 83;fail)
   refine hnu.mono ?_
   rintro e w2 ⟨rfl,hB2⟩
   have HR2:=hid_mk (HR1.out.then hB2)
   clear hnu hB2 HR1 q1 c0
   by_cases hz:z=0
   ·have hz1:(z != 0)=false:=by rw [hz];rfl
    have HE:Hid (R=(cbE was us,us)):=by rw [Hid,HC.out,if_neg (by rw [HN.out];exact fun h=>h hz)]
    clear HC HN
    obtain ⟨a,n,cap,hn,hc1,hc2,h1,_,_⟩:=HR2.out.see
    have c0:w2.cell? ⟨b,0,none⟩=some (.slice a n cap):=cellAt h1 0
    have hn0:((n:Int) == 0)=false:=by simp;omega
    have ha:=ahead_any HR2.out 0 18
    have HN0:=hid_mk hz
    clear h1 hn hz
    cases was with
    | false =>
      have HZ:Hid (cbE false us=0):=by rw [Hid,cbE,if_neg (by simp)]
      clear ha
      go_wp2
      go_ret
      exact ⟨by rw [HE.out];simp only [];rw [HZ.out];try rfl,by rw [HE.out];exact HR2.out⟩
    | true =>
      cases hcm:ahd us 0 18 with
      | true =>
        have HZ:Hid (cbE true us=0):=by rw [Hid,cbE,if_neg (by rw [hcm];simp)]
        rw [hcm] at ha
        clear hcm
        go_wp2_with (go_at_call 25;fail)
        refine ha.mono ?_
        rintro e w3 ⟨rfl,rfl⟩
        clear ha
        go_wp2
        go_ret
        exact ⟨by rw [HE.out];simp only [];rw [HZ.out];try rfl,by rw [HE.out];exact HR2.out⟩
      | false =>
        have HZ:Hid (cbE true us=1):=by rw [Hid,cbE,if_pos ⟨rfl,hne,hcm⟩]
        rw [hcm] at ha
        clear hcm
        go_wp2_with (go_at_call 25;fail)
        refine ha.mono ?_
        rintro e w3 ⟨rfl,rfl⟩
        clear ha
        go_wp2
        go_ret
        exact ⟨by rw [HE.out];simp only [];rw [HZ.out];try rfl,by rw [HE.out];exact HR2.out⟩
   ·have hz1:(z != 0)=true:=bne_iff_ne.2 hz
    have HE:Hid (R=(z,spc (us.drop 1))):=by rw [Hid,HC.out,if_pos (by rw [HN.out];exact hz),HN.out]
    have hsk:=skip_any HR2.out.self 1 hlen
    clear HC HN hz
    go_wp2_with (go_at_call 26;fail)
    refine hsk.mono ?_
    rintro e w3 ⟨rfl,hR3⟩
    have hsp:=spaces_any hR3.self
    have HR3:=hid_mk (HR2.out.from hR3)
    clear hsk hR3 HR2
    go_wp2_with (go_at_call 23;fail)
    refine hsp.mono ?_
    rintro e w4 ⟨rfl,hR4⟩
    have HR4:=hid_mk (HR3.out.from hR4)
    clear hsp hR4 HR3
    go_wp2
    go_ret
    exact ⟨by rw [HE.out];try rfl,by rw [HE.out];exact HR4.out⟩
 | false =>
   have HN:Hid (cbN us=0):=by
    rw [Hid]
    unfold cbN
    cases us[0]? with
    | none=>rfl
    | some u=>simp only [];rw [if_neg (by rw [hk];decide)]
   have HE:Hid (R=(cbE was us,us)):=by rw [Hid,HC.out,if_neg (by rw [HN.out];exact fun h=>h rfl)]
   clear HC HN hk hS1
   obtain ⟨a,n,cap,hn,hc1,hc2,h1,_,_⟩:=HR1.out.see
   have c0:wa.cell? ⟨b,0,none⟩=some (.slice a n cap):=cellAt h1 0
   have ha:=ahead_any HR1.out 0 18
   cases was with
   | false =>
     have HZ:Hid (cbE false us=0):=by rw [Hid,cbE,if_neg (by simp)]
     clear ha h1 hn
     go_wp2
     go_ret
     exact ⟨by rw [HE.out];simp only [];rw [HZ.out];try rfl,by rw [HE.out];exact HR1.out⟩
   | true =>
     by_cases hne:us=[]
     ·have hn0:((n:Int) == 0)=true:=by rw [beq_iff_eq,hn,hne];rfl
      have HZ:Hid (cbE true us=0):=by rw [Hid,cbE,if_neg (by simp [hne])]
      have hn1:n=0:=by rw [hn,hne];rfl
      clear ha h1 hn hne
      subst hn1
      go_wp2
      go_ret
      exact ⟨by rw [HE.out];simp only [];rw [HZ.out];try rfl,by rw [HE.out];exact HR1.out⟩
     ·have hn0:((n:Int) == 0)=false:=by
       have:us.length≠0:=fun e=>hne (List.length_eq_zero_iff.1 e)
       simp;omega
      cases hcm:ahd us 0 18 with
      | true =>
        have HZ:Hid (cbE true us=0):=by rw [Hid,cbE,if_neg (by rw [hcm];simp)]
        rw [hcm] at ha
        clear hcm h1 hn hne
        go_wp2_with (go_at_call 25;fail)
        refine ha.mono ?_
        rintro e w3 ⟨rfl,rfl⟩
        clear ha
        go_wp2
        go_ret
        exact ⟨by rw [HE.out];simp only [];rw [HZ.out];try rfl,by rw [HE.out];exact HR1.out⟩
      | false =>
        have HZ:Hid (cbE true us=1):=by rw [Hid,cbE,if_pos ⟨rfl,hne,hcm⟩]
        rw [hcm] at ha
        clear hcm h1 hn hne
        go_wp2_with (go_at_call 25;fail)
        refine ha.mono ?_
        rintro e w3 ⟨rfl,rfl⟩
        clear ha
        go_wp2
        go_ret
        exact ⟨by rw [HE.out];simp only [];rw [HZ.out];try rfl,by rw [HE.out];exact HR1.out⟩
end Go.Proofs.YtdneaeokljoijaaGreatDoor.L
namespace Go.Proofs.YtdneaeokljoijaaGreatDoor.N
open Go.RowKit
theorem hid_mk {p:Prop} (h:p):Hid p:=h
def fitsB (a b n:Int):Bool :=
 if n<1 then false else if 0<a then decide (b≤n) && decide ((n - b) % a=0) else if a<0 then decide (n≤b) && decide ((b - n) % a=0) else decide (n=b)
def leastZ (a b:Int):Int:=if 0<a∧b<1 then a - (-b) % a else if b<1 then 0 else if a<0 then (b - 1) % a+1 else b
def firstZ (a b:Int):Int:=if 1000000<leastZ a b then 0 else leastZ a b
theorem strOf_size (xs:List Int):(strOfNums xs).size=xs.length:=by
 show (xs.map _).toArray.size=_
 simp
theorem nums_two (a c:List Int):strOfNums (a++c)=strOfNums a++strOfNums c:=by
 apply ByteArray.ext
 show ((a++c).map _).toArray=_
 rw [ByteArray.data_append]
 simp [strOfNums]
def decF:Nat→Nat→List Int→List Int
 | 0,_,acc=>acc
 | f+1,u,acc=>if u / 10=0 then ((48+u % 10:Nat):Int)::acc else decF f (u / 10) (((48+u % 10:Nat):Int)::acc)
def decU (u:Nat):List Int:=decF 20 u []
def signD (n:Int):List Int:=if n<0 then 45::decU (-n).toNat else decU n.toNat
def digT:ByteArray:=⟨#[48,49,50,51,52,53,54,55,56,57]⟩
theorem digT_at:∀ m:Fin 10,digT.extract m.val (m.val+1)=strOfNums [((48+m.val:Nat):Int)]:=by decide +kernel
theorem nums_cons (c:Int) (l:List Int):strOfNums [c]++strOfNums l=strOfNums (c::l):=by rw [← nums_two];rfl
theorem empty_str (l:List Int):(⟨#[]⟩++strOfNums l:ByteArray)=strOfNums l:=by
 apply ByteArray.ext
 rw [ByteArray.data_append]
 simp
def p10 (f:Nat):Nat:=10 ^ f
theorem p10_20 (u:Nat) (h:u≤9223372036854775808):u<p10 20:=by
 have:p10 20=100000000000000000000:=by decide
 omega
theorem wrap_neg {n:Int} {N:Nat} (hn:n=-(N:Int)) (h0:n<0) (h1:(N:Int)≤9223372036854775808):IntKind.u64.wrap (-IntKind.u64.wrap n)=(N:Int):=by
 have e:∀ x:Int,IntKind.u64.wrap x=x % 18446744073709551616:=by
  intro x
  have hb:IntKind.u64.bits=64:=rfl
  have hsg:IntKind.u64.signed=false:=rfl
  simp [IntKind.wrap,hb,hsg]
 rw [e,e]
 omega
theorem dec_map:∀ (f u:Nat) (acc:List Int),u<p10 f→(0<f)→(decF f u acc).map (fun n=>UInt8.ofNat n.toNat)=Lib.decDigits u++acc.map (fun n=>UInt8.ofNat n.toNat)
 | 0,_,_,_,h=>by omega
 | f+1,u,acc,hu,_=>by
   rw [decF]
   by_cases hq:u / 10=0
   ·rw [if_pos hq,Lib.decDigits,dif_pos (by omega)]
    have:u % 10=u:=Nat.mod_eq_of_lt (by omega)
    rw [this]
    simp only [List.map_cons,Int.toNat_natCast,List.singleton_append]
   ·rw [if_neg hq]
    have h3:u / 10<p10 f:=by
     unfold p10 at hu ⊢
     rw [Nat.pow_succ] at hu
     omega
    have h4:0<f:=by
     cases f with
     | zero=>unfold p10 at h3;simp at h3;omega
     | succ k=>omega
    rw [dec_map f (u / 10) _ h3 h4,Lib.decDigits.eq_def u,dif_neg (by omega)]
    simp only [List.map_cons,Int.toNat_natCast,List.append_assoc,List.singleton_append]
theorem dec_str (N:Nat) (h:N≤9223372036854775808):strOfNums (decU N)=⟨(Lib.decDigits N).toArray⟩:=by
 have:=dec_map 20 N [] (p10_20 N h) (by omega)
 show (⟨((decU N).map _).toArray⟩:ByteArray)=_
 unfold decU
 rw [this]
 simp
def itS (n:Int):ByteArray:=strOfNums (signD n)
theorem it_eq (n:Int) (h0:-9223372036854775808≤n) (h1:n≤9223372036854775807):(⟨(Lib.itoa n).toArray⟩:ByteArray)=itS n:=by
 unfold itS signD Lib.itoa
 by_cases hn:n<0
 ·rw [if_pos hn,if_pos hn]
  have e:n.natAbs=(-n).toNat:=by omega
  rw [← nums_cons,dec_str _ (by omega),e]
  apply ByteArray.ext
  rw [ByteArray.data_append]
  simp [strOfNums]
 ·rw [if_neg hn,if_neg hn,dec_str _ (by omega)]
theorem decF_len:∀ (f u:Nat) (acc:List Int),(decF f u acc).length≤acc.length+f
 | 0,_,_=>by simp [decF]
 | f+1,u,acc=>by
   rw [decF]
   split
   ·rw [List.length_cons]
    omega
   ·have:=decF_len f (u / 10) (((48+u % 10:Nat):Int)::acc)
    rw [List.length_cons] at this
    omega
theorem it_size (n:Int):(itS n).size≤21:=by
 unfold itS signD
 rw [strOf_size]
 split
 ·have:=decF_len 20 (-n).toNat []
  simp [decU] at this ⊢
  omega
 ·have:=decF_len 20 n.toNat []
  simp [decU] at this ⊢
  omega
def digitZ (c:Int):Bool:=decide (48≤c) && decide (c≤57)
theorem digit_any (c:Int) (w:World):Calls Tryz.prog 91 #[.int .i32 c] w fun e w'=>e=.returned (.bool (digitZ c))∧w=w':=by
 unfold digitZ
 by_cases h1:48≤c
 ·by_cases h2:c≤57
  ·go_enter Tryz.func91,Tryz.ntmps91
   go_wp2
   go_ret
   exact ⟨by simp [h1,h2],rfl⟩
  ·go_enter Tryz.func91,Tryz.ntmps91
   go_wp2
   go_ret
   exact ⟨by simp;omega,rfl⟩
 ·go_enter Tryz.func91,Tryz.ntmps91
  go_wp2
  go_ret
  exact ⟨by simp;omega,rfl⟩
theorem direction_m (w:World):Calls Tryz.prog 142 #[.string ⟨#[45]⟩] w fun e w'=>e=.returned (.int .i64 (-1))∧w=w':=by
 go_enter Tryz.func142,Tryz.ntmps142
 go_wp2
 go_ret
 exact ⟨rfl,rfl⟩
theorem direction_p (w:World):Calls Tryz.prog 142 #[.string ⟨#[43]⟩] w fun e w'=>e=.returned (.int .i64 1)∧w=w':=by
 go_enter Tryz.func142,Tryz.ntmps142
 go_wp2
 go_ret
 exact ⟨rfl,rfl⟩
theorem direction_0 (w:World):Calls Tryz.prog 142 #[.string ⟨#[]⟩] w fun e w'=>e=.returned (.int .i64 1)∧w=w':=by
 go_enter Tryz.func142,Tryz.ntmps142
 go_wp2
 go_ret
 exact ⟨rfl,rfl⟩
def bytesL (a:ByteArray):List Int:=a.data.toList.map fun x=>(x.toNat:Int)
theorem bytesL_size (a:ByteArray):(bytesL a).length=a.size:=by
 unfold bytesL
 rw [List.length_map]
 rfl
theorem bytesL_byte (a:ByteArray):∀ n∈bytesL a,0≤n∧n<256:=by
 intro n hn
 unfold bytesL at hn
 obtain ⟨x,_,rfl⟩:=List.mem_map.1 hn
 have:=x.toNat_lt
 omega
theorem empty_of {s:ByteArray} (h:s.size=0):s=⟨#[]⟩:=by
 cases s with
 | mk d =>
   have h1:d.size=0:=h
   have h2:d=#[]:=by simpa using h1
   subst h2
   rfl
theorem strOf (s:ByteArray):strOfNums (s.data.toList.map fun b=>(b.toNat:Int))=s:=by
 cases s with
 | mk d =>
   have e:((fun n:Int=>UInt8.ofNat n.toNat) ∘ fun b:UInt8=>(b.toNat:Int))=id:=by
    funext b
    simp
   simp [strOfNums,e]
theorem bytesL_str (a:ByteArray):strOfNums (bytesL a)=a:=strOf a
theorem str_get {l:List Int} (hl:∀ n∈l,0≤n∧n<256) (j:Nat):((strOfNums l).get! j).toNat=(l.getD j 0).toNat:=by
 by_cases hj:j<l.length
 ·have hm:l.getD j 0∈l:=by simp [List.getD,hj]
  have hb:=hl _ hm
  have e:(strOfNums l).get! j=UInt8.ofNat (l.getD j 0).toNat:=by
   show (l.map fun n=>UInt8.ofNat n.toNat).toArray[j]! = _
   rw [getElem!_pos _ j (by simpa using hj)]
   simp [List.getD,hj]
  rw [e]
  simp only [UInt8.toNat_ofNat']
  omega
 ·have e:(strOfNums l).get! j=default:=by
   show (l.map fun n=>UInt8.ofNat n.toNat).toArray[j]! = _
   exact getElem!_neg _ j (by simpa using hj)
  rw [e]
  simp [List.getD,List.getElem?_eq_none (Nat.le_of_not_lt hj)]
  rfl
def Dig (l:List Int):Prop:=∀ c∈l,48≤c∧c≤57
def satZ (n:Int) (c:Int):Int:=if 1000000<n * 10+(c - 48) then 1000000 else n * 10+(c - 48)
def satL (l:List Int):Int:=l.foldl satZ 0
theorem satZ_bd {n c:Int} (h0:0≤n) (hc:48≤c):0≤satZ n c∧satZ n c≤1000000:=by
 unfold satZ
 split <;> omega
theorem satL_snoc (l:List Int) (c:Int):satL (l++[c])=satZ (satL l) c:=by unfold satL;rw [List.foldl_append];rfl
theorem satL_bd:∀ (l:List Int),Dig l→0≤satL l∧satL l≤1000000:=by
 intro l h
 unfold satL
 have:∀ (l:List Int) (n:Int),0≤n→n≤1000000→Dig l→0≤l.foldl satZ n∧l.foldl satZ n≤1000000:=by
  intro l
  induction l with
  | nil=>intro n h0 h1 _;exact ⟨h0,h1⟩
  | cons c r ih =>
    intro n h0 _ hd
    have hb:=satZ_bd h0 (hd c (by simp)).1
    exact ih _ hb.1 hb.2 (fun x hx=>hd x (by simp [hx]))
 exact this l 0 (by omega) (by omega) h
theorem dec_byte (t:ByteArray) (p:Nat) (hp:p<t.size):(48≤(bytesL t).getD p 0∧(bytesL t).getD p 0≤57∧(((Utf8.decode t p).1:Nat):Int)=(bytesL t).getD p 0∧(Utf8.decode t p).2=1)∨(¬ (48≤(bytesL t).getD p 0∧(bytesL t).getD p 0≤57)∧digitZ (((Utf8.decode t p).1:Nat):Int)=false):=by
 have hg:(bytesL t).getD p 0=((t.get! p).toNat:Int):=by
  have hs:=str_get (bytesL_byte t) p
  rw [bytesL_str] at hs
  have hb:0≤(bytesL t).getD p 0:=(bytesL_byte t _ (by
   have:p<(bytesL t).length:=by rw [bytesL_size];exact hp
   simp [List.getD,this])).1
  omega
 rw [hg,Lib.decode_at]
 have hb:=(t.get! p).toNat_lt
 generalize (t.get! p).toNat=b0 at *
 generalize (t.get! (p+1)).toNat=b1
 generalize (t.get! (p+2)).toNat=b2
 generalize (t.get! (p+3)).toNat=b3
 by_cases h:48≤b0∧b0≤57
 ·left
  have e:Lib.decodeN (t.size - p) b0 b1 b2 b3=(b0,1):=by
   unfold Lib.decodeN
   rw [if_pos (by omega)]
  rw [e]
  exact ⟨by omega,by omega,rfl,rfl⟩
 ·right
  refine ⟨by omega,?_⟩
  have key:(((Lib.decodeN (t.size - p) b0 b1 b2 b3).1:Nat):Int)=b0∨128≤(((Lib.decodeN (t.size - p) b0 b1 b2 b3).1:Nat):Int):=by
   unfold Lib.decodeN
   repeat' split
   all_goals (simp only;first | exact .inl trivial | omega)
  unfold digitZ
  simp
  omega
theorem byte_at (t:ByteArray) (p:Nat) (hp:p<t.size):(bytesL t).getD p 0=(((t[p]'hp).toNat:Nat):Int):=by
 unfold bytesL
 have h1:t.data[p]? = some (t.data[p]'hp):=Array.getElem?_eq_getElem hp
 simp [List.getD,h1]
 rfl
theorem digit_yes {c:Int} (h:48≤c∧c≤57):digitZ c=true:=by unfold digitZ;simp;omega
def digN:List Int→Nat
 | []=>0
 | c::r=>if digitZ c then digN r+1 else 0
theorem digN_le:∀ l:List Int,digN l≤l.length
 | []=>Nat.le_refl _
 | c::r=>by
   rw [digN]
   have:=digN_le r
   split
   ·rw [List.length_cons]
    omega
   ·omega
theorem digN_at:∀ (l:List Int) (p:Nat),Dig (l.take p)→p≤l.length→(p=l.length∨digitZ (l.getD p 0)=false)→digN l=p
 | [],p,_,h,_=>by simp at h;simp [digN,h]
 | c::r,0,_,_,h=>by
   rcases h with h | h
   ·simp at h
   ·rw [digN,if_neg]
    have h':digitZ c=false:=h
    rw [h']
    decide
 | c::r,p+1,hd,hl,h=>by
   have hc:=hd c (by simp)
   rw [digN,if_pos (digit_yes hc)]
   have ih:=digN_at r p (fun x hx=>hd x (by simp [hx])) (by simpa using hl) (by
    rcases h with h | h
    ·left;simpa using h
    ·right;exact h)
   rw [ih]
theorem below_drewN3 (B:Nat) (w:World) (n:Nat):Below B w (w.drewN n):=⟨rfl,rfl,rfl,Nat.le_refl _,fun _ _=>rfl⟩
theorem ret3 {n m:Int} {a c:ByteArray} {x y:Bool} (h1:n=m) (h2:a=c) (h3:x=y):Ending.returned (.tuple #[.int .i64 n,.string a,.bool x])=.returned (.tuple #[.int .i64 m,.string c,.bool y]):=by rw [h1,h2,h3]
theorem satZ_min (n c:Int):satZ n c=min (n * 10+(c - 48)) 1000000:=by
 unfold satZ
 split <;> omega
theorem extract_all (s:ByteArray):s.extract s.size s.size=⟨#[]⟩:=empty_of (by simp)
theorem numberAhead_any (s:ByteArray) (hs:s.size≤1000000000000) (w:World) :
  Calls Tryz.prog 141 #[.string s] w fun e w'=>e=.returned (.tuple #[.int .i64 (satL ((bytesL s).take (digN (bytesL s)))),.string (s.extract (digN (bytesL s)) s.size),.bool (decide (0<digN (bytesL s)))])∧Below w.heap.size w w':=by
 have HDEC:=hid_mk (fun p hp=>dec_byte s p hp)
 have HSZ:=hid_mk (bytesL_size s)
 have hsne:s.size=0∨(s == ⟨#[]⟩)=false∧(s.toList == [])=false:=by
  by_cases h:s.size=0
  ·exact .inl h
  ·right
   have h3:(s.toList == [])=false:=by
    rw [Bool.eq_false_iff]
    intro h2
    rw [beq_iff_eq,ByteArray.toList_eq] at h2
    have h4:=congrArg List.length h2
    exact h (by simpa using h4)
   exact ⟨by rw [beq_toListBytes,ByteArray.toList_eq ⟨#[]⟩];exact h3,h3⟩
 have HNE:=hid_mk hsne
 clear hsne
 generalize hds:bytesL s=ds at *
 go_enter Tryz.func141,Tryz.ntmps141
 go_wp2
 go_loopw [5] (fun a5 wr=>∃ p:Nat,wr.heap[w.heap.size]? = some (.stringIter s p)∧Below w.heap.size w wr∧a5=.int .i64 (satL (ds.take p))∧p≤ds.length∧Dig (ds.take p)) (fun _ wr=>s.size - wr.iterPos w.heap.size)
 case atStart=>exact ⟨0,World.iter_heap w s 0,(Below.refl _ w).alloc (Nat.le_refl _) _,rfl,Nat.zero_le _,fun c hc=>by simp at hc⟩
 case round =>
  obtain ⟨p,hit,hbw,rfl,hp,hdig⟩:=hrel
  have hsb:=satL_bd (ds.take p) hdig
  have HDG:=hid_mk hdig
  have HD:=hid_mk (fun h=>digN_at ds p hdig hp h)
  clear hdig hds
  by_cases hlt:p<ds.length
  ·have hps:p<s.size:=by rw [← HSZ.out];exact hlt
   have hnx:∀ ty,(Instr.next (.pointer (some ⟨w.heap.size,0,none⟩)) true ty).run Tryz.prog wr=_:=fun ty=>Lib.run_next_any_at wr w.heap.size s p ty hit hps
   have hit3:=Lib.iterAt_heap wr w.heap.size s p (p+(Utf8.decode s p).2) hit
   have hbw3:=Lib.below_iterAt hbw (k:=w.heap.size) (Nat.le_refl _) s (p+(Utf8.decode s p).2)
   have HTK:Hid (ds.take (p+1)=ds.take p++[ds.getD p 0]):=by
    show _=_
    rw [List.take_add_one]
    simp [List.getD,hlt]
   rcases HDEC.out p hps with ⟨hc1,hc2,hdc,hwd⟩ | ⟨hnd,hdz⟩
   ·rw [hwd] at hnx hit3 hbw3
    rw [hdc] at hnx
    have HS:Hid (satL (ds.take (p+1))=satZ (satL (ds.take p)) (ds.getD p 0)):=by
     show satL (ds.take (p+1))=_
     rw [HTK.out,satL_snoc]
    have HD2:Hid (Dig (ds.take (p+1))):=by
     show Dig _
     rw [HTK.out]
     intro c hc
     rcases List.mem_append.1 hc with hc | hc
     ·exact HDG.out c hc
     ·rw [List.mem_singleton.1 hc]
      exact ⟨hc1,hc2⟩
    have hdg:=digit_any (ds.getD p 0) (wr.iterAt w.heap.size s (p+1))
    rw [digit_yes ⟨hc1,hc2⟩] at hdg
    generalize ds.getD p 0=c at *
    generalize wr.iterAt w.heap.size s (p+1)=W3 at *
    have hm:s.size - W3.iterPos w.heap.size<s.size - wr.iterPos w.heap.size:=by
     simp only [World.iterPos,hit3,hit]
     omega
    clear hdc hwd hit hbw
    generalize satL (ds.take p)=sn at *
    go_wp2_with (go_at_call 91;fail)
    refine (hdg).mono ?_
    rintro e w' ⟨rfl,rfl⟩
    go_wp2
    go_roundw
    case rel=>exact ⟨p+1,hit3,hbw3,congrArg (Value.int .i64) ((satZ_min _ _).symm.trans HS.out.symm),by omega,HD2.out⟩
    case measure=>exact hm
   ·have HP:Hid (digN ds=p):=HD.out (.inr (by
     cases h:digitZ (ds.getD p 0)
     ·rfl
     ·unfold digitZ at h
      simp at h
      exact absurd h (by simpa using hnd)))
    have hdg:=digit_any (((Utf8.decode s p).1:Nat):Int) (wr.iterAt w.heap.size s (p+(Utf8.decode s p).2))
    rw [hdz] at hdg
    generalize ((Utf8.decode s p).1:Nat)=cd at *
    generalize wr.iterAt w.heap.size s (p+(Utf8.decode s p).2)=W3 at *
    clear hdz hnd hit hbw
    have HSN:Hid (satL (ds.take (digN ds))=satL (ds.take p)):=by show _=_;rw [HP.out]
    generalize satL (ds.take p)=sn at *
    go_wp2_with (go_at_call 91;fail)
    refine (hdg).mono ?_
    rintro e w' ⟨rfl,rfl⟩
    go_wp2
    go_quiet (fail)
    go_wp2
    go_ret3
    exact ⟨ret3 HSN.out.symm (by rw [HP.out]) (by rw [HP.out];first | done | simp),hbw3.trans (below_drewN3 _ _ _)⟩
  ·have hps:¬ p<s.size:=by rw [← HSZ.out];exact hlt
   have hnx:∀ ty,(Instr.next (.pointer (some ⟨w.heap.size,0,none⟩)) true ty).run Tryz.prog wr=_:=fun ty=>Lib.run_next_end_at wr w.heap.size s p ty hit hps
   have HP:Hid (digN ds=p):=HD.out (.inl (by omega))
   have HPS:Hid (p=s.size):=by show _=_;rw [← HSZ.out];omega
   have HSN:Hid (satL (ds.take (digN ds))=satL (ds.take p)):=by show _=_;rw [HP.out]
   generalize satL (ds.take p)=sn at *
   rcases HNE.out with h0 | ⟨n1,n2⟩
   ·have e0:=empty_of h0
    subst e0
    go_wp2
    go_ret3
    exact ⟨ret3 HSN.out.symm (by rw [HP.out,HPS.out];exact (extract_all ⟨#[]⟩).symm) (by rw [HP.out,HPS.out];rfl),hbw⟩
   ·have hp0:0<p:=by
     by_cases h:s.size=0
     ·have e0:=empty_of h
      subst e0
      exact absurd n2 (by rw [ByteArray.toList_eq];decide)
     ·rw [HPS.out]
      omega
    go_wp2
    go_ret3
    exact ⟨ret3 HSN.out.symm (by rw [HP.out,HPS.out];exact (extract_all s).symm) (by rw [HP.out];simp [hp0]),hbw⟩
theorem get_at (s:ByteArray) (h0:0<s.size):s.get! 0=s[0]'h0:=by
 show s.data[0]! = s.data[0]
 rw [getElem!_pos s.data 0 h0]
theorem first_byte (s:ByteArray) (h0:0<s.size):s.extract 0 1=⟨#[s[0]'h0]⟩:=by
 apply ByteArray.ext
 apply Array.ext
 ·simp
  have:0<s.data.size:=h0
  omega
 ·intro i h1 h2
  have hi:i=0:=by
   have:i<1:=h2
   omega
  subst hi
  simp
  rfl
theorem first_list (s:ByteArray) (h0:0<s.size) (c:UInt8):((s.extract 0 1).toList == [c])=((s[0]'h0) == c):=by
 rw [first_byte s h0,ByteArray.toList_eq]
 simp
def sgnZ (s:ByteArray):ByteArray×ByteArray:=if h:0<s.size then (if (s[0]'h).toNat=43 then (⟨#[43]⟩,s.extract 1 s.size) else if (s[0]'h).toNat=45 then (⟨#[45]⟩,s.extract 1 s.size) else (⟨#[]⟩,s)) else (⟨#[]⟩,s)
theorem ret_ss {a b c d:ByteArray} (h1:a=c) (h2:b=d):Ending.returned (.tuple #[.string a,.string b])=.returned (.tuple #[.string c,.string d]):=by rw [h1,h2]
theorem signAhead_any (s:ByteArray) (w:World):Calls Tryz.prog 140 #[.string s] w fun e w'=>e=.returned (.tuple #[.string (sgnZ s).1,.string (sgnZ s).2])∧Below w.heap.size w w':=by
 have hB:Below w.heap.size w w:=Below.refl _ w
 by_cases h0:0<s.size
 ·have f1:=first_list s h0 43
  have f2:=first_list s h0 45
  have fb:=first_byte s h0
  have h1:(1:Int)≤(s.size:Int):=by omega
  by_cases h43:(s[0]'h0).toNat=43
  ·have e43:(s[0]'h0)=43:=UInt8.toNat_inj.1 h43
   have HS:Hid (sgnZ s=(⟨#[43]⟩,s.extract 1 s.size)):=by
    show _=_
    unfold sgnZ
    rw [dif_pos h0,if_pos h43]
   have HF:Hid (s.extract 0 1=⟨#[43]⟩):=by show _=_;rw [fb,e43]
   have z1:((s.extract 0 1).toList == [43])=true:=by rw [f1,e43];rfl
   clear f1 f2 fb h43 e43
   go_enter Tryz.func140,Tryz.ntmps140
   go_wp2
   go_quiet (fail)
   go_wp2
   go_ret2
   exact ⟨ret_ss (by rw [HS.out,HF.out]) (by rw [HS.out]),hB.trans (below_drewN3 _ _ _)⟩
  ·have n43:((s[0]'h0) == 43)=false:=by
    rw [Bool.eq_false_iff]
    intro h
    have:(s[0]'h0)=43:=by simpa using h
    rw [this] at h43
    exact h43 rfl
   by_cases h45:(s[0]'h0).toNat=45
   ·have e45:(s[0]'h0)=45:=UInt8.toNat_inj.1 h45
    have HS:Hid (sgnZ s=(⟨#[45]⟩,s.extract 1 s.size)):=by
     show _=_
     unfold sgnZ
     rw [dif_pos h0,if_neg h43,if_pos h45]
    have HF:Hid (s.extract 0 1=⟨#[45]⟩):=by show _=_;rw [fb,e45]
    have z1:((s.extract 0 1).toList == [43])=false:=by rw [f1,n43]
    have z2:((s.extract 0 1).toList == [45])=true:=by rw [f2,e45];rfl
    clear f1 f2 fb h43 h45 e45 n43
    go_enter Tryz.func140,Tryz.ntmps140
    go_wp2
    go_quiet (fail)
    go_wp2
    go_ret2
    exact ⟨ret_ss (by rw [HS.out,HF.out]) (by rw [HS.out]),hB.trans (below_drewN3 _ _ _)⟩
   ·have HS:Hid (sgnZ s=(⟨#[]⟩,s)):=by
     show _=_
     unfold sgnZ
     rw [dif_pos h0,if_neg h43,if_neg h45]
    have n45:((s[0]'h0) == 45)=false:=by
     rw [Bool.eq_false_iff]
     intro h
     have:(s[0]'h0)=45:=by simpa using h
     rw [this] at h45
     exact h45 rfl
    have z1:((s.extract 0 1).toList == [43])=false:=by rw [f1,n43]
    have z2:((s.extract 0 1).toList == [45])=false:=by rw [f2,n45]
    clear f1 f2 fb h43 h45 n43 n45
    go_enter Tryz.func140,Tryz.ntmps140
    go_wp2
    go_ret2
    exact ⟨ret_ss (by rw [HS.out]) (by rw [HS.out]),hB⟩
 ·have e0:=empty_of (show s.size=0 by omega)
  subst e0
  go_enter Tryz.func140,Tryz.ntmps140
  go_wp2
  go_ret2
  exact ⟨rfl,hB⟩
def leftL:List Int→List Int
 | []=>[]
 | c::r=>if c=32 then leftL r else c::r
def rightL (l:List Int):List Int:=(leftL l.reverse).reverse
theorem trimLeft_any (l:List Int) (hl:∀ n∈l,0≤n∧n<256) (hn:l.length≤1000000000000) (w:World) :
  Calls Tryz.prog 133 #[.string (strOfNums l),.int .u8 32] w fun e w'=>e=.returned (.string (strOfNums (leftL l)))∧w=w':=by
 go_enter Tryz.func133,Tryz.ntmps133
 go_wp2
 go_loop [0] (fun a0=>∃ m:List Int,a0=.string (strOfNums m)∧leftL m=leftL l∧m.length≤l.length∧∀ n∈m,0≤n∧n<256) (fun a0=>match a0 with | .string s=>s.size | _=>0)
 case atStart=>exact ⟨l,rfl,rfl,Nat.le_refl _,hl⟩
 case round =>
  obtain ⟨m,rfl,hm,hml,hmb⟩:=hrel
  have HM:=hid_mk hm
  clear hm
  have hsz:=strOf_size m
  cases m with
  | nil =>
    have HR:Hid (leftL l=[]):=HM.out.symm
    have he:strOfNums []=⟨#[]⟩:=rfl
    rw [he]
    clear hsz
    go_wp2
    go_ret
    exact ⟨by rw [HR.out];rfl,rfl⟩
  | cons c r =>
    have h0:0<(strOfNums (c::r)).size:=by rw [hsz];simp
    have hc:=hmb c (by simp)
    have hg:(((strOfNums (c::r))[0]'h0).toNat:Int)=c:=by
     have h1:=get_at (strOfNums (c::r)) h0
     have h2:=str_get hmb 0
     rw [h1] at h2
     have h3:((c::r).getD 0 0)=c:=rfl
     rw [h3] at h2
     omega
    have HX:Hid ((strOfNums (c::r)).extract 1 (strOfNums (c::r)).size=strOfNums r):=by
     show _=_
     rw [hsz]
     apply ByteArray.ext
     simp [strOfNums]
     exact List.take_of_length_le (by simp)
    have HLEN:Hid ((strOfNums (c::r)).size=r.length+1):=by show _=_;rw [hsz];rfl
    have hsb:(strOfNums (c::r)).size≤1000000000000:=by rw [hsz];omega
    clear hsz
    generalize hse:strOfNums (c::r)=s at *
    have HSE:=hid_mk hse
    clear hse
    by_cases h32:c=32
    ·have z1:(((s[0]'h0).toNat:Int) == 32)=true:=by rw [hg,h32];rfl
     have HL:Hid (leftL r=leftL l):=by
      show _=_
      rw [← HM.out,leftL,if_pos h32]
     clear hg
     go_wp2
     go_round
     case rel=>exact ⟨r,congrArg Value.string HX.out,HL.out,by simp at hml;omega,fun n hn=>hmb n (by simp [hn])⟩
     case measure =>
      show (s.extract 1 s.size).size<s.size
      rw [HX.out,strOf_size,HLEN.out]
      omega
    ·have z1:(((s[0]'h0).toNat:Int) == 32)=false:=by rw [hg];simpa using h32
     have HL:Hid (strOfNums (leftL l)=s):=by
      show _=_
      rw [← HM.out,leftL,if_neg h32]
      exact HSE.out
     clear hg
     go_wp2
     go_ret
     exact ⟨by rw [HL.out];rfl,rfl⟩
theorem nil_or_snoc (m:List Int):m=[]∨∃ r c,m=r++[c]:=by
 rcases List.eq_nil_or_concat m with h | ⟨r,c,h⟩
 ·exact .inl h
 ·exact .inr ⟨r,c,by rw [h,List.concat_eq_append]⟩
theorem rightL_snoc (m:List Int) (c:Int):rightL (m++[c])=if c=32 then rightL m else m++[c]:=by
 unfold rightL
 rw [List.reverse_append,List.reverse_singleton,List.singleton_append,leftL]
 split
 ·rfl
 ·simp
theorem str_last (m:List Int) (c:Int) (hb:∀ n∈m++[c],0≤n∧n<256) (h:m.length<(strOfNums (m++[c])).size):(((strOfNums (m++[c]))[m.length]'h).toNat:Int)=c:=by
 have h1:(strOfNums (m++[c])).get! m.length=(strOfNums (m++[c]))[m.length]'h:=by
  show (strOfNums (m++[c])).data[m.length]! = (strOfNums (m++[c])).data[m.length]
  rw [getElem!_pos (strOfNums (m++[c])).data m.length h]
 have h2:=str_get hb m.length
 rw [h1] at h2
 have h3:(m++[c]).getD m.length 0=c:=by simp [List.getD]
 rw [h3] at h2
 have hc:=hb c (by simp)
 omega
theorem trimRight_any (l:List Int) (hl:∀ n∈l,0≤n∧n<256) (hn:l.length≤1000000000000) (w:World) :
  Calls Tryz.prog 134 #[.string (strOfNums l),.int .u8 32] w fun e w'=>e=.returned (.string (strOfNums (rightL l)))∧w=w':=by
 go_enter Tryz.func134,Tryz.ntmps134
 go_wp2
 go_loop [0] (fun a0=>∃ m:List Int,a0=.string (strOfNums m)∧rightL m=rightL l∧m.length≤l.length∧∀ n∈m,0≤n∧n<256) (fun a0=>match a0 with | .string s=>s.size | _=>0)
 case atStart=>exact ⟨l,rfl,rfl,Nat.le_refl _,hl⟩
 case round =>
  obtain ⟨m,rfl,hm,hml,hmb⟩:=hrel
  have HM:=hid_mk hm
  clear hm
  have hsz:=strOf_size m
  rcases (show m=[]∨∃ r c,m=r++[c] by exact nil_or_snoc m) with rfl | ⟨r,c,rfl⟩
  ·have HR:Hid (rightL l=[]):=HM.out.symm
   have he:strOfNums []=⟨#[]⟩:=rfl
   rw [he]
   clear hsz
   go_wp2
   go_ret
   exact ⟨by rw [HR.out];rfl,rfl⟩
  ·have hlast:r.length<(strOfNums (r++[c])).size:=by rw [hsz];simp
   have hg:=str_last r c hmb hlast
   have HX:Hid ((strOfNums (r++[c])).extract 0 r.length=strOfNums r):=by
    show _=_
    apply ByteArray.ext
    simp [strOfNums]
   have hlen:(strOfNums (r++[c])).size=r.length+1:=by rw [hsz];simp
   have hrl:r.length+1≤1000000000000:=by simp at hml;omega
   clear hsz
   generalize hse:strOfNums (r++[c])=s at *
   have HSE:=hid_mk hse
   clear hse
   by_cases h32:c=32
   ·have z1:(((s[r.length]'hlast).toNat:Int) == 32)=true:=by rw [hg,h32];rfl
    have HL:Hid (rightL r=rightL l):=by
     show _=_
     rw [← HM.out,rightL_snoc,if_pos h32]
    clear hg
    go_wp2
    go_round
    case rel=>exact ⟨r,congrArg Value.string HX.out,HL.out,by simp at hml;omega,fun n hn=>hmb n (by simp [hn])⟩
    case measure =>
     show (s.extract 0 r.length).size<s.size
     rw [HX.out,strOf_size,hlen]
     omega
   ·have z1:(((s[r.length]'hlast).toNat:Int) == 32)=false:=by rw [hg];simpa using h32
    have HL:Hid (strOfNums (rightL l)=s):=by
     show _=_
     rw [← HM.out,rightL_snoc,if_neg h32]
     exact HSE.out
    clear hg
    go_wp2
    go_ret
    exact ⟨by rw [HL.out];rfl,rfl⟩
theorem leftL_byte:∀ (l:List Int),(∀ n∈l,0≤n∧n<256)→∀ n∈leftL l,0≤n∧n<256
 | [],_,n,hn=>by cases hn
 | c::r,h,n,hn=>by
   rw [leftL] at hn
   split at hn
   ·exact leftL_byte r (fun m hm=>h m (by simp [hm])) n hn
   ·exact h n hn
theorem rightL_byte (l:List Int) (h:∀ n∈l,0≤n∧n<256):∀ n∈rightL l,0≤n∧n<256:=by
 intro n hn
 unfold rightL at hn
 exact leftL_byte l.reverse (fun m hm=>h m (by simpa using hm)) n (by simpa using hn)
theorem leftL_len:∀ l:List Int,(leftL l).length≤l.length
 | []=>Nat.le_refl _
 | c::r=>by
   rw [leftL]
   have:=leftL_len r
   split
   ·rw [List.length_cons];omega
   ·exact Nat.le_refl _
theorem rightL_len (l:List Int):(rightL l).length≤l.length:=by
 unfold rightL
 have:=leftL_len l.reverse
 simpa using this
theorem trim_any (l:List Int) (hl:∀ n∈l,0≤n∧n<256) (hn:l.length≤1000000000000) (w:World) :
  Calls Tryz.prog 128 #[.string (strOfNums l),.string ⟨#[32]⟩] w fun e w'=>e=.returned (.string (strOfNums (leftL (rightL l))))∧Below w.heap.size w w':=by
 have hr:=fun w=>trimRight_any l hl hn w
 have hle:=fun w=>trimLeft_any (rightL l) (rightL_byte l hl) (Nat.le_trans (rightL_len l) hn) w
 have hsz:=strOf_size l
 cases l with
 | nil =>
   have he:strOfNums []=⟨#[]⟩:=rfl
   rw [he]
   clear hsz hr hle
   go_enter Tryz.func128,Tryz.ntmps128
   go_wp2
   go_ret
   exact ⟨rfl,Below.refl _ w⟩
 | cons c r =>
   have h0:0<(strOfNums (c::r)).size:=by rw [hsz];simp
   have h3:((strOfNums (c::r)).toList == [])=false:=by
    rw [Bool.eq_false_iff]
    intro h2
    rw [beq_iff_eq,ByteArray.toList_eq] at h2
    have h4:=congrArg List.length h2
    have h5:(strOfNums (c::r)).size=0:=by simpa using h4
    omega
   have h4:(strOfNums (c::r) == ⟨#[]⟩)=false:=by rw [beq_toListBytes,ByteArray.toList_eq ⟨#[]⟩];exact h3
   generalize strOfNums (leftL (rightL (c::r)))=T at *
   generalize strOfNums (rightL (c::r))=R at *
   generalize strOfNums (c::r)=s at *
   clear hsz hl hn h0
   have hb32:(((⟨#[32]⟩:ByteArray)[0]'(by decide)).toNat:Int)=32:=rfl
   go_enter Tryz.func128,Tryz.ntmps128
   go_wp2
   go_quiet (first | (go_at_call 134;refine Calls.quiet_of_same ((hr _).mono fun _ _ ⟨x,y⟩=>⟨x,y.symm⟩)) | (go_at_call 133;refine Calls.quiet_of_same ((hle _).mono fun _ _ ⟨x,y⟩=>⟨x,y.symm⟩)))
   go_wp2
   go_ret
   exact ⟨rfl,below_drewN3 _ _ _⟩
theorem getD_bytes (s:ByteArray) (j:Nat) (h:j<s.size):(s.data.toList.map fun b=>(b.toNat:Int)).getD j 0=((s.get! j).toNat:Int):=by
 cases s with
 | mk d =>
   have h':j<d.size:=h
   simp [List.getD,ByteArray.get!,getElem!_pos,h']
theorem conv {w:World} {b off cap:Nat} {s:ByteArray} (hc:∀ j,j<s.size→w.cell? ⟨b,off+j,none⟩=some (.int .u8 (s.get! j).toNat)) :
  (convert 68 9 (.slice (some ⟨b,off,none⟩) s.size cap)).run Tryz.prog w=.ok (.string s) w:=by
 have:=run_convert_bytes_arg (P:=Tryz.prog) w 68 5 Tryz.underlying68 Tryz.underlying5 b off s.size cap (s.data.toList.map fun b=>(b.toNat:Int)) (by rw [List.length_map];rfl) (fun i hi=>by rw [getD_bytes s i hi];exact hc i hi) 9 Tryz.underlying9
 rw [strOf] at this
 exact this
def foldN (c:Nat):Nat:=if 65≤c∧c≤90 then c+32 else c
def foldB (b:UInt8):UInt8:=UInt8.ofNat (foldN b.toNat)
def foldS (s:ByteArray):ByteArray:=⟨s.data.map foldB⟩
theorem foldB_nat (b:UInt8):(foldB b).toNat=foldN b.toNat:=by
 have:=b.toNat_lt
 unfold foldB foldN
 split <;> simp <;> omega
theorem foldS_size (s:ByteArray):(foldS s).size=s.size:=by
 cases s with
 | mk d=>exact Array.size_map
theorem foldS_get (s:ByteArray) (j:Nat) (h:j<s.size):(foldS s).get! j=foldB (s.get! j):=by
 cases s with
 | mk d =>
   have h':j<d.size:=h
   simp [foldS,ByteArray.get!,getElem!_pos,h']
theorem foldS_twice (s:ByteArray):foldS (foldS s)=foldS s:=by
 cases s with
 | mk d =>
   simp only [foldS,Array.map_map]
   congr 1
   apply Array.map_congr_left
   intro b _
   apply UInt8.toNat.inj
   simp only [Function.comp,foldB_nat]
   unfold foldN
   have:=b.toNat_lt
   repeat' split
   all_goals omega
theorem bytesOf (s:ByteArray) (w:World):∃ g cap W,(convert 9 68 (.string s)).run Tryz.prog w=.ok (.slice (some ⟨g,0,none⟩) s.size cap) W∧s.size≤cap∧w.heap.size≤g ∧
  (∀ j,j<s.size→W.cell? ⟨g,j,none⟩=some (.int .u8 (s.get! j).toNat))∧(∀ j,j<s.size→W.frozen? ⟨g,j,none⟩=false)∧Below w.heap.size w W:=by
 have hcv:=run_bytes_of_string (P:=Tryz.prog) w 9 68 5 s Tryz.underlying9 Tryz.underlying68 Tryz.underlying5
 have hge:=grownCap_ge w s.size 0 5
 have hsz:(bytesRow s (grownCap w s.size 0 5)).size=grownCap w s.size 0 5:=by
  have:s.data.size=s.size:=rfl
  simp [bytesRow]
  omega
 generalize grownCap w s.size 0 5=cap at *
 have hnew:(w.drew.alloc (.cells (bytesRow s cap) 5 ((bytesRow s cap).size,(bytesRow s cap).size+1))).heap[w.heap.size]? = some (.cells (bytesRow s cap) 5 ((bytesRow s cap).size,(bytesRow s cap).size+1)):=heap_alloc_new w.drew _
 refine ⟨w.heap.size,cap,_,hcv,hge,Nat.le_refl _,fun j hj=>?_,fun j hj=>?_,((Below.refl _ w).drew).alloc (Nat.le_refl _) _⟩
 ·have hd:j<s.data.size:=hj
  have hg:(bytesRow s cap)[j]? = some (.int .u8 (s.get! j).toNat):=by
   have hgs:s.get! j=s.data[j]:=by
    cases s with
    | mk d=>exact getElem!_pos d j hd
   rw [hgs]
   unfold bytesRow
   rw [Array.getElem?_append_left (by simpa using hd),Array.getElem?_map,Array.getElem?_eq_getElem hd]
   rfl
  simp only [World.cell?,hnew]
  exact hg
 ·simp only [World.frozen?,hnew]
  simp
  omega
def FoldAt (s:ByteArray) (g k:Nat) (w:World):Prop:=∀ j,j<s.size→w.cell? ⟨g,j,none⟩=some (.int .u8 (if j<k then foldN (s.get! j).toNat else (s.get! j).toNat:Nat))
theorem fold_step {s:ByteArray} {g k:Nat} {w:World} (h:FoldAt s g k w) (hk:k<s.size) {x:Int} (hx:x=foldN (s.get! k).toNat):FoldAt s g (k+1) (w.setCell ⟨g,k,none⟩ (.int .u8 x)):=by
 intro j hj
 by_cases e:j=k
 ·subst e
  rw [World.cell?_setCell_same _ _ _ (h j hj),if_pos (by omega),hx]
 ·rw [World.cell?_setCell_other _ _ _ _ (by simp;try omega),h j hj]
  by_cases h1:j<k
  ·rw [if_pos h1,if_pos (by omega)]
  ·rw [if_neg h1,if_neg (by omega)]
theorem fold_keep {s:ByteArray} {g k:Nat} {w:World} (h:FoldAt s g k w) (hx:foldN (s.get! k).toNat=(s.get! k).toNat):FoldAt s g (k+1) w:=by
 intro j hj
 rw [h j hj]
 by_cases e:j=k
 ·subst e
  rw [if_neg (by omega),if_pos (by omega),hx]
 ·by_cases h1:j<k
  ·rw [if_pos h1,if_pos (by omega)]
  ·rw [if_neg h1,if_neg (by omega)]
theorem fold_conv {s:ByteArray} {g cap:Nat} {w:World} (h:FoldAt s g s.size w):(convert 68 9 (.slice (some ⟨g,0,none⟩) s.size cap)).run Tryz.prog w=.ok (.string (foldS s)) w:=by
 have:=conv (w:=w) (b:=g) (off:=0) (cap:=cap) (s:=foldS s) (fun j hj=>by
  rw [foldS_size] at hj
  rw [Nat.zero_add,h j hj,if_pos hj,foldS_get s j hj,foldB_nat])
 rw [foldS_size] at this
 exact this
set_option maxRecDepth 1000000 in
theorem fold_any (s:ByteArray) (w:World) (hs:s.size≤1000000000000) :
  Calls Tryz.prog 72 #[.string s] w fun e w'=>e=.returned (.string (foldS s))∧Below w.heap.size w w':=by
 obtain ⟨g,cap,W,hcv,hcap,hg,hcell,hfr,hb⟩:=bytesOf s w
 go_enter Tryz.func72,Tryz.ntmps72
 go_wp2
 clear hcv
 go_loopw [10] (fun i wr=>∃ k:Nat,k≤s.size∧i=.int .i64 k∧FoldAt s g k wr∧(∀ j,j<s.size→wr.frozen? ⟨g,j,none⟩=false)∧Below w.heap.size w wr) (fun i _=>s.size - (intOf i).toNat)
 case atStart=>exact ⟨0,Nat.zero_le _,rfl,fun j hj=>by simpa using hcell j hj,hfr,hb⟩
 case round =>
  clear hcell hfr hb
  obtain ⟨k,hk,rfl,hcell,hfr,hb⟩:=hrel
  by_cases hlt:k<s.size
  ·obtain ⟨c,hc⟩:∃ c:Nat,(s.get! k).toNat=c:=⟨_,rfl⟩
   have ck:wr.cell? ⟨g,k,none⟩=some (.int .u8 c):=by
    have:=hcell k hlt
    rw [if_neg (Nat.lt_irrefl k),hc] at this
    exact this
   have fk:=hfr k hlt
   have h256:c<256:=by rw [← hc];exact (s.get! k).toNat_lt
   have HF:Hid (∀ j,j<s.size→wr.frozen? ⟨g,j,none⟩=false):=hfr
   clear hfr
   by_cases h:65≤c∧c≤90
   ·have HX:Hid (((c:Int)+32)=foldN (s.get! k).toNat):=by
     show _=_
     rw [hc,foldN,if_pos h]
     omega
    obtain ⟨h1,h2⟩:=h
    clear hc
    go_wp2
    go_roundw
    case rel=>exact ⟨k+1,by omega,by go_num,fold_step hcell hlt (by rw [← HX.out];try omega),fun j hj=>by rw [World.frozen?_setCell];exact HF.out j hj,hb.setCell hg _⟩
    case measure=>simp [intOf];omega
   ·have HX:Hid (foldN (s.get! k).toNat=(s.get! k).toNat):=by
     show _=_
     rw [hc,foldN,if_neg h]
    clear hc
    rcases (show c<65∨90<c by omega) with h1 | h1
    all_goals
     clear h
     go_wp2
     go_roundw
     case rel=>exact ⟨k+1,by omega,by go_num,fold_keep hcell HX.out,HF.out,hb⟩
     case measure=>simp [intOf];omega
  ·have hks:k=s.size:=by omega
   rw [hks] at hcell
   have hcv2:=fold_conv (cap:=cap) hcell
   clear hks
   go_wp2
   go_ret
   exact ⟨rfl,hb⟩
end Go.Proofs.YtdneaeokljoijaaGreatDoor.N
