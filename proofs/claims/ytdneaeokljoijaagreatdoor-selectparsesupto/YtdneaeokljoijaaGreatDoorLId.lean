/- The reader of selectors: an ID, a class. -/
import Derived.Test.YtdneaeokljoijaaGreatDoorRows
import Derived.WalkKit
import Derived.WalkLawsBesides
import Derived.Lib.RuneCount
import Derived.Lib.OthersKept
import Derived.Laws.BytesArg
import Derived.Below
import Derived.OneCell
import Derived.Maps.AppendAt
import Derived.WalkSpells
import Derived.Deep.QuietTactic
import Derived.BigQuiet
import Derived.Lib.RuneBytes
import Derived.KernelRfl
import Derived.IntWalk
import Derived.Deep.MidRow
import Derived.Deep.WholeRow
import Derived.Deep.DeepCutAuto
import Derived.Deep.RegionHeld3
import Derived.Handy
import Derived.OwnWalk
set_option maxRecDepth 100000
set_option maxHeartbeats 8000000
namespace Go.Proofs.YtdneaeokljoijaaGreatDoor.Y
open Go.RowKit
def BytesAt (w:World) (v:Value) (s:ByteArray):Prop :=
 ∃ a cap,v=.slice a s.size cap∧s.size≤cap∧(0<s.size→∃ b off,a=some ⟨b,off,none⟩∧∀ j,j<s.size→w.cell? ⟨b,off+j,none⟩=some (.int .u8 (s.get! j).toNat))
theorem strOf (s:ByteArray):strOfNums (s.data.toList.map fun b=>(b.toNat:Int))=s:=by
 cases s with
 | mk d =>
   have e:((fun n:Int=>UInt8.ofNat n.toNat) ∘ fun b:UInt8=>(b.toNat:Int))=id:=by
    funext b
    simp
   simp [strOfNums,e]
theorem getD_bytes (s:ByteArray) (j:Nat) (h:j<s.size):(s.data.toList.map fun b=>(b.toNat:Int)).getD j 0=((s.get! j).toNat:Int):=by
 cases s with
 | mk d =>
   have h':j<d.size:=h
   simp [List.getD,ByteArray.get!,getElem!_pos,h']
theorem conv {w:World} {b off cap:Nat} {s:ByteArray} (hc:∀ j,j<s.size→w.cell? ⟨b,off+j,none⟩=some (.int .u8 (s.get! j).toNat)) :
  (convert 68 9 (.slice (some ⟨b,off,none⟩) s.size cap)).run Tryz.prog w=.ok (.string s) w:=by
 have:=run_convert_bytes_arg (P:=Tryz.prog) w 68 5 Tryz.underlying68 Tryz.underlying5 b off s.size cap (s.data.toList.map fun b=>(b.toNat:Int)) (by rw [List.length_map];rfl) (fun i hi=>by rw [getD_bytes s i hi];exact hc i hi) 9 Tryz.underlying9
 rw [strOf] at this
 exact this
theorem conv_empty {w:World} {a:Option Addr} {cap:Nat} :
  (convert 68 9 (.slice a 0 cap)).run Tryz.prog w=.ok (.string ByteArray.empty) w:=by
 rw [run_convert_bytes_string w 68 9 5 _ 0 cap Tryz.underlying68 Tryz.underlying5 Tryz.underlying9]
 cases a with
 | none=>simp [Conv.bytesToString]
 | some a =>
   have:=run_bytesToString (P:=Tryz.prog) w a 0 cap [] (by simp [loadCells,loadCellsFrom])
   simpa using this
theorem Below.iter {B:Nat} {a w:World} (h:Below B a w) (hB:B≤w.heap.size) (s:ByteArray) (pos:Nat):Below B a (w.iter s pos):=h.alloc hB _
theorem conv_tail {w:World} {b off cap k:Nat} {s:ByteArray} (hk:k≤s.size) (hc:∀ j,j<s.size→w.cell? ⟨b,off+j,none⟩=some (.int .u8 (s.get! j).toNat)) :
  ∃ t:ByteArray,t.size=s.size - k∧(convert 68 9 (.slice (some ⟨b,off+k,none⟩) (s.size - k) (cap - k))).run Tryz.prog w=.ok (.string t) w:=by
 refine ⟨s.extract k s.size,by simp,?_⟩
 have:=conv (w:=w) (b:=b) (off:=off+k) (cap:=cap - k) (s:=s.extract k s.size) (fun j hj=>by
  have hj':j<s.size - k:=by simpa using hj
  have:=hc (k+j) (by omega)
  rw [show off+k+j=off+(k+j) by omega,this]
  have e:(s.extract k s.size).get! j=s.get! (k+j):=by
   cases s with
   | mk d =>
     have h1:k+j<d.size:=by have:(ByteArray.mk d).size=d.size:=rfl;omega
     have h2:j<(d.extract k d.size).size:=by simp;omega
     have e1:((ByteArray.mk d).extract k (ByteArray.mk d).size).data=d.extract k d.size:=by
      rw [ByteArray.data_extract];rfl
     unfold ByteArray.get!
     simp only [e1,getElem!_pos,h1,h2]
     simp
  rw [e])
 simpa using this
theorem Tryz.info21:(Tryz.prog.info? 21).map (fun i=>(i.zero,i.size,i.bytes))=some (some (.int .i32 0),1,4):=by kernel_rfl
theorem Tryz.info5:(Tryz.prog.info? 5).map (fun i=>(i.zero,i.size,i.bytes))=some (some (.int .u8 0),1,1):=by kernel_rfl
def settledZ (c:Int):Int:=if c=13∨c=12 then 10 else if c=0 then 65533 else c
def charsFrom (s:ByteArray):Nat→Nat→List Int
 | 0,_=>[]
 | f+1,pos=>if pos<s.size then ((Utf8.decode s pos).1:Int)::charsFrom s f (pos+(Utf8.decode s pos).2) else []
def chars (s:ByteArray):List Int:=charsFrom s s.size 0
def normZ:Int→List Int→List Int
 | _,[]=>[]
 | last,c::r=>if last=13∧c=10 then normZ c r else settledZ c::normZ c r
def runesZ (s:ByteArray):List Int:=normZ 0 (chars s)
theorem charsFrom_end (s:ByteArray) (f pos:Nat) (h:¬ pos<s.size):charsFrom s f pos=[]:=by
 cases f <;> simp [charsFrom,h]
theorem ownsRow_iter {w:World} {B:Nat} {e:TypeId} {v:Value} {n:Nat} {xs:List Value} (h:w.ownsRow B e 1 v n xs) {k:Nat} {s:ByteArray} {pos:Nat} (hk:w.heap[k]? = some (.stringIter s pos)) (pos':Nat) :
  (w.iterAt k s pos').ownsRow B e 1 v n xs:=by
 refine ⟨h.1,?_⟩
 rcases h.2 with hn | ⟨g,cap,cur,hv,hb,hg,rest⟩
 ·exact .inl hn
 ·have hkg:g≠k:=by
   intro e1
   rw [e1,hk] at hg
   cases hg
  exact .inr ⟨g,cap,cur,hv,hb,(Lib.iterAt_other w k g s pos' hkg).trans hg,rest⟩
theorem iter_grown {w w':World} {B:Nat} {e:TypeId} {v:Value} {n:Nat} {xs:List Value} (h:w.ownsRow B e 1 v n xs) {k:Nat} {s:ByteArray} {pos:Nat} (hk:w.heap[k]? = some (.stringIter s pos)) (hg:w.grownBy w' v.ownBlock) :
  w'.heap[k]? = some (.stringIter s pos):=by
 have hlt:k<w.heap.size:=(Array.getElem?_eq_some_iff.1 hk).1
 rw [hg.block k hlt ?_]
 ·exact hk
 ·intro hkv
  rcases h.2 with ⟨rfl,_⟩ | ⟨g,cap,cur,rfl,_,hgg,_⟩
  ·simp [Value.ownBlock] at hkv
  ·simp [Value.ownBlock] at hkv
   subst hkv
   rw [hk] at hgg
   cases hgg
theorem conv_any {w:World} {v:Value} {s:ByteArray} (h:BytesAt w v s):(convert 68 9 v).run Tryz.prog w=.ok (.string s) w:=by
 obtain ⟨a,cap,rfl,_,hc⟩:=h
 by_cases h0:0<s.size
 ·obtain ⟨b,off,rfl,hc'⟩:=hc h0
  exact conv hc'
 ·have e:s=ByteArray.empty:=by
   cases s with
   | mk d =>
     have:d.size=0:=by simp only [ByteArray.size] at h0;omega
     have:d=#[]:=by simpa using this
     subst this
     rfl
  subst e
  exact conv_empty
theorem BytesAt.below {w w':World} {v:Value} {s:ByteArray} (h:BytesAt w v s) (hb:Below w.heap.size w w'):BytesAt w' v s:=by
 obtain ⟨a,cap,rfl,h1,hc⟩:=h
 refine ⟨a,cap,rfl,h1,fun h0=>?_⟩
 obtain ⟨b,off,rfl,hc'⟩:=hc h0
 refine ⟨b,off,rfl,fun j hj=>?_⟩
 have:=hc' j hj
 exact (hb.cell (World.block_lt_of_cell? w _ this)).trans this
def RowAt (k:IntKind) (w:World) (v:Value) (xs:List Int):Prop :=
 ∃ a cap,v=.slice a xs.length cap∧xs.length≤cap∧(0<xs.length→∃ b off,a=some ⟨b,off,none⟩∧∀ j,j<xs.length→w.cell? ⟨b,off+j,none⟩=some (.int k (xs.getD j 0)))
theorem RowAt.below {k:IntKind} {w w':World} {v:Value} {xs:List Int} (h:RowAt k w v xs) (hb:Below w.heap.size w w'):RowAt k w' v xs:=by
 obtain ⟨a,cap,rfl,h1,hc⟩:=h
 refine ⟨a,cap,rfl,h1,fun h0=>?_⟩
 obtain ⟨b,off,rfl,hc'⟩:=hc h0
 refine ⟨b,off,rfl,fun j hj=>?_⟩
 have:=hc' j hj
 exact (hb.cell (World.block_lt_of_cell? w _ this)).trans this
theorem RowAt.own {k:IntKind} {w:World} {B:Nat} {e:TypeId} {v:Value} {xs:List Int} (h:w.ownsRow B e 1 v xs.length (xs.map (Value.int k))):RowAt k w v xs:=by
 rcases h.2 with ⟨rfl,h0⟩ | ⟨g,cap,cur,rfl,_,hg,hle,_,hsz,htk⟩
 ·have:xs=[]:=by simpa using h0
  subst this
  exact ⟨none,0,rfl,by simp,by simp⟩
 ·refine ⟨_,cap,rfl,hle,fun h0=>⟨g,0,rfl,fun j hj=>?_⟩⟩
  have:=h.cells (g:=g) rfl j (.int k (xs.getD j 0)) (by simp [hj])
  have e:(⟨g,0,none⟩:Addr).add j=⟨g,0+j,none⟩:=by unfold Addr.add;split <;> simp_all
  rw [e] at this
  exact this
theorem ret_bool {a b:Bool} (h:a=b):Ending.returned (.bool a)=.returned (.bool b):=by rw [h]
def sameZ (xs ys:List Int):Bool:=decide (xs=ys)
theorem eq_take_succ {xs ys:List Int} {k:Nat} (h1:xs.take k=ys.take k) (hx:k<xs.length) (hy:k<ys.length) (h:xs.getD k 0=ys.getD k 0):xs.take (k+1)=ys.take (k+1):=by
 rw [List.take_succ_eq_append_getElem hx,List.take_succ_eq_append_getElem hy,h1]
 simp [List.getD,hx,hy] at h
 rw [h]
end Go.Proofs.YtdneaeokljoijaaGreatDoor.Y
namespace Go.Proofs.YtdneaeokljoijaaGreatDoor.Y
open Go
def smallZ (c:Int):Bool:=decide (97≤c) && decide (c≤122)
def digitZ (c:Int):Bool:=decide (48≤c) && decide (c≤57)
def hexZ (c:Int):Int:=if 48≤c∧c≤57 then c - 48 else if 97≤c∧c≤102 then c - 87 else if 65≤c∧c≤70 then c - 55 else -1
def blankZ (c:Int):Bool:=c == 32 || c == 9 || c == 10
def startZ (c:Int):Bool:=decide ((97≤c∧c≤122)∨(65≤c∧c≤90)∨c=95∨128≤c)
def partZ (c:Int):Bool:=startZ c || digitZ c || c == 45
def hd (l:List Int) (i:Nat):Int:=l.getD i (-1)
def escB (l:List Int):Bool:=hd l 0 == 92 && hd l 1 != 10
def wordB (l:List Int):Bool:=startZ (hd l 0) || escB l
def nameB (l:List Int):Bool:=if hd l 0 == 45 then hd l 1 == 45 || wordB (l.drop 1) else wordB l
def signB (l:List Int):Bool:=hd l 0 == 43 || hd l 0 == 45
def dotB (l:List Int):Bool:=hd l 0 == 46 && digitZ (hd l 1)
def unsignZ (l:List Int):List Int:=if signB l then l.drop 1 else l
def numB (l:List Int):Bool:=digitZ (hd (unsignZ l) 0) || dotB (unsignZ l)
def standsB:List Int→List Int→Bool
 | [],_=>true
 | s::r,l=>hd l 0 == s && standsB r (l.drop 1)
def hexN:Nat→List Int→Int→Int×Nat
 | 0,_,n=>(n,0)
 | k+1,l,n=>if 0≤hexZ (hd l 0) then ((hexN k (l.drop 1) (n * 16+hexZ (hd l 0))).1,(hexN k (l.drop 1) (n * 16+hexZ (hd l 0))).2+1) else (n,0)
def numberedZ (n:Int):Int:=if n=0∨1114111<n∨(55296≤n∧n≤57343) then 65533 else n
def escT (t:List Int):Int×Nat :=
 if t=[] then (65533,0)
 else if hexZ (hd t 0)<0 then (hd t 0,1)
 else (numberedZ (hexN 6 t 0).1,if blankZ (hd t (hexN 6 t 0).2) then (hexN 6 t 0).2+1 else (hexN 6 t 0).2)
def nameT:List Int→Nat→List Int
 | [],_=>[]
 | _::t,k+1=>nameT t k
 | c::t,0=>if partZ c then c::nameT t 0 else if escB (c::t) then (escT t).1::nameT t (escT t).2 else []
def nameR:List Int→Nat→List Int
 | [],_=>[]
 | _::t,k+1=>nameR t k
 | c::t,0=>if partZ c then nameR t 0 else if escB (c::t) then nameR t (escT t).2 else c::t
theorem nameT_skip:∀ (l:List Int) (k:Nat),nameT l k=nameT (l.drop k) 0
 | [],k=>by simp [nameT]
 | _::_,0=>rfl
 | _::t,k+1=>by rw [nameT,nameT_skip t k];rfl
theorem nameR_skip:∀ (l:List Int) (k:Nat),nameR l k=nameR (l.drop k) 0
 | [],k=>by simp [nameR]
 | _::_,0=>rfl
 | _::t,k+1=>by rw [nameR,nameR_skip t k];rfl
def consO (x:Int) (r:Option (List Int)×List Int):Option (List Int)×List Int:=(r.1.map (x :: ·),r.2)
def quoZ (e:Int):List Int→Nat→Option (List Int)×List Int
 | [],_=>(some [],[])
 | _::t,k+1=>quoZ e t k
 | c::t,0 =>
   if c=e then (some [],t)
   else if c=10 then (none,c::t)
   else if c=92 then (if hd t 0=10 then quoZ e t 1 else if t=[] then quoZ e t 0 else consO (escT t).1 (quoZ e t (escT t).2))
   else consO c (quoZ e t 0)
theorem quoZ_skip (e:Int):∀ (l:List Int) (k:Nat),quoZ e l k=quoZ e (l.drop k) 0
 | [],k=>by simp [quoZ]
 | _::_,0=>rfl
 | _::t,k+1=>by rw [quoZ,quoZ_skip e t k];rfl
def ctrlZ (c:Int):Bool:=decide (1≤c∧c≤8) || c == 11 || decide (14≤c∧c≤31) || c == 127
def urlOn (l:List Int):Bool :=
 if l=[] then false else if blankZ (hd l 0) then false else if ctrlZ (hd l 0) then false else if hd l 0=92 then escB l
 else hd l 0 != 34 && hd l 0 != 39 && hd l 0 != 40 && hd l 0 != 41
def urlT:List Int→Nat→List Int
 | [],_=>[]
 | _::t,k+1=>urlT t k
 | c::t,0=>if urlOn (c::t) then (if escB (c::t) then (escT t).1::urlT t (escT t).2 else c::urlT t 0) else []
def urlR:List Int→Nat→List Int
 | [],_=>[]
 | _::t,k+1=>urlR t k
 | c::t,0=>if urlOn (c::t) then (if escB (c::t) then urlR t (escT t).2 else urlR t 0) else c::t
theorem urlT_skip:∀ (l:List Int) (k:Nat),urlT l k=urlT (l.drop k) 0
 | [],k=>by simp [urlT]
 | _::_,0=>rfl
 | _::t,k+1=>by rw [urlT,urlT_skip t k];rfl
theorem urlR_skip:∀ (l:List Int) (k:Nat),urlR l k=urlR (l.drop k) 0
 | [],k=>by simp [urlR]
 | _::_,0=>rfl
 | _::t,k+1=>by rw [urlR,urlR_skip t k];rfl
def badR:List Int→Nat→List Int
 | [],_=>[]
 | _::t,k+1=>badR t k
 | c::t,0=>if c=41 then t else if escB (c::t) then badR t (escT t).2 else badR t 0
theorem badR_skip:∀ (l:List Int) (k:Nat),badR l k=badR (l.drop k) 0
 | [],k=>by simp [badR]
 | _::_,0=>rfl
 | _::t,k+1=>by rw [badR,badR_skip t k];rfl
def comR:List Int→List Int
 | []=>[]
 | c::t=>if c=42∧hd t 0=47 then t.drop 1 else comR t
def blanksR:List Int→List Int
 | []=>[]
 | c::t=>if blankZ c then blanksR t else c::t
def digitsR:List Int→List Int
 | []=>[]
 | c::t=>if digitZ c then digitsR t else c::t
def expN (l:List Int):Nat :=
 if hd l 0=101∨hd l 0=69 then
  (if signB (l.drop 1) then (if digitZ (hd l 2) then 2 else 0) else (if digitZ (hd l 1) then 1 else 0))
 else 0
def mantR (l:List Int):List Int:=digitsR (unsignZ l)
def fracR (l:List Int):List Int:=if dotB l then digitsR (l.drop 1) else l
def expR (l:List Int):List Int:=if 0<expN l then digitsR (l.drop (expN l)) else l
def numR (l:List Int):List Int:=expR (fracR (mantR l))
def numW (l:List Int):Bool:=!dotB (mantR l) && !decide (0<expN (fracR (mantR l)))
def gone (l r:List Int):List Int:=l.take (l.length - r.length)
structure Tok where
 kind:Int
 text:List Int
 unit:List Int
 flag:Bool
 whole:Bool
def plainTok (k:Int) (t:List Int):Tok:=⟨k,t,[],false,false⟩
def mkTok (k:Int) (t u:List Int) (w f:Bool):Tok:=⟨k,t,u,f,w⟩
def foldI (c:Int):Int:=if 65≤c∧c≤90 then c+32 else c
def bytesZ (xs:List Int):List Int:=xs.flatMap Lib.encodeRuneZ
def urlNm (t:List Int):Bool:=(bytesZ t).map foldI == [117,114,108]
def qbB (l:List Int):Bool:=hd (blanksR l) 0 == 34 || hd (blanksR l) 0 == 39
def strZ (l:List Int):Tok×List Int:=match quoZ (hd l 0) (l.drop 1) 0 with
 | (some t,r)=>(plainTok 5 t,r)
 | (none,r)=>(plainTok 6 [],r)
def hashZ (l:List Int):Tok×List Int:=(mkTok 4 (nameT l 0) [] false (nameB l),nameR l 0)
def numZ (l:List Int):Tok×List Int :=
 if nameB (numR l) then (mkTok 12 (gone l (numR l)) (nameT (numR l) 0) (numW l) false,nameR (numR l) 0)
 else if hd (numR l) 0=37 then (mkTok 11 (gone l (numR l)) [] (numW l) false,(numR l).drop 1)
 else (mkTok 10 (gone l (numR l)) [] (numW l) false,numR l)
def urlEnd (t r:List Int):Tok×List Int :=
 if blanksR r=[] then (plainTok 7 t,[]) else if hd (blanksR r) 0=41 then (plainTok 7 t,(blanksR r).drop 1) else (plainTok 8 [],badR (blanksR r) 0)
def urlZ (l:List Int):Tok×List Int:=urlEnd (urlT (blanksR l) 0) (urlR (blanksR l) 0)
def wordZ (l:List Int):Tok×List Int :=
 if hd (nameR l 0) 0=40 then
  (if urlNm (nameT l 0) && !qbB ((nameR l 0).drop 1) then urlZ ((nameR l 0).drop 1) else (plainTok 2 (nameT l 0),(nameR l 0).drop 1))
 else (plainTok 1 (nameT l 0),nameR l 0)
def signZ (c:Int):Int :=
 if c=58 then 16 else if c=59 then 17 else if c=44 then 18 else if c=91 then 19 else if c=93 then 20 else if c=40 then 21 else if c=41 then 22 else if c=123 then 23 else if c=125 then 24 else 0
def singleZ (c:Int):Tok:=if 0<signZ c then plainTok (signZ c) [] else plainTok 9 [c]
def hashB (l:List Int):Bool:=hd l 0 == 35 && (partZ (hd l 1) || escB (l.drop 1))
def atB (l:List Int):Bool:=hd l 0 == 64 && nameB (l.drop 1)
def quoteB (l:List Int):Bool:=hd l 0 == 34 || hd l 0 == 39
def someT (r:Tok×List Int):Option Tok×List Int:=(some r.1,r.2)
def oneZ (l:List Int):Option Tok×List Int :=
 if standsB [47,42] l then (none,comR (l.drop 2))
 else if blankZ (hd l 0) then (some (plainTok 13 []),blanksR l)
 else if quoteB l then someT (strZ l)
 else if hashB l then someT (hashZ (l.drop 1))
 else if numB l then someT (numZ l)
 else if standsB [45,45,62] l then (some (plainTok 15 []),l.drop 3)
 else if standsB [60,33,45,45] l then (some (plainTok 14 []),l.drop 4)
 else if nameB l then someT (wordZ l)
 else if atB l then (some (plainTok 3 (nameT (l.drop 1) 0)),nameR (l.drop 1) 0)
 else (some (singleZ (hd l 0)),l.drop 1)
def toksF:List Int→Nat→List Tok
 | [],_=>[]
 | _::t,k+1=>toksF t k
 | c::t,0=>(oneZ (c::t)).1.toList++toksF t (t.length - (oneZ (c::t)).2.length)
def toks (l:List Int):List Tok:=toksF l 0
theorem toksF_skip:∀ (l:List Int) (k:Nat),toksF l k=toksF (l.drop k) 0
 | [],k=>by simp [toksF]
 | _::_,0=>rfl
 | _::t,k+1=>by rw [toksF,toksF_skip t k];rfl
theorem suf_drop (l:List Int) (k:Nat):l.drop k <:+ l:=List.drop_suffix k l
theorem suf_step {l m:List Int} {k:Nat} (h:m <:+ l.drop k):m <:+ l:=h.trans (suf_drop l k)
theorem suf_cons {c:Int} {t m:List Int} (h:m <:+ t):m <:+ c::t:=h.trans (List.suffix_cons c t)
theorem suf_len {m l:List Int} (h:m <:+ l):m=l.drop (l.length - m.length):=by
 obtain ⟨p,rfl⟩:=h
 simp
theorem nameR_suf:∀ (l:List Int) (k:Nat),nameR l k <:+ l
 | [],_=>List.suffix_refl _
 | _::t,k+1=>suf_cons (nameR_suf t k)
 | c::t,0=>by
   rw [nameR]
   split
   ·exact suf_cons (nameR_suf t 0)
   ·split
    ·exact suf_cons (nameR_suf t _)
    ·exact List.suffix_refl _
theorem urlR_suf:∀ (l:List Int) (k:Nat),urlR l k <:+ l
 | [],_=>List.suffix_refl _
 | _::t,k+1=>suf_cons (urlR_suf t k)
 | c::t,0=>by
   rw [urlR]
   split
   ·split
    ·exact suf_cons (urlR_suf t _)
    ·exact suf_cons (urlR_suf t 0)
   ·exact List.suffix_refl _
theorem badR_suf:∀ (l:List Int) (k:Nat),badR l k <:+ l
 | [],_=>List.suffix_refl _
 | _::t,k+1=>suf_cons (badR_suf t k)
 | c::t,0=>by
   rw [badR]
   split
   ·exact List.suffix_cons _ _
   ·split
    ·exact suf_cons (badR_suf t _)
    ·exact suf_cons (badR_suf t 0)
theorem consO_snd (x:Int) (r:Option (List Int)×List Int):(consO x r).2=r.2:=rfl
theorem quoZ_suf (e:Int):∀ (l:List Int) (k:Nat),(quoZ e l k).2 <:+ l
 | [],_=>List.suffix_refl _
 | _::t,k+1=>suf_cons (quoZ_suf e t k)
 | c::t,0=>by
   rw [quoZ]
   split
   ·exact List.suffix_cons _ _
   ·split
    ·exact List.suffix_refl _
    ·split
     ·split
      ·exact suf_cons (quoZ_suf e t _)
      ·split
       ·exact suf_cons (quoZ_suf e t _)
       ·rw [consO_snd];exact suf_cons (quoZ_suf e t _)
     ·rw [consO_snd];exact suf_cons (quoZ_suf e t _)
theorem comR_suf:∀ (l:List Int),comR l <:+ l
 | []=>List.suffix_refl _
 | c::t=>by
   rw [comR]
   split
   ·exact suf_cons (suf_drop t 1)
   ·exact suf_cons (comR_suf t)
theorem blanksR_suf:∀ (l:List Int),blanksR l <:+ l
 | []=>List.suffix_refl _
 | c::t=>by
   rw [blanksR]
   split
   ·exact suf_cons (blanksR_suf t)
   ·exact List.suffix_refl _
theorem digitsR_suf:∀ (l:List Int),digitsR l <:+ l
 | []=>List.suffix_refl _
 | c::t=>by
   rw [digitsR]
   split
   ·exact suf_cons (digitsR_suf t)
   ·exact List.suffix_refl _
theorem unsign_suf (l:List Int):unsignZ l <:+ l:=by
 unfold unsignZ
 split
 ·exact suf_drop _ _
 ·exact List.suffix_refl _
theorem mantR_suf (l:List Int):mantR l <:+ l:=(digitsR_suf _).trans (unsign_suf l)
theorem fracR_suf (l:List Int):fracR l <:+ l:=by
 unfold fracR
 split
 ·exact suf_step (digitsR_suf _)
 ·exact List.suffix_refl _
theorem expR_suf (l:List Int):expR l <:+ l:=by
 unfold expR
 split
 ·exact suf_step (digitsR_suf _)
 ·exact List.suffix_refl _
theorem numR_suf (l:List Int):numR l <:+ l:=(expR_suf _).trans ((fracR_suf _).trans (mantR_suf l))
theorem nameR_part {c:Int} {t:List Int} (h:partZ c=true):nameR (c::t) 0=nameR t 0:=by rw [nameR,if_pos h]
theorem nameR_less {c:Int} {t:List Int} (h:nameB (c::t)=true):nameR (c::t) 0 <:+ t:=by
 have aux:partZ c=true∨escB (c::t)=true:=by
  unfold nameB at h
  split at h
  ·left
   rename_i h1
   have:c=45:=by simpa [hd] using h1
   subst this
   decide
  ·unfold wordB at h
   rcases Bool.or_eq_true_iff.1 h with h1 | h1
   ·left
    have:startZ c=true:=h1
    simp [partZ,this]
   ·right;exact h1
 rw [nameR]
 split
 ·exact nameR_suf t 0
 ·rcases aux with h1 | h1
  ·contradiction
  ·rw [if_pos h1]
   exact nameR_suf t _
theorem mantR_less {c:Int} {t:List Int} (h:signB (c::t)=true∨digitZ c=true):mantR (c::t) <:+ t:=by
 unfold mantR unsignZ
 rcases h with h | h
 ·rw [if_pos h];exact digitsR_suf t
 ·split
  ·exact digitsR_suf t
  ·rw [digitsR,if_pos h];exact digitsR_suf t
theorem numR_less {c:Int} {t:List Int} (h:numB (c::t)=true):numR (c::t) <:+ t:=by
 by_cases hs:signB (c::t)=true
 ·exact (expR_suf _).trans ((fracR_suf _).trans (mantR_less (.inl hs)))
 ·have hu:unsignZ (c::t)=c::t:=by unfold unsignZ;rw [if_neg hs]
  unfold numB at h
  rw [hu] at h
  by_cases hdg:digitZ c=true
  ·exact (expR_suf _).trans ((fracR_suf _).trans (mantR_less (.inr hdg)))
  ·have hdot:dotB (c::t)=true:=by
    rcases Bool.or_eq_true_iff.1 h with h1 | h1
    ·exact absurd h1 hdg
    ·exact h1
   have hm:mantR (c::t)=c::t:=by unfold mantR;rw [hu,digitsR,if_neg hdg]
   unfold numR
   rw [hm]
   refine (expR_suf _).trans ?_
   unfold fracR
   rw [if_pos hdot]
   exact digitsR_suf t
theorem urlEnd_suf (x r:List Int):(urlEnd x r).2 <:+ r:=by
 unfold urlEnd
 split
 ·exact List.nil_suffix
 ·split
  ·exact suf_step (k:=0) ((suf_drop _ 1).trans (blanksR_suf r))
  ·exact (badR_suf _ _).trans (blanksR_suf r)
theorem urlZ_suf (l:List Int):(urlZ l).2 <:+ l:=(urlEnd_suf _ _).trans ((urlR_suf _ _).trans (blanksR_suf l))
theorem wordZ_suf (l:List Int):(wordZ l).2 <:+ nameR l 0:=by
 unfold wordZ
 split
 ·split
  ·exact suf_step (urlZ_suf _)
  ·exact suf_drop _ 1
 ·exact List.suffix_refl _
theorem numZ_suf (l:List Int):(numZ l).2 <:+ numR l:=by
 unfold numZ
 split
 ·exact nameR_suf _ _
 ·split
  ·exact suf_drop _ 1
  ·exact List.suffix_refl _
theorem strZ_suf (l:List Int):(strZ l).2 <:+ l.drop 1:=by
 have:=quoZ_suf (hd l 0) (l.drop 1) 0
 unfold strZ
 split
 ·rename_i h;rw [h] at this;exact this
 ·rename_i h;rw [h] at this;exact this
theorem one_less (c:Int) (t:List Int):(oneZ (c::t)).2 <:+ t:=by
 unfold oneZ
 split
 ·exact (comR_suf _).trans (suf_drop t 1)
 split
 ·rename_i h
  have:blankZ c=true:=h
  show blanksR (c::t) <:+ t
  rw [blanksR,if_pos this]
  exact blanksR_suf t
 split
 ·exact strZ_suf (c::t)
 split
 ·exact nameR_suf t 0
 split
 ·rename_i h
  exact (numZ_suf _).trans (numR_less h)
 split
 ·exact suf_drop t 2
 split
 ·exact suf_drop t 3
 split
 ·rename_i h
  exact (wordZ_suf _).trans (nameR_less h)
 split
 ·exact nameR_suf t 0
 ·exact List.suffix_refl _
theorem toks_cons (c:Int) (t:List Int):toks (c::t)=(oneZ (c::t)).1.toList++toks (oneZ (c::t)).2:=by
 unfold toks
 rw [toksF,toksF_skip,← suf_len (one_less c t)]
theorem example_one:toks [97,123,98,58,49,46,53,101,109,125]=[plainTok 1 [97],plainTok 23 [],plainTok 1 [98],plainTok 16 [],mkTok 12 [49,46,53] [101,109] false false,plainTok 24 []]:=by kernel_rfl
theorem example_two:toks [34,97,10]=[plainTok 6 [],plainTok 13 []]:=by kernel_rfl
end Go.Proofs.YtdneaeokljoijaaGreatDoor.Y
namespace Go.Proofs.YtdneaeokljoijaaGreatDoor.Y
open Go.RowKit
def fitZ (first:Bool) (c:Int):Bool:=if first then smallZ c else smallZ c || digitZ c || c == 45 || c == 95
def namesZ:Bool→List Int→Bool
 | _,[]=>true
 | f,c::r=>fitZ f c && namesZ false r
def nameZ (s:ByteArray):Bool:=if s.size=0∨64<s.size then false else namesZ true (chars s)
theorem setCell_block {w:World} {g k:Nat} (v:Value) (h:k≠g):(w.setCell ⟨g,0,none⟩ v).heap[k]? = w.heap[k]?:=Below.heap_setCell w ⟨g,0,none⟩ v k h
theorem ret_int {k:IntKind} {a b:Int} (h:a=b):Ending.returned (.int k a)=.returned (.int k b):=by rw [h]
theorem startZ_yes {c:Int} (h:(97≤c∧c≤122)∨(65≤c∧c≤90)∨c=95∨128≤c):startZ c=true:=decide_eq_true h
theorem startZ_no {c:Int} (h:¬ ((97≤c∧c≤122)∨(65≤c∧c≤90)∨c=95∨128≤c)):startZ c=false:=decide_eq_false h
theorem digitZ_yes {c:Int} (h1:48≤c) (h2:c≤57):digitZ c=true:=by simp [digitZ,h1,h2]
theorem digitZ_no {c:Int} (h:¬ (48≤c∧c≤57)):digitZ c=false:=by
 simp only [digitZ,Bool.and_eq_false_iff,decide_eq_false_iff_not];omega
theorem smallZ_yes {c:Int} (h1:97≤c) (h2:c≤122):smallZ c=true:=by simp [smallZ,h1,h2]
theorem smallZ_no {c:Int} (h:¬ (97≤c∧c≤122)):smallZ c=false:=by
 simp only [smallZ,Bool.and_eq_false_iff,decide_eq_false_iff_not];omega
end Go.Proofs.YtdneaeokljoijaaGreatDoor.Y
namespace Go.Proofs.YtdneaeokljoijaaGreatDoor.L
open Go.RowKit
def Hid (p:Prop):Prop:=p
theorem hid_mk {p:Prop} (h:p):Hid p:=h
theorem Hid.out {p:Prop} (h:Hid p):p:=h
theorem cellAt {w:World} {b:Nat} {cs:Array Value} {t:TypeId} {fr:Nat×Nat} (h:w.heap[b]? = some (.cells cs t fr)) (i:Nat):w.cell? ⟨b,i,none⟩=cs[i]?:=by
 simp [World.cell?,h]
theorem set_at {w:World} {b:Nat} {cs:Array Value} {t:TypeId} (i:Nat) (v:Value) (fr:Nat×Nat) (h:w.heap[b]? = some (.cells cs t fr)):(w.setCell ⟨b,i,none⟩ v).heap[b]? = some (.cells (cs.setIfInBounds i v) t fr):=by
 simp only [World.setCell,Array.getElem?_modify,h,if_pos,Option.map_some,Option.isSome_none,Bool.false_eq_true,if_false]
structure KeepX (b:Nat) (w w':World):Prop where
 os:w'.os=w.os
 tape:w'.tape=w.tape
 output:w'.output=w.output
 size:w.heap.size≤w'.heap.size
 block:∀ k,k<w.heap.size→k≠b→w'.heap[k]? = w.heap[k]?
theorem KeepX.of {b:Nat} {w w':World} (h:Below w.heap.size w w'):KeepX b w w':=⟨h.os,h.tape,h.output,h.size,fun k hk _=>h.block k hk⟩
theorem KeepX.trans {b:Nat} {w w1 w2:World} (h:KeepX b w w1) (k:KeepX b w1 w2):KeepX b w w2 :=
 ⟨k.os.trans h.os,k.tape.trans h.tape,k.output.trans h.output,Nat.le_trans h.size k.size,fun j hj hn=>(k.block j (Nat.lt_of_lt_of_le hj h.size) hn).trans (h.block j hj hn)⟩
theorem KeepX.below {b B:Nat} {w w':World} (h:KeepX b w w') (hb:B≤b) (hB:B≤w.heap.size):Below B w w' :=
 ⟨h.os,h.tape,h.output,h.size,fun k hk=>h.block k (Nat.lt_of_lt_of_le hk hB) (by omega)⟩
structure T5 where
 k:Int
 tx:ByteArray
 un:ByteArray
 wh:Bool
 fl:Bool
inductive V where
 | mk (t:T5) (kids:List V)
def V.tok:V→T5 | .mk t _=>t
def V.kids:V→List V | .mk _ l=>l
def t5Cells (t:T5):List Value:=[.int .i64 t.k,.string t.tx,.string t.un,.bool t.wh,.bool t.fl]
def vCells (t:T5) (kid:Value):List Value:=[.int .i64 t.k,.string t.tx,.string t.un,.bool t.wh,.bool t.fl,kid]
inductive VsAt (P:Nat→Prop) (W:World):Value→List V→Prop
 | mk (a:Option Addr) (cap:Nat) (vs:List V) (b off:Nat) (kv:Nat→Value) (h1:vs.length≤cap) (h2:cap≤9223372036854775807)
    (ha:0<vs.length→a=some ⟨b,off,none⟩∧b<W.heap.size∧P b)
    (hc:∀ i (h:i<vs.length),∀ j y,(vCells (vs[i]'h).tok (kv i))[j]? = some y→W.cell? ⟨b,off+i * 6+j,none⟩=some y)
    (hr:∀ i (h:i<vs.length),VsAt P W (kv i) (vs[i]'h).kids):VsAt P W (.slice a vs.length cap) vs
theorem cell_of_heap {W W':World} {b o:Nat} (h:W'.heap[b]? = W.heap[b]?):W'.cell? ⟨b,o,none⟩=W.cell? ⟨b,o,none⟩:=by
 simp only [World.cell?,h]
theorem VsAt.stay {P:Nat→Prop} {W W':World} (hs:W.heap.size≤W'.heap.size) (hk:∀ b,P b→b<W.heap.size→W'.heap[b]? = W.heap[b]?) {v:Value} {vs:List V} (h:VsAt P W v vs):VsAt P W' v vs:=by
 induction h with
 | mk a cap vs b off kv h1 h2 ha hc hr ih =>
   refine .mk a cap vs b off kv h1 h2 (fun h0=>⟨(ha h0).1,Nat.lt_of_lt_of_le (ha h0).2.1 hs,(ha h0).2.2⟩) (fun i h j y hy=>?_) ih
   obtain ⟨_,h3,h4⟩:=ha (by omega)
   exact (cell_of_heap (hk b h4 h3)).trans (hc i h j y hy)
theorem VsAt.keep {P:Nat→Prop} {W W':World} (hb:Below W.heap.size W W') {v:Value} {vs:List V} (h:VsAt P W v vs):VsAt P W' v vs:=h.stay hb.size (fun b _ hlt=>hb.block b hlt)
theorem VsAt.wider {P Q:Nat→Prop} {W:World} (hq:∀ b,P b→b<W.heap.size→Q b) {v:Value} {vs:List V} (h:VsAt P W v vs):VsAt Q W v vs:=by
 induction h with
 | mk a cap vs b off kv h1 h2 ha hc hr ih=>exact .mk a cap vs b off kv h1 h2 (fun h0=>⟨(ha h0).1,(ha h0).2.1,hq b (ha h0).2.2 (ha h0).2.1⟩) hc ih
theorem VsAt.nil (P:Nat→Prop) (W:World):VsAt P W (.slice none 0 0) [] :=
 .mk none 0 [] 0 0 (fun _=>.slice none 0 0) (Nat.le_refl _) (by decide) (fun h=>absurd h (by simp)) (fun i h=>absurd h (by simp)) (fun i h=>absurd h (by simp))
theorem VsAt.slice {P:Nat→Prop} {W:World} {v:Value} {vs:List V} (h:VsAt P W v vs):∃ a cap,v=.slice a vs.length cap∧vs.length≤cap∧cap≤9223372036854775807:=by
 cases h with
 | mk a cap vs b off kv h1 h2 ha hc hr=>exact ⟨a,cap,rfl,h1,h2⟩
theorem VsAt.cells {P:Nat→Prop} {W:World} {a:Option Addr} {n cap:Nat} {vs:List V} (h:VsAt P W (.slice a n cap) vs):n=vs.length∧vs.length≤cap∧cap≤9223372036854775807 ∧
  ∀ i (hi:i<vs.length),∃ b off kv,a=some ⟨b,off,none⟩∧b<W.heap.size∧(∀ j y,(vCells (vs[i]'hi).tok kv)[j]? = some y→W.cell? ⟨b,off+i * 6+j,none⟩=some y)∧VsAt P W kv (vs[i]'hi).kids:=by
 generalize hv:Value.slice a n cap=v at h
 cases h with
 | mk a' cap' vs b off kv h1 h2 ha hc hr =>
   cases hv
   exact ⟨rfl,h1,h2,fun i hi=>⟨b,off,kv i,(ha (by omega)).1,(ha (by omega)).2.1,hc i hi,hr i hi⟩⟩
theorem VsAt.drop {P:Nat→Prop} {W:World} {a:Option Addr} {n cap:Nat} {vs:List V} (h:VsAt P W (.slice a n cap) vs) (k:Nat) (hk:k≤vs.length) (a':Option Addr) (ha':k<vs.length→∃ b off,a=some ⟨b,off,none⟩∧a'=some ⟨b,off+k * 6,none⟩):VsAt P W (.slice a' (n - k) (cap - k)) (vs.drop k):=by
 generalize hv:Value.slice a n cap=v at h
 cases h with
 | mk a0 cap0 vs b off kv h1 h2 ha hc hr =>
   cases hv
   have hl:(vs.drop k).length=vs.length - k:=List.length_drop
   have hget:∀ i (h:i<(vs.drop k).length),(vs.drop k)[i]'h=vs[k+i]'(by omega):=fun i h=>List.getElem_drop ..
   have key:=VsAt.mk (P:=P) (W:=W) a' (cap - k) (vs.drop k) b (off+k * 6) (fun i=>kv (k+i)) (by omega) (by omega)
    (fun h0=>by
      obtain ⟨b',off',e1,e2⟩:=ha' (by omega)
      obtain ⟨q1,q2,q3⟩:=ha (by omega)
      rw [e1] at q1
      cases q1
      exact ⟨e2,q2,q3⟩)
    (fun i h j y hy=>by
      rw [hget i h] at hy
      have:=hc (k+i) (by omega) j y hy
      rw [show off+k * 6+i * 6+j=off+(k+i) * 6+j by omega]
      exact this)
    (fun i h=>by
      rw [hget i h]
      exact hr (k+i) (by omega))
   rw [hl] at key
   exact key
theorem VsAt.take {P:Nat→Prop} {W:World} {a:Option Addr} {n cap:Nat} {vs:List V} (h:VsAt P W (.slice a n cap) vs) (k:Nat) (hk:k≤vs.length):VsAt P W (.slice a k cap) (vs.take k):=by
 generalize hv:Value.slice a n cap=v at h
 cases h with
 | mk a0 cap0 vs b off kv h1 h2 ha hc hr =>
   cases hv
   have hl:(vs.take k).length=k:=by rw [List.length_take];omega
   have hget:∀ i (h:i<(vs.take k).length),(vs.take k)[i]'h=vs[i]'(by omega):=fun i h=>List.getElem_take ..
   have key:=VsAt.mk (P:=P) (W:=W) a cap (vs.take k) b off kv (by omega) (by omega) (fun h0=>ha (by omega))
    (fun i h j y hy=>by
      rw [hget i h] at hy
      exact hc i (by omega) j y hy)
    (fun i h=>by
      rw [hget i h]
      exact hr i (by omega))
   rw [hl] at key
   exact key
theorem VsAt.own {T:TypeId} {P:Nat→Prop} {W:World} {B:Nat} {v:Value} {vs:List V} {kv:Nat→Value} {cs:List Value} (h:W.ownsRow B T 6 v vs.length cs) (hP:∀ g,v.ownBlock=some g→P g)
  (hcs:∀ i (hi:i<vs.length),∀ j y,(vCells (vs[i]'hi).tok (kv i))[j]? = some y→cs[i * 6+j]? = some y) (hr:∀ i (hi:i<vs.length),VsAt P W (kv i) (vs[i]'hi).kids):VsAt P W v vs:=by
 obtain ⟨hl,h⟩:=h
 rcases h with ⟨rfl,hn⟩ | ⟨g,cap,cur,rfl,_,hg,hnc,hcm,hsz,hx⟩
 ·have hvs:vs=[]:=List.length_eq_zero_iff.1 hn
  subst hvs
  exact VsAt.nil P W
 ·refine .mk _ cap vs g 0 kv hnc hcm (fun _=>⟨rfl,(Array.getElem?_eq_some_iff.1 hg).1,hP g rfl⟩) (fun i hi j y hy=>?_) hr
  have h1:=hcs i hi j y hy
  have hlt:i * 6+j<vs.length * 6:=by
   have:=(List.getElem?_eq_some_iff.1 h1).1
   omega
  rw [← hx,List.getElem?_take_of_lt hlt] at h1
  rw [Nat.zero_add]
  simp only [World.cell?,hg]
  simpa using h1
def ahd (vs:List V) (i:Nat) (k:Int):Bool:=match vs[i]? with
 | some v=>v.tok.k == k
 | none=>false
def dlm (vs:List V) (i:Nat) (s:ByteArray):Bool:=match vs[i]? with
 | some v=>v.tok.k == 9 && (v.tok.tx.toList == s.toList)
 | none=>false
structure Rd (lo:Nat) (W0:World) (b:Nat) (kids:Value) (vs:List V) (W:World):Prop where
 at':∃ rest,W.heap[b]? = some (.cells #[rest,kids] 54 (0,0))∧VsAt (·<min lo b) W rest vs
 keep:KeepX b W0 W
theorem Rd.from {W0 W W':World} {lo b:Nat} {kids k2:Value} {vs us:List V} (h:Rd lo W0 b kids vs W) (k:Rd lo W b k2 us W'):Rd lo W0 b k2 us W':=⟨k.at',h.keep.trans k.keep⟩
theorem Rd.self {W0 W:World} {lo b:Nat} {kids:Value} {vs:List V} (h:Rd lo W0 b kids vs W):Rd lo W b kids vs W:=⟨h.at',KeepX.of (Below.refl _ _)⟩
theorem Rd.lt {W0 W:World} {lo b:Nat} {kids:Value} {vs:List V} (h:Rd lo W0 b kids vs W):b<W.heap.size:=by
 obtain ⟨r,h1,_⟩:=h.at'
 exact (Array.getElem?_eq_some_iff.1 h1).1
theorem Rd.then {W0 W W':World} {lo b:Nat} {kids:Value} {vs:List V} (h:Rd lo W0 b kids vs W) (hb:Below W.heap.size W W'):Rd lo W0 b kids vs W':=by
 obtain ⟨r,h1,h2⟩:=h.at'
 exact ⟨⟨r,(hb.block b h.lt).trans h1,h2.keep hb⟩,h.keep.trans (KeepX.of hb)⟩
theorem Rd.see {W0 W:World} {lo b:Nat} {kids:Value} {vs:List V} (h:Rd lo W0 b kids vs W):∃ a n cap,n=vs.length∧n≤cap∧cap≤9223372036854775807∧W.heap[b]? = some (.cells #[.slice a n cap,kids] 54 (0,0))∧VsAt (·<min lo b) W (.slice a n cap) vs ∧
  ∀ i v,vs[i]? = some v→i<n∧∃ g off kv,a=some ⟨g,off,none⟩∧W.cell? ⟨g,off+i * 6,none⟩=some (.int .i64 v.tok.k)∧W.cell? ⟨g,off+i * 6+1,none⟩=some (.string v.tok.tx)∧W.cell? ⟨g,off+i * 6+4,none⟩=some (.bool v.tok.fl)∧W.cell? ⟨g,off+i * 6+5,none⟩=some kv∧VsAt (·<min lo b) W kv v.kids:=by
 obtain ⟨rest,h1,h2⟩:=h.at'
 obtain ⟨a,cap,rfl,hc1,hc2⟩:=h2.slice
 refine ⟨a,vs.length,cap,rfl,hc1,hc2,h1,h2,fun i v hv=>?_⟩
 obtain ⟨hl,hv⟩:=List.getElem?_eq_some_iff.1 hv
 subst hv
 obtain ⟨_,_,_,hcl⟩:=h2.cells
 obtain ⟨g,off,kv,rfl,_,hcc,hk⟩:=hcl i hl
 exact ⟨hl,g,off,kv,rfl,hcc 0 _ rfl,hcc 1 _ rfl,hcc 4 _ rfl,hcc 5 _ rfl,hk⟩
theorem ahead_any {W0 W:World} {lo b:Nat} {kids:Value} {vs:List V} (h:Rd lo W0 b kids vs W) (i:Nat) (k:Int) :
  Calls Tryz.prog 25 #[.pointer (some ⟨b,0,none⟩),.int .i64 (i:Int),.int .i64 k] W fun e w'=>e=.returned (.bool (ahd vs i k))∧w'=W:=by
 obtain ⟨a,n,cap,hn,hc1,hc2,h1,_,hs⟩:=h.see
 have c0:W.cell? ⟨b,0,none⟩=some (.slice a n cap):=cellAt h1 0
 cases hv:vs[i]? with
 | some v =>
   obtain ⟨hl,g,off,kv,rfl,q0,_⟩:=hs i v hv
   have HE:Hid (ahd vs i k=(v.tok.k == k)):=by rw [Hid,ahd,hv]
   have hd1:decide ((i:Int)<(n:Int))=true:=decide_eq_true (by omega)
   rw [HE.out]
   clear h h1 hs hv hn HE
   generalize v.tok.k=kk at *
   go_enter Tryz.func25,Tryz.ntmps25
   go_wp2
   go_ret
   exact ⟨rfl,rfl⟩
 | none =>
   have HE:Hid (ahd vs i k=false):=by rw [Hid,ahd,hv]
   have hd1:decide ((i:Int)<(n:Int))=false:=decide_eq_false (by have:=List.getElem?_eq_none_iff.1 hv;omega)
   have hd2:¬ (i:Int)<(n:Int):=by have:=List.getElem?_eq_none_iff.1 hv;omega
   rw [HE.out]
   clear h h1 hs hv hn HE
   go_enter Tryz.func25,Tryz.ntmps25
   go_wp2
   go_ret
   exact ⟨rfl,rfl⟩
theorem skip_any {W:World} {lo b:Nat} {kids:Value} {vs:List V} (h:Rd lo W b kids vs W) (n:Nat) (hn:n≤vs.length) :
  Calls Tryz.prog 26 #[.pointer (some ⟨b,0,none⟩),.int .i64 (n:Int)] W fun e w'=>e=.returned (.tuple #[])∧Rd lo W b kids (vs.drop n) w':=by
 obtain ⟨a,m,cap,hm,hc1,hc2,h1,h2,hs⟩:=h.see
 have c0:W.cell? ⟨b,0,none⟩=some (.slice a m cap):=cellAt h1 0
 have f0:W.frozen? ⟨b,0,none⟩=false:=by simp [World.frozen?,h1]
 have hle:n≤m:=by omega
 have HH:=hid_mk h1
 have HV:=hid_mk h2
 have HM:=hid_mk hm
 have HS:Hid (∀ a',(n<vs.length→∃ g off,a=some ⟨g,off,none⟩∧a'=some ⟨g,off+n * 6,none⟩)→∀ W',KeepX b W W'→W'.heap[b]? = some (.cells #[.slice a' (m - n) (cap - n),kids] 54 (0,0))→Rd lo W b kids (vs.drop n) W'):=fun a' ha' W' hk hh =>
  ⟨⟨_,hh,(h2.drop n hn a' ha').stay hk.size (fun j hj hlt=>hk.block j hlt (by omega))⟩,hk⟩
 have HA:Hid (n<vs.length→∃ g off,a=some ⟨g,off,none⟩):=fun hl=>by
  obtain ⟨_,g,off,_,e,_⟩:=hs n _ (List.getElem?_eq_getElem hl)
  exact ⟨g,off,e⟩
 have HK:Hid (∀ v,KeepX b W (W.setCell ⟨b,0,none⟩ v)):=fun v=>⟨rfl,rfl,rfl,by simp,fun k _ hk=>Below.heap_setCell _ _ _ _ hk⟩
 clear h h1 h2 hs hm hn
 go_enter Tryz.func26,Tryz.ntmps26
 go_wp2
 ·refine bodyPost_end (v:=.tuple #[]) (by simp [results,Tryz.results26,go_sem]) rfl ⟨rfl,HS.out a (fun hl=>by have:=HM.out;omega) _ (HK.out _) ?_⟩
  rw [set_at 0 _ _ HH.out]
  simp
  omega
 ·refine bodyPost_end (v:=.tuple #[]) (by simp [results,Tryz.results26,go_sem]) rfl ⟨rfl,HS.out (Option.map (fun x=>x.add (n * 6)) a) (fun hl=>?_) _ (HK.out _) ?_⟩
  ·obtain ⟨g,off,e⟩:=HA.out hl
   exact ⟨g,off,e,by simp [e,Addr.add]⟩
  ·rw [set_at 0 _ _ HH.out]
   rfl
theorem delim_any {W0 W:World} {lo b:Nat} {kids:Value} {vs:List V} (h:Rd lo W0 b kids vs W) (i:Nat) (s:ByteArray) :
  Calls Tryz.prog 103 #[.pointer (some ⟨b,0,none⟩),.int .i64 (i:Int),.string s] W fun e w'=>e=.returned (.bool (dlm vs i s))∧w'=W:=by
 have ha:=ahead_any h i 9
 obtain ⟨a,n,cap,hn,hc1,hc2,h1,_,hs⟩:=h.see
 have c0:W.cell? ⟨b,0,none⟩=some (.slice a n cap):=cellAt h1 0
 by_cases hk:ahd vs i 9=true
 ·cases hv:vs[i]? with
  | none=>rw [ahd,hv] at hk;cases hk
  | some v =>
    obtain ⟨hl,g,off,kv,rfl,_,q1,_⟩:=hs i v hv
    have hkk:(v.tok.k == 9)=true:=by rw [ahd,hv] at hk;exact hk
    have HE:Hid (dlm vs i s=(v.tok.tx.toList == s.toList)):=by rw [Hid,dlm,hv];simp only [hkk,Bool.true_and]
    rw [HE.out]
    rw [hk] at ha
    clear h h1 hs hv hn HE hk hkk
    generalize v.tok.tx=tx at *
    go_enter Tryz.func103,Tryz.ntmps103
    go_wp2_with (go_at_call 25;fail)
    refine ha.mono ?_
    rintro e w1 ⟨rfl,rfl⟩
    clear ha
    go_wp2
    go_ret
    exact ⟨rfl,rfl⟩
 ·have hk2:ahd vs i 9=false:=by simpa using hk
  have HE:Hid (dlm vs i s=false):=by
   rw [Hid,dlm]
   cases hv:vs[i]? with
   | none=>rfl
   | some v =>
     rw [ahd,hv] at hk2
     have:(v.tok.k == 9)=false:=hk2
     simp only [this,Bool.false_and]
  rw [HE.out]
  rw [hk2] at ha
  clear h h1 hs hn HE hk hk2
  go_enter Tryz.func103,Tryz.ntmps103
  go_wp2_with (go_at_call 25;fail)
  refine ha.mono ?_
  rintro e w1 ⟨rfl,rfl⟩
  clear ha
  go_wp2
  go_ret
  exact ⟨rfl,rfl⟩
def restLen (W:World) (b:Nat):Nat:=match W.cell? ⟨b,0,none⟩ with
 | some (.slice _ n _)=>n
 | _=>0
theorem Rd.len {W0 W:World} {lo b:Nat} {kids:Value} {vs:List V} (h:Rd lo W0 b kids vs W):restLen W b=vs.length:=by
 obtain ⟨a,n,cap,hn,_,_,h1,_⟩:=h.see
 unfold restLen
 rw [cellAt h1 0]
 exact hn
def spc (vs:List V):List V:=vs.dropWhile fun v=>v.tok.k == 13
theorem spc_go {vs:List V} (h:ahd vs 0 13=true):spc vs=spc (vs.drop 1)∧0<vs.length:=by
 cases vs with
 | nil=>cases h
 | cons v vs =>
   have h':(v.tok.k == 13)=true:=h
   refine ⟨?_,by simp⟩
   unfold spc
   rw [List.dropWhile_cons,if_pos h']
   rfl
theorem spc_end {vs:List V} (h:ahd vs 0 13=false):spc vs=vs:=by
 cases vs with
 | nil=>rfl
 | cons v vs =>
   have h':(v.tok.k == 13)=false:=h
   unfold spc
   rw [List.dropWhile_cons,if_neg (by rw [h'];decide)]
theorem spaces_any {W:World} {lo b:Nat} {kids:Value} {vs:List V} (h:Rd lo W b kids vs W) :
  Calls Tryz.prog 23 #[.pointer (some ⟨b,0,none⟩)] W fun e w'=>e=.returned (.bool (ahd vs 0 13))∧Rd lo W b kids (spc vs) w':=by
 have ha:=ahead_any h 0 13
 have HA:Hid (∀ us W',Rd lo W b kids us W'→Calls Tryz.prog 25 #[.pointer (some ⟨b,0,none⟩),.int .i64 0,.int .i64 13] W' fun e w'=>e=.returned (.bool (ahd us 0 13))∧w'=W'):=fun us W' h=>ahead_any h 0 13
 have HS:Hid (∀ us W',Rd lo W b kids us W'→0<us.length→Calls Tryz.prog 26 #[.pointer (some ⟨b,0,none⟩),.int .i64 1] W' fun e w'=>e=.returned (.tuple #[])∧Rd lo W b kids (us.drop 1) w'):=fun us W' h hl=>(skip_any h.self 1 hl).mono fun e w' q=>⟨q.1,h.from q.2⟩
 have H0:=hid_mk h
 generalize ahd vs 0 13=was at *
 clear h
 go_enter Tryz.func23,Tryz.ntmps23
 go_wp2_with (go_at_call 25;fail)
 refine ha.mono ?_
 rintro e w1 ⟨rfl,rfl⟩
 clear ha
 go_wp2
 go_loopw [] (fun wq=>∃ us:List V,Hid (spc us=spc vs)∧Hid (Rd lo w1 b kids us wq)) (fun wq=>restLen wq b)
 case atStart=>exact ⟨vs,rfl,H0⟩
 case round =>
  obtain ⟨us,HE,HR⟩:=hrel
  clear H0
  have ha:=HA.out us wr HR.out
  have hlen:=HR.out.len
  by_cases hs:ahd us 0 13=true
  ·have hg:=spc_go hs
   have hk:=HS.out us wr HR.out hg.2
   have HE2:Hid (spc (us.drop 1)=spc vs):=by rw [Hid,← hg.1];exact HE.out
   rw [hs] at ha
   have HL:=hid_mk hlen
   have HG:=hid_mk hg.2
   clear HA HS hs hg HE hlen
   go_wp2_with (go_at_call 25;fail)
   refine ha.mono ?_
   rintro e w2 ⟨rfl,rfl⟩
   clear ha
   go_wp2_with (go_at_call 26;fail)
   refine hk.mono ?_
   rintro e w3 ⟨rfl,hR3⟩
   have HR3:=hid_mk hR3
   clear hk hR3
   go_wp2
   exact ⟨⟨us.drop 1,HE2,HR3⟩,by rw [HR3.out.len,HL.out,List.length_drop];have:=HG.out;omega⟩
  ·have hs2:ahd us 0 13=false:=by simpa using hs
   have HE2:Hid (us=spc vs):=by rw [Hid,← HE.out,spc_end hs2]
   rw [hs2] at ha
   clear HA HS hs hs2 HE hlen
   go_wp2_with (go_at_call 25;fail)
   refine ha.mono ?_
   rintro e w2 ⟨rfl,rfl⟩
   clear ha
   go_wp2
   go_ret
   exact ⟨rfl,by rw [← HE2.out];exact HR.out⟩
def sgn:List (Int×Int×ByteArray):=[(0,2,⟨#[62]⟩),(0,3,⟨#[43]⟩),(0,4,⟨#[126]⟩),(1,2,⟨#[126]⟩),(1,3,⟨#[124]⟩),(1,4,⟨#[94]⟩),(1,5,⟨#[36]⟩),(1,6,⟨#[42]⟩),(2,5,⟨#[110,111,116]⟩),(2,6,⟨#[105,115]⟩),(2,7,⟨#[119,104,101,114,101]⟩),(2,8,⟨#[110,116,104,45,99,104,105,108,100]⟩),(2,9,⟨#[110,116,104,45,108,97,115,116,45,99,104,105,108,100]⟩),(2,10,⟨#[114,111,111,116]⟩),(2,11,⟨#[101,109,112,116,121]⟩)]
def sgnC:List Value:=[.int .i64 0,.int .i64 2,.string ⟨#[62]⟩,.int .i64 0,.int .i64 3,.string ⟨#[43]⟩,.int .i64 0,.int .i64 4,.string ⟨#[126]⟩,.int .i64 1,.int .i64 2,.string ⟨#[126]⟩,.int .i64 1,.int .i64 3,.string ⟨#[124]⟩,.int .i64 1,.int .i64 4,.string ⟨#[94]⟩,.int .i64 1,.int .i64 5,.string ⟨#[36]⟩,.int .i64 1,.int .i64 6,.string ⟨#[42]⟩,.int .i64 2,.int .i64 5,.string ⟨#[110,111,116]⟩,.int .i64 2,.int .i64 6,.string ⟨#[105,115]⟩,.int .i64 2,.int .i64 7,.string ⟨#[119,104,101,114,101]⟩,.int .i64 2,.int .i64 8,.string ⟨#[110,116,104,45,99,104,105,108,100]⟩,.int .i64 2,.int .i64 9,.string ⟨#[110,116,104,45,108,97,115,116,45,99,104,105,108,100]⟩,.int .i64 2,.int .i64 10,.string ⟨#[114,111,111,116]⟩,.int .i64 2,.int .i64 11,.string ⟨#[101,109,112,116,121]⟩]
def sgB:Nat:=0
def Signs (W:World):Prop:=W.rangeAt sgB 0 sgnC
theorem sgn_at:∀ t,t<15→∃ o n x,sgn[t]? = some (o,n,x)∧∀ w,(Instr.index 140 (.agg sgnC.toArray) (.int .i64 (t:Nat))).run Tryz.prog w=.ok (.agg #[.int .i64 o,.int .i64 n,.string x]) w
 | 0,_=>⟨0,2,⟨#[62]⟩,rfl,fun w=>by kernel_rfl⟩
 | 1,_=>⟨0,3,⟨#[43]⟩,rfl,fun w=>by kernel_rfl⟩
 | 2,_=>⟨0,4,⟨#[126]⟩,rfl,fun w=>by kernel_rfl⟩
 | 3,_=>⟨1,2,⟨#[126]⟩,rfl,fun w=>by kernel_rfl⟩
 | 4,_=>⟨1,3,⟨#[124]⟩,rfl,fun w=>by kernel_rfl⟩
 | 5,_=>⟨1,4,⟨#[94]⟩,rfl,fun w=>by kernel_rfl⟩
 | 6,_=>⟨1,5,⟨#[36]⟩,rfl,fun w=>by kernel_rfl⟩
 | 7,_=>⟨1,6,⟨#[42]⟩,rfl,fun w=>by kernel_rfl⟩
 | 8,_=>⟨2,5,⟨#[110,111,116]⟩,rfl,fun w=>by kernel_rfl⟩
 | 9,_=>⟨2,6,⟨#[105,115]⟩,rfl,fun w=>by kernel_rfl⟩
 | 10,_=>⟨2,7,⟨#[119,104,101,114,101]⟩,rfl,fun w=>by kernel_rfl⟩
 | 11,_=>⟨2,8,⟨#[110,116,104,45,99,104,105,108,100]⟩,rfl,fun w=>by kernel_rfl⟩
 | 12,_=>⟨2,9,⟨#[110,116,104,45,108,97,115,116,45,99,104,105,108,100]⟩,rfl,fun w=>by kernel_rfl⟩
 | 13,_=>⟨2,10,⟨#[114,111,111,116]⟩,rfl,fun w=>by kernel_rfl⟩
 | 14,_=>⟨2,11,⟨#[101,109,112,116,121]⟩,rfl,fun w=>by kernel_rfl⟩
 | t+15,h=>absurd h (by omega)
def numL (of:Int) (s:ByteArray):List (Int×Int×ByteArray)→Int
 | []=>0
 | (o,n,x)::r=>if (o == of && (x.toList == s.toList))=true then n else numL of s r
def numZ (of:Int) (s:ByteArray):Int:=numL of s sgn
theorem info188:(Tryz.prog.info? 140).map (·.size)=some sgnC.length:=by kernel_rfl
theorem drop_at {α:Type} {l:List α} {t:Nat} {x:α} (h:l[t]? = some x):l.drop t=x::l.drop (t+1):=by
 obtain ⟨hl,rfl⟩:=List.getElem?_eq_some_iff.1 h
 exact List.drop_eq_getElem_cons hl
theorem number_any {W:World} (hs:Signs W) (of:Int) (s:ByteArray) :
  Calls Tryz.prog 83 #[.int .i64 of,.string s] W fun e w'=>e=.returned (.int .i64 (numZ of s))∧Below W.heap.size W w':=by
 have HX:Hid (∀ t,t<15→∃ o n x,sgn[t]? = some (o,n,x)∧∀ w,(Instr.index 140 (.agg sgnC.toArray) (.int .i64 (t:Nat))).run Tryz.prog w=.ok (.agg #[.int .i64 o,.int .i64 n,.string x]) w):=sgn_at
 have HI:Hid ((Tryz.prog.info? 140).map (·.size)=some sgnC.length):=info188
 have HR:Hid (W.rangeAt 0 0 sgnC):=hs
 have HL:Hid (sgn.length=15):=rfl
 have H0:Hid (numL of s (sgn.drop 0)=numZ of s):=rfl
 generalize numZ of s=R at *
 generalize sgnC=C at *
 generalize sgn=T at *
 clear hs
 go_enter Tryz.func83,Tryz.ntmps83
 go_wp2_with (refine wpList_load_mid rfl 140 (.global 0) rfl 0 0 rfl C _ HR.out Tryz.underlying140 rfl HI.out ?_)
 go_loopw [8] (fun a8 wq=>∃ t:Nat,t≤15∧a8=.int .i64 (t:Int)∧Hid (numL of s (T.drop t)=R)∧Hid (Below W.heap.size W wq)) (fun a8 _=>16 - (intOf a8).toNat)
 case atStart=>exact ⟨0,by decide,rfl,H0,Below.refl _ _⟩
 case round =>
  obtain ⟨t,ht,rfl,HE,HB⟩:=hrel
  clear H0
  by_cases htl:t<15
  ·obtain ⟨o,n,x,h1,h2⟩:=HX.out t htl
   have hd1:decide ((t:Int)<15)=true:=decide_eq_true (by omega)
   have HD:Hid (R=if (o == of && (x.toList == s.toList))=true then n else numL of s (T.drop (t+1))):=by
    rw [Hid,← HE.out,drop_at h1]
    rfl
   have HBA:Hid (Below W.heap.size W (wr.alloc (.cells #[.int .i64 o,.int .i64 n,.string x] 139))):=HB.out.alloc HB.out.size _
   clear HX h1 HE HR HI
   by_cases ho:(o == of)=true
   ·by_cases hx:(x.toList == s.toList)=true
    ·have HZ:Hid (R=n):=by rw [Hid,HD.out,if_pos (by rw [ho,hx];rfl)]
     clear HD
     go_wp2
     go_ret
     exact ⟨by rw [HZ.out];rfl,HBA.out⟩
    ·have hx2:(x.toList == s.toList)=false:=by simpa using hx
     have HZ:Hid (numL of s (T.drop (t+1))=R):=by rw [Hid,HD.out,if_neg (by rw [hx2];simp)]
     clear HD hx
     go_wp2
     exact ⟨⟨t+1,by omega,by go_num,HZ,HBA⟩,by simp only [intOf];omega⟩
   ·have ho2:(o == of)=false:=by simpa using ho
    have HZ:Hid (numL of s (T.drop (t+1))=R):=by rw [Hid,HD.out,if_neg (by rw [ho2];simp)]
    clear HD ho
    go_wp2
    exact ⟨⟨t+1,by omega,by go_num,HZ,HBA⟩,by simp only [intOf];omega⟩
  ·have hte:t=15:=by omega
   subst hte
   have HZ:Hid (R=0):=by rw [Hid,← HE.out,List.drop_eq_nil_of_le (by rw [HL.out];decide)];rfl
   clear HX HE HR HI
   go_wp2
   go_ret
   exact ⟨by rw [HZ.out];rfl,HB.out⟩
theorem info51:∃ i z,Tryz.prog.info? 46=some i∧i.zero=some z∧i.size=7∧i.bytes=88∧z.cells.size=7:=⟨_,_,by rfl,by rfl,by rfl,by rfl,by rfl⟩
theorem told_any {W:World} {lo b:Nat} {kids:Value} {vs:List V} (h:Rd lo W b kids vs W) (n:Nat) (hn:n≤vs.length) {g m c:Nat} {cs:List Value} (hg:g≠b) (hgl:g<W.heap.size) (hm:m≤10) (hl:cs.length=m * 7)
  (hc:∀ j u,cs[j]? = some u→W.cell? ⟨g,j,none⟩=some u) (h1:∀ u∈cs,u.oneCell'=true) :
  Calls Tryz.prog 104 #[.pointer (some ⟨b,0,none⟩),.int .i64 (n:Int),.slice (some ⟨g,0,none⟩) m c] W fun e w'=>∃ v,e=.returned v∧w'.ownsRow W.heap.size 46 7 v m cs∧Rd lo W b kids (vs.drop n) w':=by
 obtain ⟨i0,z0,hi,hz0,hz1,hz2,hz3⟩:=info51
 have hsk:=skip_any h n hn
 have HC:=hid_mk hc
 have HL:=hid_mk hl
 have H1:=hid_mk h1
 clear h hn hc hl h1
 go_enter Tryz.func104,Tryz.ntmps104
 go_wp2_with (go_at_call 26;fail)
 refine hsk.mono ?_
 rintro e w1 ⟨rfl,hR⟩
 have HR:=hid_mk hR
 have hsz:W.heap.size≤w1.heap.size:=hR.keep.size
 have hown:w1.ownsRow W.heap.size 46 7 (.slice none 0 0) 0 []:=⟨rfl,.inl ⟨rfl,rfl⟩⟩
 have hcc:∀ j u,cs[j]? = some u→w1.cell? (Addr.add ⟨g,0,none⟩ j)=some u:=fun j u hu=>by
  rw [Addr.add_mid,Nat.zero_add]
  exact (cell_of_heap (hR.keep.block g hgl hg)).trans (HC.out j u hu)
 clear hsk hR
 go_wp2_with (at_builtin;with_reducible refine wpList_append_own _ rfl _ _ 47 rfl W.heap.size 46 i0 z0 7 88 Tryz.underlying47 hi hz0 hz1 hz2 hz3 (by decide) (.slice none 0 0) 0 [] rfl hown ⟨g,0,none⟩ m c cs rfl HL.out hcc H1.out ?c1 ?c2 ?c3 ?_)
 case c1=>unfold maxLen;omega
 case c2=>omega
 case c3=>exact hsz
 intro v' w2 ho2 hgr _
 have hB:Below w1.heap.size w1 w2:=⟨hgr.os,hgr.tape,hgr.output,hgr.size,fun k hk=>hgr.block k hk (by intro e;cases e)⟩
 have HO:=hid_mk ho2
 have HR2:=hid_mk (HR.out.then hB)
 clear ho2 hgr hown hcc hi hz0 hz1 hz2 hz3 hB
 go_wp2
 go_ret
 exact ⟨_,rfl,HO.out,HR2.out⟩
structure S6 where
 k:Int
 nm:ByteArray
 op:Int
 v:ByteArray
 a:Int
 b:Int
inductive Cx where
 | mk (parts:List (List (S6×List Cx))) (combs:List Int)
def Cx.parts:Cx→List (List (S6×List Cx)) | .mk p _=>p
def Cx.combs:Cx→List Int | .mk _ c=>c
def s7 (s:S6) (l:Value):List Value:=[.int .i64 s.k,.string s.nm,.int .i64 s.op,.string s.v,.int .i64 s.a,.int .i64 s.b,l]
def Sl (W:World) (v:Value) (n b off:Nat):Prop:=∃ a cap,v=.slice a n cap∧n≤cap∧cap≤9223372036854775807∧(0<n→a=some ⟨b,off,none⟩∧b<W.heap.size)
theorem Sl.keep {W W':World} {v:Value} {n b off:Nat} (h:Sl W v n b off) (hb:Below W.heap.size W W'):Sl W' v n b off:=by
 obtain ⟨a,cap,h1,h2,h3,h4⟩:=h
 exact ⟨a,cap,h1,h2,h3,fun h0=>⟨(h4 h0).1,Nat.lt_of_lt_of_le (h4 h0).2 hb.size⟩⟩
theorem Sl.cell {W W':World} {v:Value} {n b off:Nat} (h:Sl W v n b off) (hb:Below W.heap.size W W') (hn:0<n) (o:Nat):W'.cell? ⟨b,o,none⟩=W.cell? ⟨b,o,none⟩:=by
 obtain ⟨a,cap,h1,h2,h3,h4⟩:=h
 exact hb.cell (p:=⟨b,o,none⟩) (h4 hn).2
structure CxAt (R:Value→List Cx→Prop) (W:World) (pv cv:Value) (c:Cx) (bc oc bp op:Nat) (qv:Nat→Value) (bq oq:Nat→Nat) (lv:Nat→Nat→Value):Prop where
 cs:Sl W cv c.combs.length bc oc
 cc:∀ t (h:t<c.combs.length),W.cell? ⟨bc,oc+t,none⟩=some (.int .i64 (c.combs[t]'h))
 ps:Sl W pv c.parts.length bp op
 pc:∀ j,j<c.parts.length→W.cell? ⟨bp,op+j,none⟩=some (qv j)
 qs:∀ j (h:j<c.parts.length),Sl W (qv j) (c.parts[j]'h).length (bq j) (oq j)
 qc:∀ j (h:j<c.parts.length) t (h':t<(c.parts[j]'h).length),∀ y u,(s7 ((c.parts[j]'h)[t]'h').1 (lv j t))[y]? = some u→W.cell? ⟨bq j,oq j+t * 7+y,none⟩=some u
 ls:∀ j (h:j<c.parts.length) t (h':t<(c.parts[j]'h).length),R (lv j t) ((c.parts[j]'h)[t]'h').2
inductive ClAt (W:World):Value→List Cx→Prop
 | mk (v:Value) (l:List Cx) (b off:Nat) (pv cv:Nat→Value) (bc oc bp op:Nat→Nat) (qv:Nat→Nat→Value) (bq oq:Nat→Nat→Nat) (lv:Nat→Nat→Nat→Value)
    (hs:Sl W v l.length b off)
    (hc:∀ i,i<l.length→W.cell? ⟨b,off+i * 2,none⟩=some (pv i)∧W.cell? ⟨b,off+i * 2+1,none⟩=some (cv i))
    (h1:∀ i (h:i<l.length),Sl W (cv i) (l[i]'h).combs.length (bc i) (oc i))
    (h2:∀ i (h:i<l.length) t (h':t<(l[i]'h).combs.length),W.cell? ⟨bc i,oc i+t,none⟩=some (.int .i64 ((l[i]'h).combs[t]'h')))
    (h3:∀ i (h:i<l.length),Sl W (pv i) (l[i]'h).parts.length (bp i) (op i))
    (h4:∀ i (h:i<l.length) j,j<(l[i]'h).parts.length→W.cell? ⟨bp i,op i+j,none⟩=some (qv i j))
    (h5:∀ i (h:i<l.length) j (h':j<(l[i]'h).parts.length),Sl W (qv i j) ((l[i]'h).parts[j]'h').length (bq i j) (oq i j))
    (h6:∀ i (h:i<l.length) j (h':j<(l[i]'h).parts.length) t (h'':t<((l[i]'h).parts[j]'h').length),∀ y u,(s7 (((l[i]'h).parts[j]'h')[t]'h'').1 (lv i j t))[y]? = some u→W.cell? ⟨bq i j,oq i j+t * 7+y,none⟩=some u)
    (hr:∀ i (h:i<l.length) j (h':j<(l[i]'h).parts.length) t (h'':t<((l[i]'h).parts[j]'h').length),ClAt W (lv i j t) (((l[i]'h).parts[j]'h')[t]'h'').2):ClAt W v l
theorem ClAt.keep {W W':World} (hb:Below W.heap.size W W') {v:Value} {l:List Cx} (h:ClAt W v l):ClAt W' v l:=by
 induction h with
 | mk v l b off pv cv bc oc bp op qv bq oq lv hs hc h1 h2 h3 h4 h5 h6 hr ih =>
   refine .mk v l b off pv cv bc oc bp op qv bq oq lv (hs.keep hb) (fun i h=>?_) (fun i h=>(h1 i h).keep hb) (fun i h t h'=>?_) (fun i h=>(h3 i h).keep hb) (fun i h j h'=>?_) (fun i h j h'=>(h5 i h j h').keep hb) (fun i h j h' t h'' y u hu=>?_) ih
   ·rw [hs.cell hb (by omega),hs.cell hb (by omega)]
    exact hc i h
   ·rw [(h1 i h).cell hb (by omega)]
    exact h2 i h t h'
   ·rw [(h3 i h).cell hb (by omega)]
    exact h4 i h j h'
   ·rw [(h5 i h j h').cell hb (by omega)]
    exact h6 i h j h' t h'' y u hu
theorem ClAt.at {W:World} {v:Value} {l:List Cx} (h:ClAt W v l):∃ b off,Sl W v l.length b off∧∀ i (hi:i<l.length),∃ pv cv bc oc bp op qv bq oq lv,W.cell? ⟨b,off+i * 2,none⟩=some pv∧W.cell? ⟨b,off+i * 2+1,none⟩=some cv∧CxAt (ClAt W) W pv cv (l[i]'hi) bc oc bp op qv bq oq lv:=by
 cases h with
 | mk v l b off pv cv bc oc bp op qv bq oq lv hs hc h1 h2 h3 h4 h5 h6 hr =>
   exact ⟨b,off,hs,fun i hi=>⟨pv i,cv i,bc i,oc i,bp i,op i,qv i,bq i,oq i,lv i,(hc i hi).1,(hc i hi).2,h1 i hi,h2 i hi,h3 i hi,h4 i hi,h5 i hi,h6 i hi,hr i hi⟩⟩
theorem CxAt.keep {W W':World} (hb:Below W.heap.size W W') {pv cv:Value} {c:Cx} {bc oc bp op:Nat} {qv:Nat→Value} {bq oq:Nat→Nat} {lv:Nat→Nat→Value} (h:CxAt (ClAt W) W pv cv c bc oc bp op qv bq oq lv):CxAt (ClAt W') W' pv cv c bc oc bp op qv bq oq lv:=by
 refine ⟨h.cs.keep hb,fun t ht=>?_,h.ps.keep hb,fun j hj=>?_,fun j hj=>(h.qs j hj).keep hb,fun j hj t ht y u hu=>?_,fun j hj t ht=>(h.ls j hj t ht).keep hb⟩
 ·rw [h.cs.cell hb (by omega)];exact h.cc t ht
 ·rw [h.ps.cell hb (by omega)];exact h.pc j hj
 ·rw [(h.qs j hj).cell hb (by omega)];exact h.qc j hj t ht y u hu
def wtS (f:List Cx→Nat) (x:S6×List Cx):Nat:=1+(x.1.nm.size+x.1.v.size) / 20+f x.2
def wtP (f:List Cx→Nat) (p:List (S6×List Cx)):Nat:=1+(p.map (wtS f)).sum
def wtC (f:List Cx→Nat) (c:Cx):Nat:=1+c.combs.length+(c.parts.map (wtP f)).sum
def wt:Nat→List Cx→Nat
 | 0,_=>0
 | d+1,l=>(l.map (wtC (wt d))).sum
theorem sum_take {α:Type} (f:α→Nat) {l:List α} {i:Nat} (h:i<l.length):((l.take (i+1)).map f).sum=((l.take i).map f).sum+f l[i]:=by
 rw [List.take_add_one,List.getElem?_eq_getElem h,Option.toList_some,List.map_append,List.sum_append]
 simp
theorem sum_take_le {α:Type} (f:α→Nat) (l:List α) (i:Nat):((l.take i).map f).sum≤(l.map f).sum:=by
 have h:=congrArg (fun x=>(x.map f).sum) (List.take_append_drop i l)
 simp only [List.map_append,List.sum_append] at h
 omega
def sC (s:S6):List Value:=s7 s (.slice none 0 0)
def ssC (l:List S6):List Value:=l.flatMap sC
theorem sC_len (s:S6):(sC s).length=7:=rfl
theorem sC_one (s:S6):∀ u∈sC s,u.oneCell'=true:=by
 intro u hu
 simp only [sC,s7,List.mem_cons,List.not_mem_nil,or_false] at hu
 rcases hu with rfl | rfl | rfl | rfl | rfl | rfl | rfl <;> rfl
def Way (lo:Nat) (W:World) (b:Nat) (kids:Value) (vs:List V) (r:Option (List S6×Nat)) (e:Ending) (w':World):Prop:=match r with
 | none=>e=.returned (.slice none 0 0)∧Below W.heap.size W w'
 | some (l,n)=>∃ v,e=.returned v∧w'.ownsRow W.heap.size 46 7 v l.length (ssC l)∧Rd lo W b kids (vs.drop n) w'
def idR (vs:List V):Option (List S6×Nat):=match vs with
 | v::_=>if (v.tok.k == 4 && v.tok.fl)=true then some ([⟨3,v.tok.tx,0,⟨#[]⟩,0,0⟩],1) else none
 | []=>none
theorem ahd_cons (v:V) (r:List V) (k:Int):ahd (v::r) 0 k=(v.tok.k == k):=rfl
theorem id_any {W:World} {lo b:Nat} {kids:Value} {vs:List V} (h:Rd lo W b kids vs W) :
  Calls Tryz.prog 105 #[.pointer (some ⟨b,0,none⟩)] W (Way lo W b kids vs (idR vs)):=by
 have ha:=ahead_any h 0 4
 cases vs with
 | nil =>
   rw [show ahd [] 0 4=false from rfl] at ha
   clear h
   go_enter Tryz.func105,Tryz.ntmps105
   go_wp2_with (go_at_call 25;fail)
   refine ha.mono ?_
   rintro e w1 ⟨rfl,rfl⟩
   clear ha
   go_wp2
   go_ret
   exact ⟨rfl,Below.refl _ _⟩
 | cons v r =>
   rw [ahd_cons] at ha
   obtain ⟨a,n,cap,hn,hc1,hc2,h1,_,hs⟩:=h.see
   have c0:W.cell? ⟨b,0,none⟩=some (.slice a n cap):=cellAt h1 0
   obtain ⟨hl,g,off,kv,rfl,q0,q1,q4,q5,hkv⟩:=hs 0 v rfl
   rw [Nat.zero_mul,Nat.add_zero] at q0 q1 q4 q5
   have hbl:b<W.heap.size:=h.lt
   by_cases hk:(v.tok.k == 4 && v.tok.fl)=true
   ·have hk1:(v.tok.k == 4)=true:=by rw [Bool.and_eq_true] at hk;exact hk.1
    have hk2:v.tok.fl=true:=by rw [Bool.and_eq_true] at hk;exact hk.2
    have HE:Hid (idR (v::r)=some ([⟨3,v.tok.tx,0,⟨#[]⟩,0,0⟩],1)):=by rw [Hid,idR,if_pos hk]
    rw [HE.out]
    rw [hk1] at ha
    rw [hk2] at q4
    obtain ⟨W1,hW1⟩:∃ W1,W1=W.alloc (.cells (sC ⟨3,v.tok.tx,0,⟨#[]⟩,0,0⟩).toArray 46):=⟨_,rfl⟩
    have hB1:Below W.heap.size W W1:=by rw [hW1];exact (Below.refl _ _).alloc (Nat.le_refl _) _
    have hx1:W1.heap[W.heap.size]? = some (.cells (sC ⟨3,v.tok.tx,0,⟨#[]⟩,0,0⟩).toArray 46 (0,0)):=by rw [hW1];exact heap_alloc_last W _
    have htl:=told_any (h.then hB1).self 1 (by simp) (g:=W.heap.size) (m:=1) (c:=1) (cs:=sC ⟨3,v.tok.tx,0,⟨#[]⟩,0,0⟩) (by omega) (by rw [hW1];simp) (by decide) rfl (fun j u hu=>by rw [cellAt hx1 j];simpa using hu) (sC_one _)
    have HF:Hid (∀ v' w',w'.ownsRow W1.heap.size 46 7 v' 1 (sC ⟨3,v.tok.tx,0,⟨#[]⟩,0,0⟩)→Rd lo W1 b kids ((v::r).drop 1) w'→Way lo W b kids (v::r) (some ([⟨3,v.tok.tx,0,⟨#[]⟩,0,0⟩],1)) (.returned v') w'):=fun v' w' ho hr =>
     ⟨v',rfl,⟨ho.1,ho.2.imp id fun ⟨g,cap,cur,x1,x2,x3⟩=>⟨g,cap,cur,x1,Nat.le_trans hB1.size x2,x3⟩⟩,(h.then hB1).from hr⟩
    have HW1:=hid_mk hW1
    clear h h1 hs hn HE hk hk1 hk2 hB1 hx1 hW1 q0 q5 hkv
    unfold sC s7 at htl HW1 HF
    dsimp only at htl HW1 HF
    go_enter Tryz.func105,Tryz.ntmps105
    go_wp2_with (go_at_call 25;fail)
    refine ha.mono ?_
    rintro e w1 ⟨rfl,rfl⟩
    clear ha
    go_wp2_with (go_at_call 104;fail)
    rw [← HW1.out]
    refine htl.mono ?_
    rintro e w2 ⟨v',rfl,ho,hr⟩
    have HZ:=hid_mk (HF.out v' w2 ho hr)
    clear htl ho hr HF HW1
    go_wp2
    go_ret
    exact HZ.out
   ·have HE:Hid (idR (v::r)=none):=by rw [Hid,idR,if_neg hk]
    rw [HE.out]
    by_cases hk1:(v.tok.k == 4)=true
    ·have hk2:v.tok.fl=false:=by
      rw [hk1,Bool.true_and] at hk
      simpa using hk
     rw [hk1] at ha
     rw [hk2] at q4
     clear h h1 hs hn HE hk hk1 hk2 q0 q5 hkv
     go_enter Tryz.func105,Tryz.ntmps105
     go_wp2_with (go_at_call 25;fail)
     refine ha.mono ?_
     rintro e w1 ⟨rfl,rfl⟩
     clear ha
     go_wp2
     go_ret
     exact ⟨rfl,Below.refl _ _⟩
    ·have hk2:(v.tok.k == 4)=false:=by simpa using hk1
     rw [hk2] at ha
     clear h h1 hs hn HE hk hk1 hk2 q0 q5 hkv
     go_enter Tryz.func105,Tryz.ntmps105
     go_wp2_with (go_at_call 25;fail)
     refine ha.mono ?_
     rintro e w1 ⟨rfl,rfl⟩
     clear ha
     go_wp2
     go_ret
     exact ⟨rfl,Below.refl _ _⟩
def dotB:ByteArray:=⟨#[46]⟩
def classR (vs:List V):Option (List S6×Nat):=match vs with
 | _::u::_=>if (dlm vs 0 dotB && (u.tok.k == 1))=true then some ([⟨2,u.tok.tx,0,⟨#[]⟩,0,0⟩],2) else none
 | _=>none
theorem classR_none {vs:List V} (h:(dlm vs 0 dotB && ahd vs 1 1)=false):classR vs=none:=by
 match vs with
 | []=>rfl
 | [_]=>rfl
 | v::u::r =>
   have h':(dlm (v::u::r) 0 dotB && (u.tok.k == 1))=false:=h
   show (if (dlm (v::u::r) 0 dotB && (u.tok.k == 1))=true then _ else _)=_
   rw [if_neg (by rw [h'];decide)]
theorem classR_some {vs:List V} (h:(dlm vs 0 dotB && ahd vs 1 1)=true):∃ u,vs[1]? = some u∧2≤vs.length∧classR vs=some ([⟨2,u.tok.tx,0,⟨#[]⟩,0,0⟩],2):=by
 match vs with
 | []=>cases h
 | [v]=>rw [Bool.and_eq_true] at h;cases h.2
 | v::u::r =>
   have h':(dlm (v::u::r) 0 dotB && (u.tok.k == 1))=true:=h
   refine ⟨u,rfl,by simp,?_⟩
   show (if (dlm (v::u::r) 0 dotB && (u.tok.k == 1))=true then _ else _)=_
   rw [if_pos h']
theorem class_any {W:World} {lo b:Nat} {kids:Value} {vs:List V} (h:Rd lo W b kids vs W) :
  Calls Tryz.prog 106 #[.pointer (some ⟨b,0,none⟩)] W (Way lo W b kids vs (classR vs)):=by
 have hd:=delim_any h 0 dotB
 have ha:=ahead_any h 1 1
 unfold dotB at hd
 rw [show (⟨#[46]⟩:ByteArray)=dotB from rfl] at hd
 by_cases hk:(dlm vs 0 dotB && ahd vs 1 1)=true
 ·obtain ⟨u,hu,hlen,hE⟩:=classR_some hk
  have hk1:dlm vs 0 dotB=true:=by rw [Bool.and_eq_true] at hk;exact hk.1
  have hk2:ahd vs 1 1=true:=by rw [Bool.and_eq_true] at hk;exact hk.2
  obtain ⟨a,n,cap,hn,hc1,hc2,h1,_,hs⟩:=h.see
  have c0:W.cell? ⟨b,0,none⟩=some (.slice a n cap):=cellAt h1 0
  obtain ⟨hl,g,off,kv,rfl,q0,q1,q4,q5,hkv⟩:=hs 1 u hu
  rw [Nat.one_mul] at q0 q1 q4 q5
  have hbl:b<W.heap.size:=h.lt
  rw [hE]
  rw [hk1] at hd
  rw [hk2] at ha
  obtain ⟨W1,hW1⟩:∃ W1,W1=W.alloc (.cells (sC ⟨2,u.tok.tx,0,⟨#[]⟩,0,0⟩).toArray 46):=⟨_,rfl⟩
  have hB1:Below W.heap.size W W1:=by rw [hW1];exact (Below.refl _ _).alloc (Nat.le_refl _) _
  have hx1:W1.heap[W.heap.size]? = some (.cells (sC ⟨2,u.tok.tx,0,⟨#[]⟩,0,0⟩).toArray 46 (0,0)):=by rw [hW1];exact heap_alloc_last W _
  have htl:=told_any (h.then hB1).self 2 hlen (g:=W.heap.size) (m:=1) (c:=1) (cs:=sC ⟨2,u.tok.tx,0,⟨#[]⟩,0,0⟩) (by omega) (by rw [hW1];simp) (by decide) rfl (fun j u hu=>by rw [cellAt hx1 j];simpa using hu) (sC_one _)
  have HF:Hid (∀ v' w',w'.ownsRow W1.heap.size 46 7 v' 1 (sC ⟨2,u.tok.tx,0,⟨#[]⟩,0,0⟩)→Rd lo W1 b kids (vs.drop 2) w'→Way lo W b kids vs (some ([⟨2,u.tok.tx,0,⟨#[]⟩,0,0⟩],2)) (.returned v') w'):=fun v' w' ho hr =>
   ⟨v',rfl,⟨ho.1,ho.2.imp id fun ⟨g,cap,cur,x1,x2,x3⟩=>⟨g,cap,cur,x1,Nat.le_trans hB1.size x2,x3⟩⟩,(h.then hB1).from hr⟩
  have HW1:=hid_mk hW1
  clear h h1 hs hn hE hk hk1 hk2 hB1 hx1 hW1 q0 q4 q5 hkv hu
  unfold sC s7 at htl HW1 HF
  unfold dotB at hd
  dsimp only at htl HW1 HF
  go_enter Tryz.func106,Tryz.ntmps106
  go_wp2_with (go_at_call 103;fail)
  refine hd.mono ?_
  rintro e w1 ⟨rfl,rfl⟩
  clear hd
  go_wp2_with (go_at_call 25;fail)
  refine ha.mono ?_
  rintro e w1 ⟨rfl,rfl⟩
  clear ha
  go_wp2_with (go_at_call 104;fail)
  rw [← HW1.out]
  refine htl.mono ?_
  rintro e w2 ⟨v',rfl,ho,hr⟩
  have HZ:=hid_mk (HF.out v' w2 ho hr)
  clear htl ho hr HF HW1
  go_wp2
  go_ret
  exact HZ.out
 ·have hk0:(dlm vs 0 dotB && ahd vs 1 1)=false:=by simpa using hk
  rw [classR_none hk0]
  by_cases hk1:dlm vs 0 dotB=true
  ·have hk2:ahd vs 1 1=false:=by rw [hk1,Bool.true_and] at hk0;exact hk0
   rw [hk1] at hd
   rw [hk2] at ha
   unfold dotB at hd
   clear h hk hk0 hk1 hk2
   go_enter Tryz.func106,Tryz.ntmps106
   go_wp2_with (go_at_call 103;fail)
   refine hd.mono ?_
   rintro e w1 ⟨rfl,rfl⟩
   clear hd
   go_wp2_with (go_at_call 25;fail)
   refine ha.mono ?_
   rintro e w1 ⟨rfl,rfl⟩
   clear ha
   go_wp2
   go_ret
   exact ⟨rfl,Below.refl _ _⟩
  ·have hk2:dlm vs 0 dotB=false:=by simpa using hk1
   rw [hk2] at hd
   unfold dotB at hd
   clear h hk hk0 hk1 hk2 ha
   go_enter Tryz.func106,Tryz.ntmps106
   go_wp2_with (go_at_call 103;fail)
   refine hd.mono ?_
   rintro e w1 ⟨rfl,rfl⟩
   clear hd
   go_wp2
   go_ret
   exact ⟨rfl,Below.refl _ _⟩
end Go.Proofs.YtdneaeokljoijaaGreatDoor.L
