/- What text.Fold, gouacheref01.Fold and gouacheref01.Name answer. -/
import Derived.Lib.RuneBytes
import Derived.KernelRfl
import Derived.Test.YtemlnblifkdenaaGreatDoorYSame
import Derived.Laws.AppendOwnNone
import Derived.Lib.DecodeN
import Derived.Laws.IdiomStrings
set_option maxRecDepth 100000
set_option maxHeartbeats 8000000
namespace Go.Proofs.YtemlnblifkdenaaGreatDoor.Y
open Go
def smallZ (c:Int):Bool:=decide (97≤c) && decide (c≤122)
def digitZ (c:Int):Bool:=decide (48≤c) && decide (c≤57)
def hexZ (c:Int):Int:=if 48≤c∧c≤57 then c - 48 else if 97≤c∧c≤102 then c - 87 else if 65≤c∧c≤70 then c - 55 else -1
def blankZ (c:Int):Bool:=c == 32 || c == 9 || c == 10
def startZ (c:Int):Bool:=decide ((97≤c∧c≤122)∨(65≤c∧c≤90)∨c=95∨128≤c)
def partZ (c:Int):Bool:=startZ c || digitZ c || c == 45
def hd (l:List Int) (i:Nat):Int:=l.getD i (-1)
def escB (l:List Int):Bool:=hd l 0 == 92 && hd l 1 != 10
def wordB (l:List Int):Bool:=startZ (hd l 0) || escB l
def nameB (l:List Int):Bool:=if hd l 0 == 45 then hd l 1 == 45 || wordB (l.drop 1) else wordB l
def signB (l:List Int):Bool:=hd l 0 == 43 || hd l 0 == 45
def dotB (l:List Int):Bool:=hd l 0 == 46 && digitZ (hd l 1)
def unsignZ (l:List Int):List Int:=if signB l then l.drop 1 else l
def numB (l:List Int):Bool:=digitZ (hd (unsignZ l) 0) || dotB (unsignZ l)
def standsB:List Int→List Int→Bool
 | [],_=>true
 | s::r,l=>hd l 0 == s && standsB r (l.drop 1)
def hexN:Nat→List Int→Int→Int×Nat
 | 0,_,n=>(n,0)
 | k+1,l,n=>if 0≤hexZ (hd l 0) then ((hexN k (l.drop 1) (n * 16+hexZ (hd l 0))).1,(hexN k (l.drop 1) (n * 16+hexZ (hd l 0))).2+1) else (n,0)
def numberedZ (n:Int):Int:=if n=0∨1114111<n∨(55296≤n∧n≤57343) then 65533 else n
def escT (t:List Int):Int×Nat :=
 if t=[] then (65533,0)
 else if hexZ (hd t 0)<0 then (hd t 0,1)
 else (numberedZ (hexN 6 t 0).1,if blankZ (hd t (hexN 6 t 0).2) then (hexN 6 t 0).2+1 else (hexN 6 t 0).2)
def nameT:List Int→Nat→List Int
 | [],_=>[]
 | _::t,k+1=>nameT t k
 | c::t,0=>if partZ c then c::nameT t 0 else if escB (c::t) then (escT t).1::nameT t (escT t).2 else []
def nameR:List Int→Nat→List Int
 | [],_=>[]
 | _::t,k+1=>nameR t k
 | c::t,0=>if partZ c then nameR t 0 else if escB (c::t) then nameR t (escT t).2 else c::t
theorem nameT_skip:∀ (l:List Int) (k:Nat),nameT l k=nameT (l.drop k) 0
 | [],k=>by simp [nameT]
 | _::_,0=>rfl
 | _::t,k+1=>by rw [nameT,nameT_skip t k];rfl
theorem nameR_skip:∀ (l:List Int) (k:Nat),nameR l k=nameR (l.drop k) 0
 | [],k=>by simp [nameR]
 | _::_,0=>rfl
 | _::t,k+1=>by rw [nameR,nameR_skip t k];rfl
def consO (x:Int) (r:Option (List Int)×List Int):Option (List Int)×List Int:=(r.1.map (x :: ·),r.2)
def quoZ (e:Int):List Int→Nat→Option (List Int)×List Int
 | [],_=>(some [],[])
 | _::t,k+1=>quoZ e t k
 | c::t,0 =>
   if c=e then (some [],t)
   else if c=10 then (none,c::t)
   else if c=92 then (if hd t 0=10 then quoZ e t 1 else if t=[] then quoZ e t 0 else consO (escT t).1 (quoZ e t (escT t).2))
   else consO c (quoZ e t 0)
theorem quoZ_skip (e:Int):∀ (l:List Int) (k:Nat),quoZ e l k=quoZ e (l.drop k) 0
 | [],k=>by simp [quoZ]
 | _::_,0=>rfl
 | _::t,k+1=>by rw [quoZ,quoZ_skip e t k];rfl
def ctrlZ (c:Int):Bool:=decide (1≤c∧c≤8) || c == 11 || decide (14≤c∧c≤31) || c == 127
def urlOn (l:List Int):Bool :=
 if l=[] then false else if blankZ (hd l 0) then false else if ctrlZ (hd l 0) then false else if hd l 0=92 then escB l
 else hd l 0 != 34 && hd l 0 != 39 && hd l 0 != 40 && hd l 0 != 41
def urlT:List Int→Nat→List Int
 | [],_=>[]
 | _::t,k+1=>urlT t k
 | c::t,0=>if urlOn (c::t) then (if escB (c::t) then (escT t).1::urlT t (escT t).2 else c::urlT t 0) else []
def urlR:List Int→Nat→List Int
 | [],_=>[]
 | _::t,k+1=>urlR t k
 | c::t,0=>if urlOn (c::t) then (if escB (c::t) then urlR t (escT t).2 else urlR t 0) else c::t
theorem urlT_skip:∀ (l:List Int) (k:Nat),urlT l k=urlT (l.drop k) 0
 | [],k=>by simp [urlT]
 | _::_,0=>rfl
 | _::t,k+1=>by rw [urlT,urlT_skip t k];rfl
theorem urlR_skip:∀ (l:List Int) (k:Nat),urlR l k=urlR (l.drop k) 0
 | [],k=>by simp [urlR]
 | _::_,0=>rfl
 | _::t,k+1=>by rw [urlR,urlR_skip t k];rfl
def badR:List Int→Nat→List Int
 | [],_=>[]
 | _::t,k+1=>badR t k
 | c::t,0=>if c=41 then t else if escB (c::t) then badR t (escT t).2 else badR t 0
theorem badR_skip:∀ (l:List Int) (k:Nat),badR l k=badR (l.drop k) 0
 | [],k=>by simp [badR]
 | _::_,0=>rfl
 | _::t,k+1=>by rw [badR,badR_skip t k];rfl
def comR:List Int→List Int
 | []=>[]
 | c::t=>if c=42∧hd t 0=47 then t.drop 1 else comR t
def blanksR:List Int→List Int
 | []=>[]
 | c::t=>if blankZ c then blanksR t else c::t
def digitsR:List Int→List Int
 | []=>[]
 | c::t=>if digitZ c then digitsR t else c::t
def expN (l:List Int):Nat :=
 if hd l 0=101∨hd l 0=69 then
  (if signB (l.drop 1) then (if digitZ (hd l 2) then 2 else 0) else (if digitZ (hd l 1) then 1 else 0))
 else 0
def mantR (l:List Int):List Int:=digitsR (unsignZ l)
def fracR (l:List Int):List Int:=if dotB l then digitsR (l.drop 1) else l
def expR (l:List Int):List Int:=if 0<expN l then digitsR (l.drop (expN l)) else l
def numR (l:List Int):List Int:=expR (fracR (mantR l))
def numW (l:List Int):Bool:=!dotB (mantR l) && !decide (0<expN (fracR (mantR l)))
def gone (l r:List Int):List Int:=l.take (l.length - r.length)
structure Tok where
 kind:Int
 text:List Int
 unit:List Int
 flag:Bool
 whole:Bool
def plainTok (k:Int) (t:List Int):Tok:=⟨k,t,[],false,false⟩
def mkTok (k:Int) (t u:List Int) (w f:Bool):Tok:=⟨k,t,u,f,w⟩
def foldI (c:Int):Int:=if 65≤c∧c≤90 then c+32 else c
def bytesZ (xs:List Int):List Int:=xs.flatMap Lib.encodeRuneZ
def urlNm (t:List Int):Bool:=(bytesZ t).map foldI == [117,114,108]
def qbB (l:List Int):Bool:=hd (blanksR l) 0 == 34 || hd (blanksR l) 0 == 39
def strZ (l:List Int):Tok×List Int:=match quoZ (hd l 0) (l.drop 1) 0 with
 | (some t,r)=>(plainTok 5 t,r)
 | (none,r)=>(plainTok 6 [],r)
def hashZ (l:List Int):Tok×List Int:=(mkTok 4 (nameT l 0) [] false (nameB l),nameR l 0)
def numZ (l:List Int):Tok×List Int :=
 if nameB (numR l) then (mkTok 12 (gone l (numR l)) (nameT (numR l) 0) (numW l) false,nameR (numR l) 0)
 else if hd (numR l) 0=37 then (mkTok 11 (gone l (numR l)) [] (numW l) false,(numR l).drop 1)
 else (mkTok 10 (gone l (numR l)) [] (numW l) false,numR l)
def urlEnd (t r:List Int):Tok×List Int :=
 if blanksR r=[] then (plainTok 7 t,[]) else if hd (blanksR r) 0=41 then (plainTok 7 t,(blanksR r).drop 1) else (plainTok 8 [],badR (blanksR r) 0)
def urlZ (l:List Int):Tok×List Int:=urlEnd (urlT (blanksR l) 0) (urlR (blanksR l) 0)
def wordZ (l:List Int):Tok×List Int :=
 if hd (nameR l 0) 0=40 then
  (if urlNm (nameT l 0) && !qbB ((nameR l 0).drop 1) then urlZ ((nameR l 0).drop 1) else (plainTok 2 (nameT l 0),(nameR l 0).drop 1))
 else (plainTok 1 (nameT l 0),nameR l 0)
def signZ (c:Int):Int :=
 if c=58 then 16 else if c=59 then 17 else if c=44 then 18 else if c=91 then 19 else if c=93 then 20 else if c=40 then 21 else if c=41 then 22 else if c=123 then 23 else if c=125 then 24 else 0
def singleZ (c:Int):Tok:=if 0<signZ c then plainTok (signZ c) [] else plainTok 9 [c]
def hashB (l:List Int):Bool:=hd l 0 == 35 && (partZ (hd l 1) || escB (l.drop 1))
def atB (l:List Int):Bool:=hd l 0 == 64 && nameB (l.drop 1)
def quoteB (l:List Int):Bool:=hd l 0 == 34 || hd l 0 == 39
def someT (r:Tok×List Int):Option Tok×List Int:=(some r.1,r.2)
def oneZ (l:List Int):Option Tok×List Int :=
 if standsB [47,42] l then (none,comR (l.drop 2))
 else if blankZ (hd l 0) then (some (plainTok 13 []),blanksR l)
 else if quoteB l then someT (strZ l)
 else if hashB l then someT (hashZ (l.drop 1))
 else if numB l then someT (numZ l)
 else if standsB [45,45,62] l then (some (plainTok 15 []),l.drop 3)
 else if standsB [60,33,45,45] l then (some (plainTok 14 []),l.drop 4)
 else if nameB l then someT (wordZ l)
 else if atB l then (some (plainTok 3 (nameT (l.drop 1) 0)),nameR (l.drop 1) 0)
 else (some (singleZ (hd l 0)),l.drop 1)
def toksF:List Int→Nat→List Tok
 | [],_=>[]
 | _::t,k+1=>toksF t k
 | c::t,0=>(oneZ (c::t)).1.toList++toksF t (t.length - (oneZ (c::t)).2.length)
def toks (l:List Int):List Tok:=toksF l 0
theorem toksF_skip:∀ (l:List Int) (k:Nat),toksF l k=toksF (l.drop k) 0
 | [],k=>by simp [toksF]
 | _::_,0=>rfl
 | _::t,k+1=>by rw [toksF,toksF_skip t k];rfl
theorem suf_drop (l:List Int) (k:Nat):l.drop k <:+ l:=List.drop_suffix k l
theorem suf_step {l m:List Int} {k:Nat} (h:m <:+ l.drop k):m <:+ l:=h.trans (suf_drop l k)
theorem suf_cons {c:Int} {t m:List Int} (h:m <:+ t):m <:+ c::t:=h.trans (List.suffix_cons c t)
theorem suf_len {m l:List Int} (h:m <:+ l):m=l.drop (l.length - m.length):=by
 obtain ⟨p,rfl⟩:=h
 simp
theorem nameR_suf:∀ (l:List Int) (k:Nat),nameR l k <:+ l
 | [],_=>List.suffix_refl _
 | _::t,k+1=>suf_cons (nameR_suf t k)
 | c::t,0=>by
   rw [nameR]
   split
   ·exact suf_cons (nameR_suf t 0)
   ·split
    ·exact suf_cons (nameR_suf t _)
    ·exact List.suffix_refl _
theorem urlR_suf:∀ (l:List Int) (k:Nat),urlR l k <:+ l
 | [],_=>List.suffix_refl _
 | _::t,k+1=>suf_cons (urlR_suf t k)
 | c::t,0=>by
   rw [urlR]
   split
   ·split
    ·exact suf_cons (urlR_suf t _)
    ·exact suf_cons (urlR_suf t 0)
   ·exact List.suffix_refl _
theorem badR_suf:∀ (l:List Int) (k:Nat),badR l k <:+ l
 | [],_=>List.suffix_refl _
 | _::t,k+1=>suf_cons (badR_suf t k)
 | c::t,0=>by
   rw [badR]
   split
   ·exact List.suffix_cons _ _
   ·split
    ·exact suf_cons (badR_suf t _)
    ·exact suf_cons (badR_suf t 0)
theorem consO_snd (x:Int) (r:Option (List Int)×List Int):(consO x r).2=r.2:=rfl
theorem quoZ_suf (e:Int):∀ (l:List Int) (k:Nat),(quoZ e l k).2 <:+ l
 | [],_=>List.suffix_refl _
 | _::t,k+1=>suf_cons (quoZ_suf e t k)
 | c::t,0=>by
   rw [quoZ]
   split
   ·exact List.suffix_cons _ _
   ·split
    ·exact List.suffix_refl _
    ·split
     ·split
      ·exact suf_cons (quoZ_suf e t _)
      ·split
       ·exact suf_cons (quoZ_suf e t _)
       ·rw [consO_snd];exact suf_cons (quoZ_suf e t _)
     ·rw [consO_snd];exact suf_cons (quoZ_suf e t _)
theorem comR_suf:∀ (l:List Int),comR l <:+ l
 | []=>List.suffix_refl _
 | c::t=>by
   rw [comR]
   split
   ·exact suf_cons (suf_drop t 1)
   ·exact suf_cons (comR_suf t)
theorem blanksR_suf:∀ (l:List Int),blanksR l <:+ l
 | []=>List.suffix_refl _
 | c::t=>by
   rw [blanksR]
   split
   ·exact suf_cons (blanksR_suf t)
   ·exact List.suffix_refl _
theorem digitsR_suf:∀ (l:List Int),digitsR l <:+ l
 | []=>List.suffix_refl _
 | c::t=>by
   rw [digitsR]
   split
   ·exact suf_cons (digitsR_suf t)
   ·exact List.suffix_refl _
theorem fracR_suf (l:List Int):fracR l <:+ l:=by
 unfold fracR
 split
 ·exact suf_step (digitsR_suf _)
 ·exact List.suffix_refl _
theorem expR_suf (l:List Int):expR l <:+ l:=by
 unfold expR
 split
 ·exact suf_step (digitsR_suf _)
 ·exact List.suffix_refl _
theorem nameR_less {c:Int} {t:List Int} (h:nameB (c::t)=true):nameR (c::t) 0 <:+ t:=by
 have aux:partZ c=true∨escB (c::t)=true:=by
  unfold nameB at h
  split at h
  ·left
   rename_i h1
   have:c=45:=by simpa [hd] using h1
   subst this
   decide
  ·unfold wordB at h
   rcases Bool.or_eq_true_iff.1 h with h1 | h1
   ·left
    have:startZ c=true:=h1
    simp [partZ,this]
   ·right;exact h1
 rw [nameR]
 split
 ·exact nameR_suf t 0
 ·rcases aux with h1 | h1
  ·contradiction
  ·rw [if_pos h1]
   exact nameR_suf t _
theorem mantR_less {c:Int} {t:List Int} (h:signB (c::t)=true∨digitZ c=true):mantR (c::t) <:+ t:=by
 unfold mantR unsignZ
 rcases h with h | h
 ·rw [if_pos h];exact digitsR_suf t
 ·split
  ·exact digitsR_suf t
  ·rw [digitsR,if_pos h];exact digitsR_suf t
theorem numR_less {c:Int} {t:List Int} (h:numB (c::t)=true):numR (c::t) <:+ t:=by
 by_cases hs:signB (c::t)=true
 ·exact (expR_suf _).trans ((fracR_suf _).trans (mantR_less (.inl hs)))
 ·have hu:unsignZ (c::t)=c::t:=by unfold unsignZ;rw [if_neg hs]
  unfold numB at h
  rw [hu] at h
  by_cases hdg:digitZ c=true
  ·exact (expR_suf _).trans ((fracR_suf _).trans (mantR_less (.inr hdg)))
  ·have hdot:dotB (c::t)=true:=by
    rcases Bool.or_eq_true_iff.1 h with h1 | h1
    ·exact absurd h1 hdg
    ·exact h1
   have hm:mantR (c::t)=c::t:=by unfold mantR;rw [hu,digitsR,if_neg hdg]
   unfold numR
   rw [hm]
   refine (expR_suf _).trans ?_
   unfold fracR
   rw [if_pos hdot]
   exact digitsR_suf t
theorem urlEnd_suf (x r:List Int):(urlEnd x r).2 <:+ r:=by
 unfold urlEnd
 split
 ·exact List.nil_suffix
 ·split
  ·exact suf_step (k:=0) ((suf_drop _ 1).trans (blanksR_suf r))
  ·exact (badR_suf _ _).trans (blanksR_suf r)
theorem urlZ_suf (l:List Int):(urlZ l).2 <:+ l:=(urlEnd_suf _ _).trans ((urlR_suf _ _).trans (blanksR_suf l))
theorem wordZ_suf (l:List Int):(wordZ l).2 <:+ nameR l 0:=by
 unfold wordZ
 split
 ·split
  ·exact suf_step (urlZ_suf _)
  ·exact suf_drop _ 1
 ·exact List.suffix_refl _
theorem numZ_suf (l:List Int):(numZ l).2 <:+ numR l:=by
 unfold numZ
 split
 ·exact nameR_suf _ _
 ·split
  ·exact suf_drop _ 1
  ·exact List.suffix_refl _
theorem strZ_suf (l:List Int):(strZ l).2 <:+ l.drop 1:=by
 have:=quoZ_suf (hd l 0) (l.drop 1) 0
 unfold strZ
 split
 ·rename_i h;rw [h] at this;exact this
 ·rename_i h;rw [h] at this;exact this
theorem one_less (c:Int) (t:List Int):(oneZ (c::t)).2 <:+ t:=by
 unfold oneZ
 split
 ·exact (comR_suf _).trans (suf_drop t 1)
 split
 ·rename_i h
  have:blankZ c=true:=h
  show blanksR (c::t) <:+ t
  rw [blanksR,if_pos this]
  exact blanksR_suf t
 split
 ·exact strZ_suf (c::t)
 split
 ·exact nameR_suf t 0
 split
 ·rename_i h
  exact (numZ_suf _).trans (numR_less h)
 split
 ·exact suf_drop t 2
 split
 ·exact suf_drop t 3
 split
 ·rename_i h
  exact (wordZ_suf _).trans (nameR_less h)
 split
 ·exact nameR_suf t 0
 ·exact List.suffix_refl _
theorem toks_cons (c:Int) (t:List Int):toks (c::t)=(oneZ (c::t)).1.toList++toks (oneZ (c::t)).2:=by
 unfold toks
 rw [toksF,toksF_skip,← suf_len (one_less c t)]
end Go.Proofs.YtemlnblifkdenaaGreatDoor.Y
namespace Go.Proofs.YtemlnblifkdenaaGreatDoor.Y
open Go.RowKit
def fitZ (first:Bool) (c:Int):Bool:=if first then smallZ c else smallZ c || digitZ c || c == 45 || c == 95
theorem strOf_size (xs:List Int):(strOfNums xs).size=xs.length:=by
 show (xs.map _).toArray.size=_
 simp
def CharOk (t:ByteArray) (c n:Int):Prop:=(n=0∧Utf8.decode t 0=(65533,1))∨(0<n∧n=(Utf8.decode t 0).2∧c=(Utf8.decode t 0).1)
theorem dec0 (t:ByteArray):Utf8.decode t 0=Lib.decodeN t.size (t.get! 0).toNat (t.get! 1).toNat (t.get! 2).toNat (t.get! 3).toNat:=by
 have:=Lib.decode_at t 0
 simpa using this
def PostC (b0 b1:Nat) (c n:Int):Prop:=(n=0∧c=0∧¬ (128≤b1∧b1<192∧128≤(((b0:Int) - 192) * 64+((b1:Int) - 128))∧(((b0:Int) - 192) * 64+((b1:Int) - 128))≤1114111∧¬ (55296≤(((b0:Int) - 192) * 64+((b1:Int) - 128))∧(((b0:Int) - 192) * 64+((b1:Int) - 128))<57344)))∨(n=2∧(128≤b1∧b1<192∧128≤(((b0:Int) - 192) * 64+((b1:Int) - 128))∧(((b0:Int) - 192) * 64+((b1:Int) - 128))≤1114111∧¬ (55296≤(((b0:Int) - 192) * 64+((b1:Int) - 128))∧(((b0:Int) - 192) * 64+((b1:Int) - 128))<57344))∧c=(((b0:Int) - 192) * 64+((b1:Int) - 128)))
def RelC (b0 b1:Nat) (c i:Value):Prop:=(i=.int .i64 0∧c=.int .i32 ((b0:Int) - 192))∨(i=.int .i64 1∧c=.int .i32 (((b0:Int) - 192) * 64+((b1:Int) - 128))∧128≤b1∧b1<192)
set_option maxRecDepth 1000000 in
theorem char_C (b off cap len:Nat) (w:World) (b0 b1:Nat) (hs:2≤len) (hs2:len≤1000000000000) (hcap:len≤cap) (hr:192≤b0) (hr2:b0<224) (h1:b1<256)
  (c0:w.cell? ⟨b,off,none⟩=some (.int .u8 b0)) (c1:w.cell? ⟨b,off+1,none⟩=some (.int .u8 b1)) :
  Calls Tryz.prog 93 #[.slice (some ⟨b,off,none⟩) len cap] w fun e w'=>(∃ c n:Int,e=.returned (.tuple #[.int .i32 c,.int .i64 n]) ∧
   PostC b0 b1 c n)∧w=w':=by
 go_enter Tryz.func93,Tryz.ntmps93
 go_wp2
 go_loop [4,54] (fun c i=>RelC b0 b1 c i) (fun _ i=>(1 - intOf i).toNat)
 case atStart=>exact .inl ⟨rfl,rfl⟩
 case round =>
  rcases hrel with ⟨rfl,rfl⟩ | ⟨rfl,rfl,v1,u1x⟩
  ·rcases (show b1<128∨192≤b1∨(128≤b1∧b1<192) by omega) with y1 | y1 | ⟨y1,y2⟩
   ·go_wp2
    go_ret2
    exact ⟨⟨0,0,rfl,.inl ⟨rfl,rfl,by omega⟩⟩,rfl⟩
   ·go_wp2
    go_ret2
    exact ⟨⟨0,0,rfl,.inl ⟨rfl,rfl,by omega⟩⟩,rfl⟩
   ·go_wp2
    refine ⟨⟨_,_,_,_,_,?_,rfl,rfl,rfl,rfl,rfl⟩,?_⟩
    ·exact .inr (⟨by go_num,by go_num,y1,y2⟩)
    ·decide
  ·have hC0:0≤(((b0:Int) - 192) * 64+((b1:Int) - 128)):=by omega
   have hC1:(((b0:Int) - 192) * 64+((b1:Int) - 128))≤2047:=by omega
   generalize hC:(((b0:Int) - 192) * 64+((b1:Int) - 128))=C at *
   have HP:Hid (∀ c n:Int,(n=0∧c=0∧¬ (128≤C∧C≤1114111∧¬ (55296≤C∧C<57344)))∨(n=2∧(128≤C∧C≤1114111∧¬ (55296≤C∧C<57344))∧c=C)→PostC b0 b1 c n):=by
    rintro c n (⟨e1,e2,e3⟩ | ⟨e1,e2,e3⟩)
    ·exact .inl ⟨e1,e2,by rw [hC];omega⟩
    ·exact .inr ⟨e1,by rw [hC];exact ⟨v1,u1x,e2⟩,by rw [hC];exact e3⟩
   clear hC
   rcases (show (C<128)∨(128≤C) by omega) with g1 | g1
   ·go_wp2
    go_ret2
    exact ⟨⟨0,0,rfl,HP.out _ _ (.inl ⟨rfl,rfl,by omega⟩)⟩,rfl⟩
   ·go_wp2
    go_ret2
    exact ⟨⟨C,2,rfl,HP.out _ _ (.inr ⟨rfl,by omega,rfl⟩)⟩,rfl⟩
def PostD (b0 b1 b2:Nat) (c n:Int):Prop:=(n=0∧c=0∧¬ (128≤b1∧b1<192∧128≤b2∧b2<192∧2048≤((((b0:Int) - 224) * 64+((b1:Int) - 128)) * 64+((b2:Int) - 128))∧((((b0:Int) - 224) * 64+((b1:Int) - 128)) * 64+((b2:Int) - 128))≤1114111∧¬ (55296≤((((b0:Int) - 224) * 64+((b1:Int) - 128)) * 64+((b2:Int) - 128))∧((((b0:Int) - 224) * 64+((b1:Int) - 128)) * 64+((b2:Int) - 128))<57344)))∨(n=3∧(128≤b1∧b1<192∧128≤b2∧b2<192∧2048≤((((b0:Int) - 224) * 64+((b1:Int) - 128)) * 64+((b2:Int) - 128))∧((((b0:Int) - 224) * 64+((b1:Int) - 128)) * 64+((b2:Int) - 128))≤1114111∧¬ (55296≤((((b0:Int) - 224) * 64+((b1:Int) - 128)) * 64+((b2:Int) - 128))∧((((b0:Int) - 224) * 64+((b1:Int) - 128)) * 64+((b2:Int) - 128))<57344))∧c=((((b0:Int) - 224) * 64+((b1:Int) - 128)) * 64+((b2:Int) - 128)))
def RelD (b0 b1 b2:Nat) (c i:Value):Prop:=(i=.int .i64 0∧c=.int .i32 ((b0:Int) - 224))∨(i=.int .i64 1∧c=.int .i32 (((b0:Int) - 224) * 64+((b1:Int) - 128))∧128≤b1∧b1<192)∨(i=.int .i64 2∧c=.int .i32 ((((b0:Int) - 224) * 64+((b1:Int) - 128)) * 64+((b2:Int) - 128))∧128≤b1∧b1<192∧128≤b2∧b2<192)
set_option maxRecDepth 1000000 in
theorem char_D (b off cap len:Nat) (w:World) (b0 b1 b2:Nat) (hs:3≤len) (hs2:len≤1000000000000) (hcap:len≤cap) (hr:224≤b0) (hr2:b0<240) (h1:b1<256) (h2:b2<256)
  (c0:w.cell? ⟨b,off,none⟩=some (.int .u8 b0)) (c1:w.cell? ⟨b,off+1,none⟩=some (.int .u8 b1)) (c2:w.cell? ⟨b,off+1+1,none⟩=some (.int .u8 b2)) :
  Calls Tryz.prog 93 #[.slice (some ⟨b,off,none⟩) len cap] w fun e w'=>(∃ c n:Int,e=.returned (.tuple #[.int .i32 c,.int .i64 n]) ∧
   PostD b0 b1 b2 c n)∧w=w':=by
 go_enter Tryz.func93,Tryz.ntmps93
 go_wp2
 go_loop [4,54] (fun c i=>RelD b0 b1 b2 c i) (fun _ i=>(2 - intOf i).toNat)
 case atStart=>exact .inl ⟨rfl,rfl⟩
 case round =>
  rcases hrel with ⟨rfl,rfl⟩ | ⟨rfl,rfl,v1,u1x⟩ | ⟨rfl,rfl,v1,u1x,v2,u2x⟩
  ·rcases (show b1<128∨192≤b1∨(128≤b1∧b1<192) by omega) with y1 | y1 | ⟨y1,y2⟩
   ·go_wp2
    go_ret2
    exact ⟨⟨0,0,rfl,.inl ⟨rfl,rfl,by omega⟩⟩,rfl⟩
   ·go_wp2
    go_ret2
    exact ⟨⟨0,0,rfl,.inl ⟨rfl,rfl,by omega⟩⟩,rfl⟩
   ·go_wp2
    refine ⟨⟨_,_,_,_,_,?_,rfl,rfl,rfl,rfl,rfl⟩,?_⟩
    ·exact .inr (.inl ⟨by go_num,by go_num,y1,y2⟩)
    ·decide
  ·rcases (show b2<128∨192≤b2∨(128≤b2∧b2<192) by omega) with y1 | y1 | ⟨y1,y2⟩
   ·go_wp2
    go_ret2
    exact ⟨⟨0,0,rfl,.inl ⟨rfl,rfl,by omega⟩⟩,rfl⟩
   ·go_wp2
    go_ret2
    exact ⟨⟨0,0,rfl,.inl ⟨rfl,rfl,by omega⟩⟩,rfl⟩
   ·go_wp2
    refine ⟨⟨_,_,_,_,_,?_,rfl,rfl,rfl,rfl,rfl⟩,?_⟩
    ·exact .inr (.inr (⟨by go_num,by go_num,v1,u1x,y1,y2⟩))
    ·decide
  ·have hC0:0≤((((b0:Int) - 224) * 64+((b1:Int) - 128)) * 64+((b2:Int) - 128)):=by omega
   have hC1:((((b0:Int) - 224) * 64+((b1:Int) - 128)) * 64+((b2:Int) - 128))≤65535:=by omega
   generalize hC:((((b0:Int) - 224) * 64+((b1:Int) - 128)) * 64+((b2:Int) - 128))=C at *
   have HP:Hid (∀ c n:Int,(n=0∧c=0∧¬ (2048≤C∧C≤1114111∧¬ (55296≤C∧C<57344)))∨(n=3∧(2048≤C∧C≤1114111∧¬ (55296≤C∧C<57344))∧c=C)→PostD b0 b1 b2 c n):=by
    rintro c n (⟨e1,e2,e3⟩ | ⟨e1,e2,e3⟩)
    ·exact .inl ⟨e1,e2,by rw [hC];omega⟩
    ·exact .inr ⟨e1,by rw [hC];exact ⟨v1,u1x,v2,u2x,e2⟩,by rw [hC];exact e3⟩
   clear hC
   rcases (show (C<2048)∨(55296≤C∧C<57344)∨(2048≤C∧C<55296)∨(57344≤C) by omega) with g1 | ⟨g1,g2⟩ | ⟨g1,g2⟩ | g1
   ·go_wp2
    go_ret2
    exact ⟨⟨0,0,rfl,HP.out _ _ (.inl ⟨rfl,rfl,by omega⟩)⟩,rfl⟩
   ·go_wp2
    go_ret2
    exact ⟨⟨0,0,rfl,HP.out _ _ (.inl ⟨rfl,rfl,by omega⟩)⟩,rfl⟩
   ·go_wp2
    go_ret2
    exact ⟨⟨C,3,rfl,HP.out _ _ (.inr ⟨rfl,by omega,rfl⟩)⟩,rfl⟩
   ·go_wp2
    go_ret2
    exact ⟨⟨C,3,rfl,HP.out _ _ (.inr ⟨rfl,by omega,rfl⟩)⟩,rfl⟩
def PostE (b0 b1 b2 b3:Nat) (c n:Int):Prop:=(n=0∧c=0∧¬ (128≤b1∧b1<192∧128≤b2∧b2<192∧128≤b3∧b3<192∧65536≤(((((b0:Int) - 240) * 64+((b1:Int) - 128)) * 64+((b2:Int) - 128)) * 64+((b3:Int) - 128))∧(((((b0:Int) - 240) * 64+((b1:Int) - 128)) * 64+((b2:Int) - 128)) * 64+((b3:Int) - 128))≤1114111∧¬ (55296≤(((((b0:Int) - 240) * 64+((b1:Int) - 128)) * 64+((b2:Int) - 128)) * 64+((b3:Int) - 128))∧(((((b0:Int) - 240) * 64+((b1:Int) - 128)) * 64+((b2:Int) - 128)) * 64+((b3:Int) - 128))<57344)))∨(n=4∧(128≤b1∧b1<192∧128≤b2∧b2<192∧128≤b3∧b3<192∧65536≤(((((b0:Int) - 240) * 64+((b1:Int) - 128)) * 64+((b2:Int) - 128)) * 64+((b3:Int) - 128))∧(((((b0:Int) - 240) * 64+((b1:Int) - 128)) * 64+((b2:Int) - 128)) * 64+((b3:Int) - 128))≤1114111∧¬ (55296≤(((((b0:Int) - 240) * 64+((b1:Int) - 128)) * 64+((b2:Int) - 128)) * 64+((b3:Int) - 128))∧(((((b0:Int) - 240) * 64+((b1:Int) - 128)) * 64+((b2:Int) - 128)) * 64+((b3:Int) - 128))<57344))∧c=(((((b0:Int) - 240) * 64+((b1:Int) - 128)) * 64+((b2:Int) - 128)) * 64+((b3:Int) - 128)))
def RelE (b0 b1 b2 b3:Nat) (c i:Value):Prop:=(i=.int .i64 0∧c=.int .i32 ((b0:Int) - 240))∨(i=.int .i64 1∧c=.int .i32 (((b0:Int) - 240) * 64+((b1:Int) - 128))∧128≤b1∧b1<192)∨(i=.int .i64 2∧c=.int .i32 ((((b0:Int) - 240) * 64+((b1:Int) - 128)) * 64+((b2:Int) - 128))∧128≤b1∧b1<192∧128≤b2∧b2<192)∨(i=.int .i64 3∧c=.int .i32 (((((b0:Int) - 240) * 64+((b1:Int) - 128)) * 64+((b2:Int) - 128)) * 64+((b3:Int) - 128))∧128≤b1∧b1<192∧128≤b2∧b2<192∧128≤b3∧b3<192)
set_option maxRecDepth 1000000 in
theorem char_E (b off cap len:Nat) (w:World) (b0 b1 b2 b3:Nat) (hs:4≤len) (hs2:len≤1000000000000) (hcap:len≤cap) (hr:240≤b0) (hr2:b0<248) (h1:b1<256) (h2:b2<256) (h3:b3<256)
  (c0:w.cell? ⟨b,off,none⟩=some (.int .u8 b0)) (c1:w.cell? ⟨b,off+1,none⟩=some (.int .u8 b1)) (c2:w.cell? ⟨b,off+1+1,none⟩=some (.int .u8 b2)) (c3:w.cell? ⟨b,off+1+2,none⟩=some (.int .u8 b3)) :
  Calls Tryz.prog 93 #[.slice (some ⟨b,off,none⟩) len cap] w fun e w'=>(∃ c n:Int,e=.returned (.tuple #[.int .i32 c,.int .i64 n]) ∧
   PostE b0 b1 b2 b3 c n)∧w=w':=by
 go_enter Tryz.func93,Tryz.ntmps93
 go_wp2
 go_loop [4,54] (fun c i=>RelE b0 b1 b2 b3 c i) (fun _ i=>(3 - intOf i).toNat)
 case atStart=>exact .inl ⟨rfl,rfl⟩
 case round =>
  rcases hrel with ⟨rfl,rfl⟩ | ⟨rfl,rfl,v1,u1x⟩ | ⟨rfl,rfl,v1,u1x,v2,u2x⟩ | ⟨rfl,rfl,v1,u1x,v2,u2x,v3,u3x⟩
  ·rcases (show b1<128∨192≤b1∨(128≤b1∧b1<192) by omega) with y1 | y1 | ⟨y1,y2⟩
   ·go_wp2
    go_ret2
    exact ⟨⟨0,0,rfl,.inl ⟨rfl,rfl,by omega⟩⟩,rfl⟩
   ·go_wp2
    go_ret2
    exact ⟨⟨0,0,rfl,.inl ⟨rfl,rfl,by omega⟩⟩,rfl⟩
   ·go_wp2
    refine ⟨⟨_,_,_,_,_,?_,rfl,rfl,rfl,rfl,rfl⟩,?_⟩
    ·exact .inr (.inl ⟨by go_num,by go_num,y1,y2⟩)
    ·decide
  ·rcases (show b2<128∨192≤b2∨(128≤b2∧b2<192) by omega) with y1 | y1 | ⟨y1,y2⟩
   ·go_wp2
    go_ret2
    exact ⟨⟨0,0,rfl,.inl ⟨rfl,rfl,by omega⟩⟩,rfl⟩
   ·go_wp2
    go_ret2
    exact ⟨⟨0,0,rfl,.inl ⟨rfl,rfl,by omega⟩⟩,rfl⟩
   ·go_wp2
    refine ⟨⟨_,_,_,_,_,?_,rfl,rfl,rfl,rfl,rfl⟩,?_⟩
    ·exact .inr (.inr (.inl ⟨by go_num,by go_num,v1,u1x,y1,y2⟩))
    ·decide
  ·rcases (show b3<128∨192≤b3∨(128≤b3∧b3<192) by omega) with y1 | y1 | ⟨y1,y2⟩
   ·go_wp2
    go_ret2
    exact ⟨⟨0,0,rfl,.inl ⟨rfl,rfl,by omega⟩⟩,rfl⟩
   ·go_wp2
    go_ret2
    exact ⟨⟨0,0,rfl,.inl ⟨rfl,rfl,by omega⟩⟩,rfl⟩
   ·go_wp2
    refine ⟨⟨_,_,_,_,_,?_,rfl,rfl,rfl,rfl,rfl⟩,?_⟩
    ·exact .inr (.inr (.inr (⟨by go_num,by go_num,v1,u1x,v2,u2x,y1,y2⟩)))
    ·decide
  ·have hC0:0≤(((((b0:Int) - 240) * 64+((b1:Int) - 128)) * 64+((b2:Int) - 128)) * 64+((b3:Int) - 128)):=by omega
   have hC1:(((((b0:Int) - 240) * 64+((b1:Int) - 128)) * 64+((b2:Int) - 128)) * 64+((b3:Int) - 128))≤2097151:=by omega
   generalize hC:(((((b0:Int) - 240) * 64+((b1:Int) - 128)) * 64+((b2:Int) - 128)) * 64+((b3:Int) - 128))=C at *
   have HP:Hid (∀ c n:Int,(n=0∧c=0∧¬ (65536≤C∧C≤1114111∧¬ (55296≤C∧C<57344)))∨(n=4∧(65536≤C∧C≤1114111∧¬ (55296≤C∧C<57344))∧c=C)→PostE b0 b1 b2 b3 c n):=by
    rintro c n (⟨e1,e2,e3⟩ | ⟨e1,e2,e3⟩)
    ·exact .inl ⟨e1,e2,by rw [hC];omega⟩
    ·exact .inr ⟨e1,by rw [hC];exact ⟨v1,u1x,v2,u2x,v3,u3x,e2⟩,by rw [hC];exact e3⟩
   clear hC
   rcases (show (C<65536)∨(1114111<C)∨(65536≤C∧C≤1114111) by omega) with g1 | g1 | ⟨g1,g2⟩
   ·go_wp2
    go_ret2
    exact ⟨⟨0,0,rfl,HP.out _ _ (.inl ⟨rfl,rfl,by omega⟩)⟩,rfl⟩
   ·go_wp2
    go_ret2
    exact ⟨⟨0,0,rfl,HP.out _ _ (.inl ⟨rfl,rfl,by omega⟩)⟩,rfl⟩
   ·go_wp2
    go_ret2
    exact ⟨⟨C,4,rfl,HP.out _ _ (.inr ⟨rfl,by omega,rfl⟩)⟩,rfl⟩
theorem get_lt (t:ByteArray) (j:Nat):(t.get! j).toNat<256:=(t.get! j).toNat_lt
theorem ok_C {t:ByteArray} {c n:Int} (hs:2≤t.size) (hr:192≤(t.get! 0).toNat) (hr2:(t.get! 0).toNat<224) (h:PostC (t.get! 0).toNat (t.get! 1).toNat c n):CharOk t c n:=by
 have h1:=get_lt t 1
 unfold CharOk
 rw [dec0]
 generalize (t.get! 0).toNat=b0 at *
 generalize (t.get! 1).toNat=b1 at *
 generalize (t.get! 2).toNat=b2 at *
 generalize (t.get! 3).toNat=b3 at *
 unfold PostC at h
 unfold Lib.decodeN
 rw [if_neg (by omega)]
 rcases h with ⟨rfl,rfl,hv⟩ | ⟨rfl,hv,rfl⟩
 ·left
  refine ⟨rfl,?_⟩
  by_cases h2:b0 / 32=6∧1<t.size∧b1 / 64=2
  ·rw [if_pos h2,if_neg (by omega)]
  ·rw [if_neg h2,if_neg (by omega),if_neg (by omega)]
 ·right
  rw [if_pos (by omega),if_pos (by omega)]
  refine ⟨by omega,rfl,?_⟩
  simp only
  omega
theorem ok_D {t:ByteArray} {c n:Int} (hs:3≤t.size) (hr:224≤(t.get! 0).toNat) (hr2:(t.get! 0).toNat<240) (h:PostD (t.get! 0).toNat (t.get! 1).toNat (t.get! 2).toNat c n):CharOk t c n:=by
 have h1:=get_lt t 1
 have h2:=get_lt t 2
 unfold CharOk
 rw [dec0]
 generalize (t.get! 0).toNat=b0 at *
 generalize (t.get! 1).toNat=b1 at *
 generalize (t.get! 2).toNat=b2 at *
 generalize (t.get! 3).toNat=b3 at *
 unfold PostD at h
 unfold Lib.decodeN
 rw [if_neg (by omega),if_neg (by omega)]
 rcases h with ⟨rfl,rfl,hv⟩ | ⟨rfl,hv,rfl⟩
 ·left
  refine ⟨rfl,?_⟩
  by_cases h2:b0 / 16=14∧(1<t.size∧b1 / 64=2)∧(2<t.size∧b2 / 64=2)
  ·rw [if_pos h2,if_neg (by omega)]
  ·rw [if_neg h2,if_neg (by omega)]
 ·right
  rw [if_pos (by omega),if_pos (by omega)]
  refine ⟨by omega,rfl,?_⟩
  simp only
  omega
theorem ok_E {t:ByteArray} {c n:Int} (hs:4≤t.size) (hr:240≤(t.get! 0).toNat) (hr2:(t.get! 0).toNat<248) (h:PostE (t.get! 0).toNat (t.get! 1).toNat (t.get! 2).toNat (t.get! 3).toNat c n):CharOk t c n:=by
 have h1:=get_lt t 1
 have h2:=get_lt t 2
 have h3:=get_lt t 3
 unfold CharOk
 rw [dec0]
 generalize (t.get! 0).toNat=b0 at *
 generalize (t.get! 1).toNat=b1 at *
 generalize (t.get! 2).toNat=b2 at *
 generalize (t.get! 3).toNat=b3 at *
 unfold PostE at h
 unfold Lib.decodeN
 rw [if_neg (by omega),if_neg (by omega),if_neg (by omega)]
 rcases h with ⟨rfl,rfl,hv⟩ | ⟨rfl,hv,rfl⟩
 ·left
  refine ⟨rfl,?_⟩
  by_cases h2:b0 / 8=30∧(1<t.size∧b1 / 64=2)∧(2<t.size∧b2 / 64=2)∧(3<t.size∧b3 / 64=2)
  ·rw [if_pos h2,if_neg (by omega)]
  ·rw [if_neg h2]
 ·right
  rw [if_pos (by omega),if_pos (by omega)]
  refine ⟨by omega,rfl,?_⟩
  simp only
  omega
theorem ok_short {t:ByteArray} (h:(192≤(t.get! 0).toNat∧(t.get! 0).toNat<224∧t.size<2)∨(224≤(t.get! 0).toNat∧(t.get! 0).toNat<240∧t.size<3)∨(240≤(t.get! 0).toNat∧(t.get! 0).toNat<248∧t.size<4)∨(128≤(t.get! 0).toNat∧(t.get! 0).toNat<192)∨248≤(t.get! 0).toNat):CharOk t 0 0:=by
 have h0:=get_lt t 0
 unfold CharOk
 rw [dec0]
 generalize (t.get! 0).toNat=b0 at *
 left
 refine ⟨rfl,?_⟩
 unfold Lib.decodeN
 rw [if_neg (by omega),if_neg (by omega),if_neg (by omega),if_neg (by omega)]
theorem ok_ascii {t:ByteArray} (h:(t.get! 0).toNat<128):CharOk t (t.get! 0).toNat 1:=by
 unfold CharOk
 rw [dec0]
 unfold Lib.decodeN
 rw [if_pos h]
 exact .inr ⟨by omega,rfl,rfl⟩
set_option maxRecDepth 1000000 in
theorem char_short (b off cap len:Nat) (w:World) (b0:Nat) (hs:1≤len) (hs2:len≤1000000000000) (_hcap:len≤cap)
  (c0:w.cell? ⟨b,off,none⟩=some (.int .u8 b0)) (h256:b0<256)
  (h:(192≤b0∧b0<224∧len<2)∨(224≤b0∧b0<240∧len<3)∨(240≤b0∧b0<248∧len<4)∨(128≤b0∧b0<192)∨248≤b0) :
  Calls Tryz.prog 93 #[.slice (some ⟨b,off,none⟩) len cap] w fun e w'=>e=.returned (.tuple #[.int .i32 0,.int .i64 0])∧w=w':=by
 rcases h with ⟨g1,g2,g3⟩ | ⟨g1,g2,g3⟩ | ⟨g1,g2,g3⟩ | ⟨g1,g2⟩ | g1
 all_goals
  go_enter Tryz.func93,Tryz.ntmps93
  go_wp2
  go_ret2
  exact ⟨rfl,rfl⟩
set_option maxRecDepth 1000000 in
theorem char_ascii (b off cap len:Nat) (w:World) (b0:Nat) (hs:1≤len) (hs2:len≤1000000000000) (_hcap:len≤cap)
  (c0:w.cell? ⟨b,off,none⟩=some (.int .u8 b0)) (h:b0<128) :
  Calls Tryz.prog 93 #[.slice (some ⟨b,off,none⟩) len cap] w fun e w'=>e=.returned (.tuple #[.int .i32 b0,.int .i64 1])∧w=w':=by
 go_enter Tryz.func93,Tryz.ntmps93
 go_wp2
 go_ret2
 exact ⟨rfl,rfl⟩
theorem char_any (v:Value) (t:ByteArray) (w:World) (ht:0<t.size) (hs:t.size≤1000000000000) (hv:BytesAt w v t) :
  Calls Tryz.prog 93 #[v] w fun e w'=>(∃ c n:Int,e=.returned (.tuple #[.int .i32 c,.int .i64 n])∧CharOk t c n)∧w=w':=by
 obtain ⟨a,cap,rfl,hcap,hc⟩:=hv
 obtain ⟨b,off,rfl,hcell⟩:=hc ht
 have c0:w.cell? ⟨b,off,none⟩=some (.int .u8 (t.get! 0).toNat):=hcell 0 ht
 have h0:=get_lt t 0
 by_cases ha:(t.get! 0).toNat<128
 ·refine (char_ascii b off cap t.size w _ (by omega) hs hcap c0 ha).mono ?_
  rintro e w' ⟨rfl,rfl⟩
  exact ⟨⟨_,_,rfl,ok_ascii ha⟩,rfl⟩
 ·by_cases hsh:(192≤(t.get! 0).toNat∧(t.get! 0).toNat<224∧t.size<2)∨(224≤(t.get! 0).toNat∧(t.get! 0).toNat<240∧t.size<3)∨(240≤(t.get! 0).toNat∧(t.get! 0).toNat<248∧t.size<4)∨(128≤(t.get! 0).toNat∧(t.get! 0).toNat<192)∨248≤(t.get! 0).toNat
  ·refine (char_short b off cap t.size w _ (by omega) hs hcap c0 h0 hsh).mono ?_
   rintro e w' ⟨rfl,rfl⟩
   exact ⟨⟨_,_,rfl,ok_short hsh⟩,rfl⟩
  ·rcases (show (192≤(t.get! 0).toNat∧(t.get! 0).toNat<224∧2≤t.size)∨(224≤(t.get! 0).toNat∧(t.get! 0).toNat<240∧3≤t.size)∨(240≤(t.get! 0).toNat∧(t.get! 0).toNat<248∧4≤t.size) by omega) with ⟨g1,g2,g3⟩ | ⟨g1,g2,g3⟩ | ⟨g1,g2,g3⟩
   ·refine (char_C b off cap t.size w _ _ g3 hs hcap g1 g2 (get_lt t 1) c0 (hcell 1 (by omega))).mono ?_
    rintro e w' ⟨⟨c,n,rfl,hp⟩,rfl⟩
    exact ⟨⟨c,n,rfl,ok_C g3 g1 g2 hp⟩,rfl⟩
   ·refine (char_D b off cap t.size w _ _ _ g3 hs hcap g1 g2 (get_lt t 1) (get_lt t 2) c0 (hcell 1 (by omega)) (hcell 2 (by omega))).mono ?_
    rintro e w' ⟨⟨c,n,rfl,hp⟩,rfl⟩
    exact ⟨⟨c,n,rfl,ok_D g3 g1 g2 hp⟩,rfl⟩
   ·refine (char_E b off cap t.size w _ _ _ _ g3 hs hcap g1 g2 (get_lt t 1) (get_lt t 2) (get_lt t 3) c0 (hcell 1 (by omega)) (hcell 2 (by omega)) (hcell 3 (by omega))).mono ?_
    rintro e w' ⟨⟨c,n,rfl,hp⟩,rfl⟩
    exact ⟨⟨c,n,rfl,ok_E g3 g1 g2 hp⟩,rfl⟩
theorem get_extract (s:ByteArray) (pos j:Nat) (hp:pos≤s.size):(s.extract pos s.size).get! j=s.get! (pos+j):=by
 cases s with
 | mk d =>
   have hp':pos≤d.size:=hp
   have e1:((ByteArray.mk d).extract pos (ByteArray.mk d).size).data=d.extract pos d.size:=by
    rw [ByteArray.data_extract];rfl
   unfold ByteArray.get!
   simp only [e1]
   by_cases h1:pos+j<d.size
   ·have h2:j<(d.extract pos d.size).size:=by simp;omega
    simp only [getElem!_pos,h1,h2]
    simp
   ·have h2:¬ j<(d.extract pos d.size).size:=by simp;omega
    exact (getElem!_neg (d.extract pos d.size) j h2).trans (getElem!_neg d (pos+j) h1).symm
theorem size_extract (s:ByteArray) (pos:Nat):(s.extract pos s.size).size=s.size - pos:=by simp
theorem decode_extract (s:ByteArray) (pos:Nat) (hp:pos≤s.size):Utf8.decode (s.extract pos s.size) 0=Utf8.decode s pos:=by
 rw [dec0,Lib.decode_at s pos,size_extract,get_extract s pos 0 hp,get_extract s pos 1 hp,get_extract s pos 2 hp,get_extract s pos 3 hp]
 rfl
theorem ext_bytes {s t:ByteArray} (h1:s.size=t.size) (h2:∀ j,j<s.size→s.get! j=t.get! j):s=t:=by
 cases s with
 | mk a =>
   cases t with
   | mk b =>
     have e:a=b:=by
      apply Array.ext h1
      intro i hi hj
      have:=h2 i hi
      unfold ByteArray.get! at this
      simpa [getElem!_pos,hi,hj] using this
     rw [e]
theorem extract_extract (s:ByteArray) (pos d:Nat) (hp:pos+d≤s.size):(s.extract pos s.size).extract d (s.extract pos s.size).size=s.extract (pos+d) s.size:=by
 have hz:=size_extract s pos
 refine ext_bytes (by rw [size_extract,size_extract s (pos+d)];omega) (fun j hj=>?_)
 rw [get_extract _ d j (by omega),get_extract s pos (d+j) (by omega),get_extract s (pos+d) j hp,Nat.add_assoc]
theorem width_le (t:ByteArray) (h:0<t.size):1≤(Utf8.decode t 0).2∧(Utf8.decode t 0).2≤t.size:=by
 rw [dec0]
 unfold Lib.decodeN
 repeat' split
 all_goals (simp only;omega)
theorem BytesAt.cut {w:World} {a:Option Addr} {cap d:Nat} {t:ByteArray} (h:BytesAt w (.slice a t.size cap) t) (hd:d≤t.size) {a':Option Addr}
  (ha:d<t.size→∀ b off,a=some ⟨b,off,none⟩→a'=some ⟨b,off+d,none⟩) {len' cap':Nat} (hl:len'=t.size - d) (hc:cap'=cap - d):BytesAt w (.slice a' len' cap') (t.extract d t.size):=by
 obtain ⟨a1,cap1,e,hcap,hcell⟩:=h
 simp only [Value.slice.injEq] at e
 obtain ⟨rfl,_,rfl⟩:=e
 refine ⟨a',cap',by rw [size_extract,hl],by rw [size_extract,hc];omega,fun h0=>?_⟩
 rw [size_extract] at h0
 obtain ⟨b,off,rfl,hcell2⟩:=hcell (by omega)
 refine ⟨b,off+d,ha (by omega) b off rfl,fun j hj=>?_⟩
 rw [size_extract] at hj
 rw [get_extract t d j hd,Nat.add_assoc]
 exact hcell2 (d+j) (by omega)
theorem addr_add (b off d:Nat):(⟨b,off,none⟩:Addr).add d=⟨b,off+d,none⟩:=by unfold Addr.add;split <;> simp_all
def lenOf:Value→Nat
 | .slice _ n _=>n
 | _=>0
set_option maxRecDepth 1000000 in
theorem chars_any (v:Value) (s:ByteArray) (w:World) (hs:s.size≤1000000000) (hv:BytesAt w v s) :
  Calls Tryz.prog 43 #[v] w fun e w'=>∃ u,e=.returned u∧w'.ownsRow w.heap.size 21 1 u (chars s).length ((chars s).map (Value.int .i32))∧Below w.heap.size w w':=by
 obtain ⟨i0,hi,hz0,hz1,hz2⟩:=info_parts Tryz.info21
 go_enter Tryz.func43,Tryz.ntmps43
 go_wp2
 go_loopw [0,3] (fun b out wr=>∃ (pos fuel:Nat) (acc:List Int),BytesAt w b (s.extract pos s.size)∧wr.ownsRow w.heap.size 21 1 out acc.length (acc.map (Value.int .i32))∧Below w.heap.size w wr∧acc++charsFrom s fuel pos=chars s∧pos≤s.size∧s.size≤pos+fuel∧acc.length≤pos) (fun b _ _=>lenOf b)
 case atStart =>
  have e:s.extract 0 s.size=s:=by
   refine ext_bytes (by rw [size_extract];omega) (fun j hj=>?_)
   rw [get_extract s 0 j (by omega),Nat.zero_add]
  exact ⟨0,s.size,[],by rw [e];exact hv,World.ownsRow_nil _ _ _ _,Below.refl _ _,rfl,by omega,by omega,by simp⟩
 case round =>
  obtain ⟨pos,fuel,acc,hb,hown,hbel,hacc,hp,hfu,hal⟩:=hrel
  have hsz:=size_extract s pos
  have hde:=decode_extract s pos hp
  by_cases hlt:pos<s.size
  ·obtain ⟨f,rfl⟩:∃ f,fuel=f+1:=⟨fuel - 1,by omega⟩
   simp only [charsFrom,if_pos hlt] at hacc
   rw [← hde] at hacc
   have hwl:=width_le (s.extract pos s.size) (by omega)
   have hv2:=hb
   obtain ⟨a,cap,rfl,hcap,hcc⟩:=hb
   clear hcc
   generalize hte:s.extract pos s.size=t at *
   have ht0:0<t.size:=by omega
   have ht1:t.size≤1000000000:=by omega
   have HZ:Hid (t.size=s.size - pos):=hsz
   have HE:Hid (s.extract pos s.size=t):=hte
   clear hde hte hsz
   go_wp2_with (go_at_call 93;fail)
   refine (char_any _ t _ ht0 (by omega) (hv2.below hbel)).mono ?_
   rintro e w' ⟨⟨c,n,rfl,hok⟩,rfl⟩
   obtain ⟨c',d',hdc⟩:∃ c' d',Utf8.decode t 0=(c',d'):=⟨_,_,rfl⟩
   unfold CharOk at hok
   rw [hdc] at hok hwl hacc
   simp only at hok hwl hacc
   clear hdc
   rcases hok with ⟨rfl,hd⟩ | ⟨hn0,rfl,rfl⟩
   ·simp only [Prod.mk.injEq] at hd
    obtain ⟨rfl,rfl⟩:=hd
    go_wp2_with (at_builtin;go_must (refine wpList_append_own _ rfl _ _ 47 rfl w.heap.size 21 i0 (.int .i32 0) 1 4 Tryz.underlying47 hi hz0 hz1 hz2 rfl (by decide) _ _ _ rfl (hown.alloc _) ⟨wr.heap.size,0,none⟩ 1 1 [.int .i32 65533] rfl rfl (cell_one_new _ _ _) (by intro u hu;simp at hu;subst hu;rfl) (by unfold maxLen;omega) (by omega) (by have:=hbel.size;simp;omega) ?_);intro v' w5 hown5 hgrow5 _)
    refine ⟨⟨pos+1,f,acc++[65533],?_,by simpa using hown5,(hbel.alloc hbel.size _).grown hgrow5 (by have:=hbel.size;simp;omega) (fun k hk=>(hown.lt k hk).1),by rw [← hacc];simp,by have:=HZ.out;omega,by have:=HZ.out;omega,by simp;omega⟩,by simp only [lenOf];omega⟩
    rw [← extract_extract s pos 1 (by have:=HZ.out;omega),HE.out]
    exact hv2.cut (by omega) (fun hl b off e=>by rw [if_neg (by omega),e];first | rfl | exact congrArg some (addr_add b off _)) rfl rfl
   ·have hdl:d'≤t.size:=hwl.2
    have hd1:1≤d':=hwl.1
    have e0:((d':Int) == 0)=false:=beq_eq_false_iff_ne.2 (by omega)
    clear hn0 hwl
    go_wp2_with (at_builtin;go_must (refine wpList_append_own _ rfl _ _ 47 rfl w.heap.size 21 i0 (.int .i32 0) 1 4 Tryz.underlying47 hi hz0 hz1 hz2 rfl (by decide) _ _ _ rfl (hown.alloc _) ⟨wr.heap.size,0,none⟩ 1 1 [.int .i32 c'] rfl rfl (cell_one_new _ _ _) (by intro u hu;simp at hu;subst hu;rfl) (by unfold maxLen;omega) (by omega) (by have:=hbel.size;simp;omega) ?_);intro v' w5 hown5 hgrow5 _)
    refine ⟨⟨pos+d',f,acc++[(c':Int)],?_,by simpa using hown5,(hbel.alloc hbel.size _).grown hgrow5 (by have:=hbel.size;simp;omega) (fun k hk=>(hown.lt k hk).1),by rw [← hacc];simp,by have:=HZ.out;omega,by have:=HZ.out;omega,by simp;omega⟩,by simp only [lenOf];omega⟩
    rw [← extract_extract s pos d' (by have:=HZ.out;omega),HE.out]
    exact hv2.cut (by omega) (fun hl b off e=>by rw [if_neg (by omega),e];first | rfl | exact congrArg some (addr_add b off _)) rfl rfl
  ·obtain ⟨a,cap,rfl,hcap,hcc⟩:=hb
   have h0:(s.extract pos s.size).size≤0:=by omega
   clear hcc hsz hde
   rw [charsFrom_end s fuel pos hlt,List.append_nil] at hacc
   subst hacc
   go_wp2
   go_ret
   exact ⟨_,rfl,hown,hbel⟩
def IsChar (c:Int):Prop:=0≤c∧c≤1114111∧¬ (55296≤c∧c≤57343)
theorem bytesZ_byte (xs:List Int):∀ n∈bytesZ xs,0≤n∧n<256:=by
 intro n hn
 obtain ⟨x,_,hx⟩:=List.mem_flatMap.1 hn
 exact Lib.encodeRuneZ_byte x n hx
theorem bytesZ_cons (x:Int) (r:List Int):bytesZ (x::r)=Lib.encodeRuneZ x++bytesZ r:=by simp [bytesZ]
theorem ret_int {k:IntKind} {a b:Int} (h:a=b):Ending.returned (.int k a)=.returned (.int k b):=by rw [h]
theorem startZ_yes {c:Int} (h:(97≤c∧c≤122)∨(65≤c∧c≤90)∨c=95∨128≤c):startZ c=true:=decide_eq_true h
theorem startZ_no {c:Int} (h:¬ ((97≤c∧c≤122)∨(65≤c∧c≤90)∨c=95∨128≤c)):startZ c=false:=decide_eq_false h
theorem refDigit_any (c:Int) (w:World):Calls Tryz.prog 139 #[.int .i32 c] w fun e w'=>e=.returned (.bool (digitZ c))∧w=w':=by
 by_cases h1:48≤c
 ·by_cases h2:c≤57
  ·have HT:Hid (digitZ c=true):=by show digitZ c=true;simp [digitZ,h1,h2]
   go_enter Tryz.func139,Tryz.ntmps139
   go_wp2
   go_ret
   exact ⟨ret_bool (by rw [HT.out]),rfl⟩
  ·have HT:Hid (digitZ c=false):=by show digitZ c=false;simp [digitZ,h1,h2]
   go_enter Tryz.func139,Tryz.ntmps139
   go_wp2
   go_ret
   exact ⟨ret_bool (by rw [HT.out]),rfl⟩
 ·have HT:Hid (digitZ c=false):=by show digitZ c=false;simp [digitZ,h1]
  go_enter Tryz.func139,Tryz.ntmps139
  go_wp2
  go_ret
  exact ⟨ret_bool (by rw [HT.out]),rfl⟩
theorem digitZ_yes {c:Int} (h1:48≤c) (h2:c≤57):digitZ c=true:=by simp [digitZ,h1,h2]
theorem digitZ_no {c:Int} (h:¬ (48≤c∧c≤57)):digitZ c=false:=by
 simp only [digitZ,Bool.and_eq_false_iff,decide_eq_false_iff_not];omega
theorem refHex_any (c:Int) (w:World) (hb:-2147483648≤c∧c≤2147483647):Calls Tryz.prog 137 #[.int .i32 c] w fun e w'=>e=.returned (.int .i64 (hexZ c))∧w=w':=by
 obtain ⟨hb1,hb2⟩:=hb
 rcases (show (48≤c∧c≤57)∨c<48∨(58≤c∧c<65)∨(65≤c∧c≤70)∨(71≤c∧c<97)∨(97≤c∧c≤102)∨102<c by omega) with ⟨h1,h2⟩ | h1 | ⟨h1,h2⟩ | ⟨h1,h2⟩ | ⟨h1,h2⟩ | ⟨h1,h2⟩ | h1
 ·have hd:=digitZ_yes h1 h2
  have HX:Hid (hexZ c=c - 48):=by show hexZ c=_;unfold hexZ;rw [if_pos (by omega)]
  go_enter Tryz.func137,Tryz.ntmps137
  go_wp2_with (go_at_call 139;refine (refDigit_any _ _).mono ?_;rintro e w' ⟨rfl,rfl⟩)
  go_ret
  exact ⟨ret_int (by rw [HX.out]),rfl⟩
 ·have hd:=digitZ_no (c:=c) (by omega)
  have HX:Hid (hexZ c=-1):=by show hexZ c=_;unfold hexZ;repeat' split;all_goals omega
  go_enter Tryz.func137,Tryz.ntmps137
  go_wp2_with (go_at_call 139;refine (refDigit_any _ _).mono ?_;rintro e w' ⟨rfl,rfl⟩)
  go_ret
  exact ⟨ret_int (by rw [HX.out];first | done | omega),rfl⟩
 ·have hd:=digitZ_no (c:=c) (by omega)
  have HX:Hid (hexZ c=-1):=by show hexZ c=_;unfold hexZ;repeat' split;all_goals omega
  go_enter Tryz.func137,Tryz.ntmps137
  go_wp2_with (go_at_call 139;refine (refDigit_any _ _).mono ?_;rintro e w' ⟨rfl,rfl⟩)
  go_ret
  exact ⟨ret_int (by rw [HX.out];first | done | omega),rfl⟩
 ·have hd:=digitZ_no (c:=c) (by omega)
  have HX:Hid (hexZ c=c - 55):=by show hexZ c=_;unfold hexZ;repeat' split;all_goals omega
  go_enter Tryz.func137,Tryz.ntmps137
  go_wp2_with (go_at_call 139;refine (refDigit_any _ _).mono ?_;rintro e w' ⟨rfl,rfl⟩)
  go_ret
  exact ⟨ret_int (by rw [HX.out];first | done | omega),rfl⟩
 ·have hd:=digitZ_no (c:=c) (by omega)
  have HX:Hid (hexZ c=-1):=by show hexZ c=_;unfold hexZ;repeat' split;all_goals omega
  go_enter Tryz.func137,Tryz.ntmps137
  go_wp2_with (go_at_call 139;refine (refDigit_any _ _).mono ?_;rintro e w' ⟨rfl,rfl⟩)
  go_ret
  exact ⟨ret_int (by rw [HX.out];first | done | omega),rfl⟩
 ·have hd:=digitZ_no (c:=c) (by omega)
  have HX:Hid (hexZ c=c - 87):=by show hexZ c=_;unfold hexZ;repeat' split;all_goals omega
  go_enter Tryz.func137,Tryz.ntmps137
  go_wp2_with (go_at_call 139;refine (refDigit_any _ _).mono ?_;rintro e w' ⟨rfl,rfl⟩)
  go_ret
  exact ⟨ret_int (by rw [HX.out];first | done | omega),rfl⟩
 ·have hd:=digitZ_no (c:=c) (by omega)
  have HX:Hid (hexZ c=-1):=by show hexZ c=_;unfold hexZ;repeat' split;all_goals omega
  go_enter Tryz.func137,Tryz.ntmps137
  go_wp2_with (go_at_call 139;refine (refDigit_any _ _).mono ?_;rintro e w' ⟨rfl,rfl⟩)
  go_ret
  exact ⟨ret_int (by rw [HX.out];first | done | omega),rfl⟩
theorem refBlank_any (c:Int) (w:World):Calls Tryz.prog 82 #[.int .i32 c] w fun e w'=>e=.returned (.bool (blankZ c))∧w=w':=by
 by_cases h1:c=32
 ·subst h1
  go_enter Tryz.func82,Tryz.ntmps82
  go_wp2
  go_ret
  exact ⟨rfl,rfl⟩
 ·by_cases h2:c=9
  ·subst h2
   go_enter Tryz.func82,Tryz.ntmps82
   go_wp2
   go_ret
   exact ⟨rfl,rfl⟩
  ·by_cases h3:c=10
   ·subst h3
    go_enter Tryz.func82,Tryz.ntmps82
    go_wp2
    go_ret
    exact ⟨rfl,rfl⟩
   ·have e1:(c == 32)=false:=by simpa using h1
    have e2:(c == 9)=false:=by simpa using h2
    have e3:(c == 10)=false:=by simpa using h3
    have HX:Hid (blankZ c=false):=by show blankZ c=_;simp [blankZ,e1,e2,e3]
    go_enter Tryz.func82,Tryz.ntmps82
    go_wp2
    go_ret
    exact ⟨ret_bool (by rw [HX.out]),rfl⟩
theorem refStart_any (c:Int) (w:World):Calls Tryz.prog 138 #[.int .i32 c] w fun e w'=>e=.returned (.bool (startZ c))∧w=w':=by
 rcases (show c<65∨(65≤c∧c≤90)∨(91≤c∧c<95)∨c=95∨c=96∨(97≤c∧c≤122)∨(123≤c∧c<128)∨128≤c by omega) with h | ⟨h,h2⟩ | ⟨h,h2⟩ | rfl | rfl | ⟨h,h2⟩ | ⟨h,h2⟩ | h
 ·have HX:Hid (startZ c=false):=startZ_no (c:=c) (by omega)
  have e95:(c == 95)=false:=beq_eq_false_iff_ne.2 (by omega)
  go_enter Tryz.func138,Tryz.ntmps138
  go_wp2
  go_ret
  exact ⟨ret_bool (by rw [HX.out];first | done | (simp only [decide_eq_false_iff_not];omega) | (simp only [Bool.or_eq_false_iff,decide_eq_false_iff_not];omega)),rfl⟩
 ·have HX:Hid (startZ c=true):=startZ_yes (c:=c) (by omega)
  have e95:(c == 95)=false:=beq_eq_false_iff_ne.2 (by omega)
  go_enter Tryz.func138,Tryz.ntmps138
  go_wp2
  go_ret
  exact ⟨ret_bool (by rw [HX.out];first | done | (simp only [decide_eq_false_iff_not];omega) | (simp only [Bool.or_eq_false_iff,decide_eq_false_iff_not];omega)),rfl⟩
 ·have HX:Hid (startZ c=false):=startZ_no (c:=c) (by omega)
  have e95:(c == 95)=false:=beq_eq_false_iff_ne.2 (by omega)
  go_enter Tryz.func138,Tryz.ntmps138
  go_wp2
  go_ret
  exact ⟨ret_bool (by rw [HX.out];first | done | (simp only [decide_eq_false_iff_not];omega) | (simp only [Bool.or_eq_false_iff,decide_eq_false_iff_not];omega)),rfl⟩
 ·go_enter Tryz.func138,Tryz.ntmps138
  go_wp2
  go_ret
  exact ⟨rfl,rfl⟩
 ·go_enter Tryz.func138,Tryz.ntmps138
  go_wp2
  go_ret
  exact ⟨rfl,rfl⟩
 ·have HX:Hid (startZ c=true):=startZ_yes (c:=c) (by omega)
  have e95:(c == 95)=false:=beq_eq_false_iff_ne.2 (by omega)
  go_enter Tryz.func138,Tryz.ntmps138
  go_wp2
  go_ret
  exact ⟨ret_bool (by rw [HX.out];first | done | (simp only [decide_eq_false_iff_not];omega) | (simp only [Bool.or_eq_false_iff,decide_eq_false_iff_not];omega)),rfl⟩
 ·have HX:Hid (startZ c=false):=startZ_no (c:=c) (by omega)
  have e95:(c == 95)=false:=beq_eq_false_iff_ne.2 (by omega)
  go_enter Tryz.func138,Tryz.ntmps138
  go_wp2
  go_ret
  exact ⟨ret_bool (by rw [HX.out];first | done | (simp only [decide_eq_false_iff_not];omega) | (simp only [Bool.or_eq_false_iff,decide_eq_false_iff_not];omega)),rfl⟩
 ·have HX:Hid (startZ c=true):=startZ_yes (c:=c) (by omega)
  have e95:(c == 95)=false:=beq_eq_false_iff_ne.2 (by omega)
  go_enter Tryz.func138,Tryz.ntmps138
  go_wp2
  go_ret
  exact ⟨ret_bool (by rw [HX.out];first | done | (simp only [decide_eq_false_iff_not];omega) | (simp only [Bool.or_eq_false_iff,decide_eq_false_iff_not];omega)),rfl⟩
theorem refPart_any (c:Int) (w:World):Calls Tryz.prog 120 #[.int .i32 c] w fun e w'=>e=.returned (.bool (partZ c))∧w=w':=by
 cases hs:startZ c
 ·cases hd:digitZ c
  ·have HX:Hid (partZ c=(c == 45)):=by show partZ c=_;simp [partZ,hs,hd]
   go_enter Tryz.func120,Tryz.ntmps120
   go_wp2_with (first | (go_at_call 138;refine (refStart_any _ _).mono ?_;rintro e w' ⟨rfl,rfl⟩) | (go_at_call 139;refine (refDigit_any _ _).mono ?_;rintro e w' ⟨rfl,rfl⟩))
   go_ret
   exact ⟨ret_bool (by rw [HX.out]),rfl⟩
  ·have HX:Hid (partZ c=true):=by show partZ c=_;simp [partZ,hd]
   go_enter Tryz.func120,Tryz.ntmps120
   go_wp2_with (first | (go_at_call 138;refine (refStart_any _ _).mono ?_;rintro e w' ⟨rfl,rfl⟩) | (go_at_call 139;refine (refDigit_any _ _).mono ?_;rintro e w' ⟨rfl,rfl⟩))
   go_ret
   exact ⟨ret_bool (by rw [HX.out]),rfl⟩
 ·have HX:Hid (partZ c=true):=by show partZ c=_;simp [partZ,hs]
  go_enter Tryz.func120,Tryz.ntmps120
  go_wp2_with (first | (go_at_call 138;refine (refStart_any _ _).mono ?_;rintro e w' ⟨rfl,rfl⟩) | (go_at_call 139;refine (refDigit_any _ _).mono ?_;rintro e w' ⟨rfl,rfl⟩))
  go_ret
  exact ⟨ret_bool (by rw [HX.out]),rfl⟩
theorem fit_high (first:Bool) (c:Int) (h:128≤c):fitZ first c=false:=by
 have h1:smallZ c=false:=by simp only [smallZ,Bool.and_eq_false_iff,decide_eq_false_iff_not];omega
 have h2:digitZ c=false:=by simp only [digitZ,Bool.and_eq_false_iff,decide_eq_false_iff_not];omega
 have h3:(c == 45)=false:=beq_eq_false_iff_ne.2 (by omega)
 have h4:(c == 95)=false:=beq_eq_false_iff_ne.2 (by omega)
 cases first <;> simp [fitZ,h1,h2,h3,h4]
def foldN (c:Nat):Nat:=if 65≤c∧c≤90 then c+32 else c
def foldB (b:UInt8):UInt8:=UInt8.ofNat (foldN b.toNat)
def foldS (s:ByteArray):ByteArray:=⟨s.data.map foldB⟩
theorem foldB_nat (b:UInt8):(foldB b).toNat=foldN b.toNat:=by
 have:=b.toNat_lt
 unfold foldB foldN
 split <;> simp <;> omega
theorem foldS_size (s:ByteArray):(foldS s).size=s.size:=by
 cases s with
 | mk d=>exact Array.size_map
theorem foldS_get (s:ByteArray) (j:Nat) (h:j<s.size):(foldS s).get! j=foldB (s.get! j):=by
 cases s with
 | mk d =>
   have h':j<d.size:=h
   simp [foldS,ByteArray.get!,getElem!_pos,h']
theorem bytesOf (s:ByteArray) (w:World):∃ g cap W,(convert 9 49 (.string s)).run Tryz.prog w=.ok (.slice (some ⟨g,0,none⟩) s.size cap) W∧s.size≤cap∧w.heap.size≤g ∧
  (∀ j,j<s.size→W.cell? ⟨g,j,none⟩=some (.int .u8 (s.get! j).toNat))∧(∀ j,j<s.size→W.frozen? ⟨g,j,none⟩=false)∧Below w.heap.size w W:=by
 have hcv:=run_bytes_of_string (P:=Tryz.prog) w 9 49 5 s Tryz.underlying9 Tryz.underlying49 Tryz.underlying5
 have hge:=grownCap_ge w s.size 0 5
 have hsz:(bytesRow s (grownCap w s.size 0 5)).size=grownCap w s.size 0 5:=by
  have:s.data.size=s.size:=rfl
  simp [bytesRow]
  omega
 generalize grownCap w s.size 0 5=cap at *
 have hnew:(w.drew.alloc (.cells (bytesRow s cap) 5 ((bytesRow s cap).size,(bytesRow s cap).size+1))).heap[w.heap.size]? = some (.cells (bytesRow s cap) 5 ((bytesRow s cap).size,(bytesRow s cap).size+1)):=heap_alloc_new w.drew _
 refine ⟨w.heap.size,cap,_,hcv,hge,Nat.le_refl _,fun j hj=>?_,fun j hj=>?_,((Below.refl _ w).drew).alloc (Nat.le_refl _) _⟩
 ·have hd:j<s.data.size:=hj
  have hg:(bytesRow s cap)[j]? = some (.int .u8 (s.get! j).toNat):=by
   have hgs:s.get! j=s.data[j]:=by
    cases s with
    | mk d=>exact getElem!_pos d j hd
   rw [hgs]
   unfold bytesRow
   rw [Array.getElem?_append_left (by simpa using hd),Array.getElem?_map,Array.getElem?_eq_getElem hd]
   rfl
  simp only [World.cell?,hnew]
  exact hg
 ·simp only [World.frozen?,hnew]
  simp
  omega
def FoldAt (s:ByteArray) (g k:Nat) (w:World):Prop:=∀ j,j<s.size→w.cell? ⟨g,j,none⟩=some (.int .u8 (if j<k then foldN (s.get! j).toNat else (s.get! j).toNat:Nat))
theorem fold_step {s:ByteArray} {g k:Nat} {w:World} (h:FoldAt s g k w) (hk:k<s.size) {x:Int} (hx:x=foldN (s.get! k).toNat):FoldAt s g (k+1) (w.setCell ⟨g,k,none⟩ (.int .u8 x)):=by
 intro j hj
 by_cases e:j=k
 ·subst e
  rw [World.cell?_setCell_same _ _ _ (h j hj),if_pos (by omega),hx]
 ·rw [World.cell?_setCell_other _ _ _ _ (by simp;try omega),h j hj]
  by_cases h1:j<k
  ·rw [if_pos h1,if_pos (by omega)]
  ·rw [if_neg h1,if_neg (by omega)]
theorem fold_keep {s:ByteArray} {g k:Nat} {w:World} (h:FoldAt s g k w) (hx:foldN (s.get! k).toNat=(s.get! k).toNat):FoldAt s g (k+1) w:=by
 intro j hj
 rw [h j hj]
 by_cases e:j=k
 ·subst e
  rw [if_neg (by omega),if_pos (by omega),hx]
 ·by_cases h1:j<k
  ·rw [if_pos h1,if_pos (by omega)]
  ·rw [if_neg h1,if_neg (by omega)]
theorem fold_conv {s:ByteArray} {g cap:Nat} {w:World} (h:FoldAt s g s.size w):(convert 49 9 (.slice (some ⟨g,0,none⟩) s.size cap)).run Tryz.prog w=.ok (.string (foldS s)) w:=by
 have:=conv (w:=w) (b:=g) (off:=0) (cap:=cap) (s:=foldS s) (fun j hj=>by
  rw [foldS_size] at hj
  rw [Nat.zero_add,h j hj,if_pos hj,foldS_get s j hj,foldB_nat])
 rw [foldS_size] at this
 exact this
set_option maxRecDepth 1000000 in
theorem fold_any (s:ByteArray) (w:World) (hs:s.size≤1000000000000) :
  Calls Tryz.prog 70 #[.string s] w fun e w'=>e=.returned (.string (foldS s))∧Below w.heap.size w w':=by
 obtain ⟨g,cap,W,hcv,hcap,hg,hcell,hfr,hb⟩:=bytesOf s w
 go_enter Tryz.func70,Tryz.ntmps70
 go_wp2
 clear hcv
 go_loopw [10] (fun i wr=>∃ k:Nat,k≤s.size∧i=.int .i64 k∧FoldAt s g k wr∧(∀ j,j<s.size→wr.frozen? ⟨g,j,none⟩=false)∧Below w.heap.size w wr) (fun i _=>s.size - (intOf i).toNat)
 case atStart=>exact ⟨0,Nat.zero_le _,rfl,fun j hj=>by simpa using hcell j hj,hfr,hb⟩
 case round =>
  clear hcell hfr hb
  obtain ⟨k,hk,rfl,hcell,hfr,hb⟩:=hrel
  by_cases hlt:k<s.size
  ·obtain ⟨c,hc⟩:∃ c:Nat,(s.get! k).toNat=c:=⟨_,rfl⟩
   have ck:wr.cell? ⟨g,k,none⟩=some (.int .u8 c):=by
    have:=hcell k hlt
    rw [if_neg (Nat.lt_irrefl k),hc] at this
    exact this
   have fk:=hfr k hlt
   have h256:c<256:=by rw [← hc];exact (s.get! k).toNat_lt
   have HF:Hid (∀ j,j<s.size→wr.frozen? ⟨g,j,none⟩=false):=hfr
   clear hfr
   by_cases h:65≤c∧c≤90
   ·have HX:Hid (((c:Int)+32)=foldN (s.get! k).toNat):=by
     show _=_
     rw [hc,foldN,if_pos h]
     omega
    obtain ⟨h1,h2⟩:=h
    clear hc
    go_wp2
    go_roundw
    case rel=>exact ⟨k+1,by omega,by go_num,fold_step hcell hlt (by rw [← HX.out];try omega),fun j hj=>by rw [World.frozen?_setCell];exact HF.out j hj,hb.setCell hg _⟩
    case measure=>simp [intOf];omega
   ·have HX:Hid (foldN (s.get! k).toNat=(s.get! k).toNat):=by
     show _=_
     rw [hc,foldN,if_neg h]
    clear hc
    rcases (show c<65∨90<c by omega) with h1 | h1
    all_goals
     clear h
     go_wp2
     go_roundw
     case rel=>exact ⟨k+1,by omega,by go_num,fold_keep hcell HX.out,HF.out,hb⟩
     case measure=>simp [intOf];omega
  ·have hks:k=s.size:=by omega
   rw [hks] at hcell
   have hcv2:=fold_conv (cap:=cap) hcell
   clear hks
   go_wp2
   go_ret
   exact ⟨rfl,hb⟩
set_option maxRecDepth 1000000 in
theorem refFold_any (s:ByteArray) (w:World) (hs:s.size≤1000000000000) :
  Calls Tryz.prog 117 #[.string s] w fun e w'=>e=.returned (.string (foldS s))∧Below w.heap.size w w':=by
 obtain ⟨g,cap,W,hcv,hcap,hg,hcell,hfr,hb⟩:=bytesOf s w
 go_enter Tryz.func117,Tryz.ntmps117
 go_wp2
 clear hcv
 go_loopw [10] (fun i wr=>∃ k:Nat,k≤s.size∧i=.int .i64 k∧FoldAt s g k wr∧(∀ j,j<s.size→wr.frozen? ⟨g,j,none⟩=false)∧Below w.heap.size w wr) (fun i _=>s.size - (intOf i).toNat)
 case atStart=>exact ⟨0,Nat.zero_le _,rfl,fun j hj=>by simpa using hcell j hj,hfr,hb⟩
 case round =>
  clear hcell hfr hb
  obtain ⟨k,hk,rfl,hcell,hfr,hb⟩:=hrel
  by_cases hlt:k<s.size
  ·obtain ⟨c,hc⟩:∃ c:Nat,(s.get! k).toNat=c:=⟨_,rfl⟩
   have ck:wr.cell? ⟨g,k,none⟩=some (.int .u8 c):=by
    have:=hcell k hlt
    rw [if_neg (Nat.lt_irrefl k),hc] at this
    exact this
   have fk:=hfr k hlt
   have h256:c<256:=by rw [← hc];exact (s.get! k).toNat_lt
   have HF:Hid (∀ j,j<s.size→wr.frozen? ⟨g,j,none⟩=false):=hfr
   clear hfr
   by_cases h:65≤c∧c≤90
   ·have HX:Hid (((c:Int)+32)=foldN (s.get! k).toNat):=by
     show _=_
     rw [hc,foldN,if_pos h]
     omega
    obtain ⟨h1,h2⟩:=h
    clear hc
    go_wp2
    go_roundw
    case rel=>exact ⟨k+1,by omega,by go_num,fold_step hcell hlt (by rw [← HX.out];try omega),fun j hj=>by rw [World.frozen?_setCell];exact HF.out j hj,hb.setCell hg _⟩
    case measure=>simp [intOf];omega
   ·have HX:Hid (foldN (s.get! k).toNat=(s.get! k).toNat):=by
     show _=_
     rw [hc,foldN,if_neg h]
    clear hc
    rcases (show c<65∨90<c by omega) with h1 | h1
    all_goals
     clear h
     go_wp2
     go_roundw
     case rel=>exact ⟨k+1,by omega,by go_num,fold_keep hcell HX.out,HF.out,hb⟩
     case measure=>simp [intOf];omega
  ·have hks:k=s.size:=by omega
   rw [hks] at hcell
   have hcv2:=fold_conv (cap:=cap) hcell
   clear hks
   go_wp2
   go_ret
   exact ⟨rfl,hb⟩
end Go.Proofs.YtemlnblifkdenaaGreatDoor.Y
