/- Characters in bytes are those characters again; ends of lines are made alike once. -/
import Derived.Test.YtemlnblifkdenaaGreatDoorBytes
import Derived.Lib.DecodeN
import Derived.Test.YtemlnblifkdenaaGreatDoorArgs
set_option maxRecDepth 100000
set_option maxHeartbeats 8000000
namespace Go.Proofs.YtemlnblifkdenaaGreatDoor
open Go.RowKit
def IsChar (c:Int):Prop:=0≤c∧c≤1114111∧¬ (55296≤c∧c≤57343)
theorem str_get {l:List Int} (hl:∀ n∈l,0≤n∧n<256) (j:Nat):((strOfNums l).get! j).toNat=(l.getD j 0).toNat:=by
 by_cases hj:j<l.length
 ·have hm:l.getD j 0∈l:=by simp [List.getD,hj]
  have hb:=hl _ hm
  have e:(strOfNums l).get! j=UInt8.ofNat (l.getD j 0).toNat:=by
   show (l.map fun n=>UInt8.ofNat n.toNat).toArray[j]! = _
   rw [getElem!_pos _ j (by simpa using hj)]
   simp [List.getD,hj]
  rw [e]
  simp only [UInt8.toNat_ofNat']
  omega
 ·have e:(strOfNums l).get! j=default:=by
   show (l.map fun n=>UInt8.ofNat n.toNat).toArray[j]! = _
   exact getElem!_neg _ j (by simpa using hj)
  rw [e]
  simp [List.getD,List.getElem?_eq_none (Nat.le_of_not_lt hj)]
  rfl
theorem bytesZ_byte (xs:List Int):∀ n∈bytesZ xs,0≤n∧n<256:=by
 intro n hn
 obtain ⟨x,_,hx⟩:=List.mem_flatMap.1 hn
 exact Lib.encodeRuneZ_byte x n hx
theorem bytesZ_cons (x:Int) (r:List Int):bytesZ (x::r)=Lib.encodeRuneZ x++bytesZ r:=by simp [bytesZ]
theorem dec_char (s:ByteArray) (pos:Nat):IsChar ((Utf8.decode s pos).1:Int):=by
 have hb:∀ k,(s.get! (pos+k)).toNat<256:=fun k=>(s.get! (pos+k)).toNat_lt
 have h0:=hb 0;have h1:=hb 1;have h2:=hb 2;have h3:=hb 3
 rw [Lib.decode_at]
 rw [Nat.add_zero] at h0
 generalize (s.get! pos).toNat=b0 at *
 generalize (s.get! (pos+1)).toNat=b1 at *
 generalize (s.get! (pos+2)).toNat=b2 at *
 generalize (s.get! (pos+3)).toNat=b3 at *
 unfold Lib.decodeN IsChar
 repeat' split
 all_goals (simp only;omega)
theorem chars_char (s:ByteArray):∀ (f pos:Nat),∀ c∈charsFrom s f pos,IsChar c
 | 0,_=>by simp [charsFrom]
 | f+1,pos=>by
   intro c hc
   unfold charsFrom at hc
   split at hc
   ·rcases List.mem_cons.1 hc with rfl | h
    ·exact dec_char s pos
    ·exact chars_char s f _ c h
   ·simp at hc
def Told (c:Int):Prop:=IsChar c∧c≠13∧c≠12∧c≠0
theorem settled_told {c:Int} (h:IsChar c):Told (settledZ c):=by
 unfold settledZ Told IsChar at *
 split
 ·omega
 ·split
  ·omega
  ·omega
theorem norm_told:∀ (l:List Int) (last:Int),(∀ c∈l,IsChar c)→∀ c∈normZ last l,Told c
 | [],_,_=>by simp [normZ]
 | x::r,last,h=>by
   intro c hc
   have ih:=norm_told r x (fun c hc=>h c (by simp [hc]))
   unfold normZ at hc
   split at hc
   ·exact ih c hc
   ·rcases List.mem_cons.1 hc with rfl | h'
    ·exact settled_told (h x (by simp))
    ·exact ih c h'
theorem runes_told (s:ByteArray):∀ c∈runesZ s,Told c:=norm_told _ _ (chars_char s _ _)
end Go.Proofs.YtemlnblifkdenaaGreatDoor
