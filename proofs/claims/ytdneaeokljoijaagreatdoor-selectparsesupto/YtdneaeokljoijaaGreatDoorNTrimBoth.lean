/- Blanks may be left out at the left end first, or at the right. -/
import Derived.Test.YtdneaeokljoijaaGreatDoorLMo
import Derived.Test.YtdneaeokljoijaaGreatDoorNFoldN
set_option maxRecDepth 100000
set_option maxHeartbeats 8000000
namespace Go.Proofs.YtdneaeokljoijaaGreatDoor.N
open Go.RowKit
def digB (l:List Int):Bool:=l.all digitZ
theorem digB_iff (l:List Int):digB l=true ↔ Dig l:=by
 unfold digB Dig digitZ
 simp
def sgnB (s:ByteArray):Bool:=decide (0<s.size) && ((s.get! 0).toNat == 43 || (s.get! 0).toNat == 45)
def negB (s:ByteArray):Bool:=decide (0<s.size) && (s.get! 0).toNat == 45
def bodyS (s:ByteArray):ByteArray:=if sgnB s then s.extract 1 s.size else s
def negZ (b:Bool) (n:Int):Int:=if b then -n else n
def intV (bl:Bool) (ds:List Int):Int×Bool:=if ds≠[]∧digB ds=true then (negZ bl (satL ds),true) else (0,false)
theorem ret2_v {v:Int×Bool} {a:Int} {b:Bool} (h:v=(a,b)):Ending.returned (.tuple #[.int .i64 a,.bool b])=.returned (.tuple #[.int .i64 v.1,.bool v.2]):=by rw [h]
theorem whole_plain (s:ByteArray) (hs:s.size≤1000000000000) (h0:0<s.size) (h45:(s[0]'h0).toNat≠45) (h43:(s[0]'h0).toNat≠43) (w:World) :
  Calls Tryz.prog 123 #[.string s] w fun e w'=>e=.returned (.tuple #[.int .i64 (intV false (bytesL s)).1,.bool (intV false (bytesL s)).2])∧w=w':=by
 have e1:(((s[0]'h0).toNat:Int) == 45)=false:=by simp;omega
 have e2:(((s[0]'h0).toNat:Int) == 43)=false:=by simp;omega
 have HSZ:=hid_mk (bytesL_size s)
 have HGT:=hid_mk (fun p hp=>byte_at s p hp)
 have HNE:Hid (bytesL s≠[]):=by
  intro e
  have:=bytesL_size s
  rw [e] at this
  simp at this
  omega
 clear h45 h43
 generalize bytesL s=ds at *
 go_enter Tryz.func123,Tryz.ntmps123
 go_wp2
 go_loop [5,6] (fun a5 a6=>∃ k:Nat,a6=.int .i64 k∧a5=.int .i64 (satL (ds.take k))∧k≤ds.length∧Dig (ds.take k)) (fun _ a6=>ds.length+1 - (intOf a6).toNat)
 case atStart=>exact ⟨0,rfl,rfl,Nat.zero_le _,fun c hc=>by simp at hc⟩
 case round =>
  obtain ⟨k,rfl,rfl,hk,hdig⟩:=hrel
  have hsb:=satL_bd (ds.take k) hdig
  have HDG:=hid_mk hdig
  clear hdig
  by_cases hlt:k<ds.length
  ·have hps:k<s.size:=by rw [← HSZ.out];exact hlt
   have HGB:=hid_mk (HGT.out k hps)
   have HTK:Hid (ds.take (k+1)=ds.take k++[ds.getD k 0]):=by
    show _=_
    rw [List.take_add_one]
    simp [List.getD,hlt]
   have HMEM:Hid (ds.getD k 0∈ds):=by
    show _∈_
    simp [List.getD,hlt]
   have hb8:=(s[k]'hps).toNat_lt
   have HNO:Hid (¬ (48≤ds.getD k 0∧ds.getD k 0≤57)→intV false ds=(0,false)):=by
    intro hnd
    unfold intV
    rw [if_neg]
    rintro ⟨_,hd⟩
    exact hnd ((digB_iff ds).1 hd _ HMEM.out)
   by_cases hc1:48≤(s[k]'hps).toNat
   ·by_cases hc2:(s[k]'hps).toNat≤57
    ·have HS:Hid (satL (ds.take (k+1))=satZ (satL (ds.take k)) (ds.getD k 0)):=by
      show satL (ds.take (k+1))=_
      rw [HTK.out,satL_snoc]
     have HD2:Hid (Dig (ds.take (k+1))):=by
      show Dig _
      rw [HTK.out]
      intro c hc
      rcases List.mem_append.1 hc with hc | hc
      ·exact HDG.out c hc
      ·rw [List.mem_singleton.1 hc,HGB.out]
       omega
     have HV:Hid (satL (ds.take (k+1))=if 1000000<10 * satL (ds.take k)+(((s[k]'hps).toNat:Int) - 48) then 1000000 else 10 * satL (ds.take k)+(((s[k]'hps).toNat:Int) - 48)):=by
      show _=_
      rw [HS.out,HGB.out]
      unfold satZ
      rw [Int.mul_comm 10]
     clear HNO HGB HTK
     generalize satL (ds.take k)=sn at *
     by_cases hbg:1000000<10 * sn+(((s[k]'hps).toNat:Int) - 48)
     ·have HV2:Hid (satL (ds.take (k+1))=1000000):=by
       show _=_
       rw [HV.out,if_pos hbg]
      go_wp2
      go_round
      case rel=>exact ⟨k+1,by go_num,congrArg (Value.int .i64) HV2.out.symm,by omega,HD2.out⟩
      case measure=>simp [intOf];omega
     ·have HV2:Hid (satL (ds.take (k+1))=10 * sn+(((s[k]'hps).toNat:Int) - 48)):=by
       show _=_
       rw [HV.out,if_neg hbg]
      go_wp2
      go_round
      case rel=>exact ⟨k+1,by go_num,congrArg (Value.int .i64) HV2.out.symm,by omega,HD2.out⟩
      case measure=>simp [intOf];omega
    ·have HN2:Hid (intV false ds=(0,false)):=HNO.out (by rw [HGB.out];omega)
     generalize satL (ds.take k)=sn at *
     clear HNO HGB HTK
     go_wp2
     go_ret2
     exact ⟨ret2_v HN2.out,rfl⟩
   ·have HN2:Hid (intV false ds=(0,false)):=HNO.out (by rw [HGB.out];omega)
    generalize satL (ds.take k)=sn at *
    clear HNO HGB HTK
    go_wp2
    go_ret2
    exact ⟨ret2_v HN2.out,rfl⟩
  ·have hps:¬ k<s.size:=by rw [← HSZ.out];exact hlt
   have HE:Hid (ds.take k=ds):=by show ds.take k=ds;exact List.take_of_length_le (by omega)
   have HDD:Hid (intV false ds=(negZ false (satL ds),true)):=by
    show _=_
    unfold intV
    have h1:=HDG.out
    rw [HE.out] at h1
    rw [if_pos ⟨HNE.out,(digB_iff ds).2 h1⟩]
   generalize hsn:satL (ds.take k)=sn at *
   have HSN:Hid (satL ds=sn):=by show satL ds=sn;rw [← hsn,HE.out]
   clear hsn
   go_wp2
   go_ret2
   exact ⟨ret2_v (by rw [HDD.out,HSN.out];rfl),rfl⟩
theorem whole_minus (s:ByteArray) (hs:s.size≤1000000000000) (h0:0<s.size) (hc:(s[0]'h0).toNat=45) (h1:1<s.size) (w:World) :
  Calls Tryz.prog 123 #[.string s] w fun e w'=>e=.returned (.tuple #[.int .i64 (intV true (bytesL (s.extract 1 s.size))).1,.bool (intV true (bytesL (s.extract 1 s.size))).2])∧w=w':=by
 have e1:(((s[0]'h0).toNat:Int) == 45)=true:=by rw [hc];rfl
 have e2:(((s[0]'h0).toNat:Int) == 43)=false:=by rw [hc];rfl
 have hts:(s.extract 1 s.size).size=s.size - 1:=by simp
 have HSZ:=hid_mk (bytesL_size (s.extract 1 s.size))
 have HGT:=hid_mk (fun p hp=>byte_at (s.extract 1 s.size) p hp)
 have HNE:Hid (bytesL (s.extract 1 s.size)≠[]):=by
  intro e
  have:=bytesL_size (s.extract 1 s.size)
  rw [e] at this
  simp at this
  omega
 generalize bytesL (s.extract 1 s.size)=ds at *
 clear hc
 go_enter Tryz.func123,Tryz.ntmps123
 go_wp2
 generalize s.extract 1 s.size=t at *
 have htp:0<t.size:=by omega
 have htb:t.size≤1000000000000:=by omega
 clear hts
 go_loop [5,6] (fun a5 a6=>∃ k:Nat,a6=.int .i64 k∧a5=.int .i64 (satL (ds.take k))∧k≤ds.length∧Dig (ds.take k)) (fun _ a6=>ds.length+1 - (intOf a6).toNat)
 case atStart=>exact ⟨0,rfl,rfl,Nat.zero_le _,fun c hc=>by simp at hc⟩
 case round =>
  obtain ⟨k,rfl,rfl,hk,hdig⟩:=hrel
  have hsb:=satL_bd (ds.take k) hdig
  have HDG:=hid_mk hdig
  clear hdig
  by_cases hlt:k<ds.length
  ·have hps:k<t.size:=by rw [← HSZ.out];exact hlt
   have HGB:=hid_mk (HGT.out k hps)
   have HTK:Hid (ds.take (k+1)=ds.take k++[ds.getD k 0]):=by
    show _=_
    rw [List.take_add_one]
    simp [List.getD,hlt]
   have HMEM:Hid (ds.getD k 0∈ds):=by
    show _∈_
    simp [List.getD,hlt]
   have hb8:=(t[k]'hps).toNat_lt
   have HNO:Hid (¬ (48≤ds.getD k 0∧ds.getD k 0≤57)→intV true ds=(0,false)):=by
    intro hnd
    unfold intV
    rw [if_neg]
    rintro ⟨_,hd⟩
    exact hnd ((digB_iff ds).1 hd _ HMEM.out)
   by_cases hc1:48≤(t[k]'hps).toNat
   ·by_cases hc2:(t[k]'hps).toNat≤57
    ·have HS:Hid (satL (ds.take (k+1))=satZ (satL (ds.take k)) (ds.getD k 0)):=by
      show satL (ds.take (k+1))=_
      rw [HTK.out,satL_snoc]
     have HD2:Hid (Dig (ds.take (k+1))):=by
      show Dig _
      rw [HTK.out]
      intro c hc
      rcases List.mem_append.1 hc with hc | hc
      ·exact HDG.out c hc
      ·rw [List.mem_singleton.1 hc,HGB.out]
       omega
     have HV:Hid (satL (ds.take (k+1))=if 1000000<10 * satL (ds.take k)+(((t[k]'hps).toNat:Int) - 48) then 1000000 else 10 * satL (ds.take k)+(((t[k]'hps).toNat:Int) - 48)):=by
      show _=_
      rw [HS.out,HGB.out]
      unfold satZ
      rw [Int.mul_comm 10]
     clear HNO HGB HTK
     generalize satL (ds.take k)=sn at *
     by_cases hbg:1000000<10 * sn+(((t[k]'hps).toNat:Int) - 48)
     ·have HV2:Hid (satL (ds.take (k+1))=1000000):=by
       show _=_
       rw [HV.out,if_pos hbg]
      go_wp2
      go_round
      case rel=>exact ⟨k+1,by go_num,congrArg (Value.int .i64) HV2.out.symm,by omega,HD2.out⟩
      case measure=>simp [intOf];omega
     ·have HV2:Hid (satL (ds.take (k+1))=10 * sn+(((t[k]'hps).toNat:Int) - 48)):=by
       show _=_
       rw [HV.out,if_neg hbg]
      go_wp2
      go_round
      case rel=>exact ⟨k+1,by go_num,congrArg (Value.int .i64) HV2.out.symm,by omega,HD2.out⟩
      case measure=>simp [intOf];omega
    ·have HN2:Hid (intV true ds=(0,false)):=HNO.out (by rw [HGB.out];omega)
     generalize satL (ds.take k)=sn at *
     clear HNO HGB HTK
     go_wp2
     go_ret2
     exact ⟨ret2_v HN2.out,rfl⟩
   ·have HN2:Hid (intV true ds=(0,false)):=HNO.out (by rw [HGB.out];omega)
    generalize satL (ds.take k)=sn at *
    clear HNO HGB HTK
    go_wp2
    go_ret2
    exact ⟨ret2_v HN2.out,rfl⟩
  ·have hps:¬ k<t.size:=by rw [← HSZ.out];exact hlt
   have HE:Hid (ds.take k=ds):=by show ds.take k=ds;exact List.take_of_length_le (by omega)
   have HDD:Hid (intV true ds=(negZ true (satL ds),true)):=by
    show _=_
    unfold intV
    have h1:=HDG.out
    rw [HE.out] at h1
    rw [if_pos ⟨HNE.out,(digB_iff ds).2 h1⟩]
   generalize hsn:satL (ds.take k)=sn at *
   have HSN:Hid (satL ds=sn):=by show satL ds=sn;rw [← hsn,HE.out]
   clear hsn
   go_wp2
   go_ret2
   exact ⟨ret2_v (by rw [HDD.out,HSN.out];rfl),rfl⟩
theorem whole_minus0 (s:ByteArray) (h0:0<s.size) (hc:(s[0]'h0).toNat=45) (h1:s.size=1) (w:World) :
  Calls Tryz.prog 123 #[.string s] w fun e w'=>e=.returned (.tuple #[.int .i64 0,.bool false])∧w=w':=by
 have e1:(((s[0]'h0).toNat:Int) == 45)=true:=by rw [hc];rfl
 have e2:(((s[0]'h0).toNat:Int) == 43)=false:=by rw [hc];rfl
 have ht:s.extract 1 s.size=⟨#[]⟩:=empty_of (by simp [h1])
 clear hc
 go_enter Tryz.func123,Tryz.ntmps123
 go_wp2
 first | rw [ht] | skip
 go_loop [5,6] (fun a5 a6=>a5=.int .i64 0∧a6=.int .i64 0) (fun _ _=>0)
 case atStart=>exact ⟨rfl,rfl⟩
 case round =>
  obtain ⟨rfl,rfl⟩:=hrel
  go_wp2
  go_ret2
  exact ⟨rfl,rfl⟩
theorem whole_plus (s:ByteArray) (hs:s.size≤1000000000000) (h0:0<s.size) (hc:(s[0]'h0).toNat=43) (h1:1<s.size) (w:World) :
  Calls Tryz.prog 123 #[.string s] w fun e w'=>e=.returned (.tuple #[.int .i64 (intV false (bytesL (s.extract 1 s.size))).1,.bool (intV false (bytesL (s.extract 1 s.size))).2])∧w=w':=by
 have e1:(((s[0]'h0).toNat:Int) == 45)=false:=by rw [hc];rfl
 have e2:(((s[0]'h0).toNat:Int) == 43)=true:=by rw [hc];rfl
 have hts:(s.extract 1 s.size).size=s.size - 1:=by simp
 have HSZ:=hid_mk (bytesL_size (s.extract 1 s.size))
 have HGT:=hid_mk (fun p hp=>byte_at (s.extract 1 s.size) p hp)
 have HNE:Hid (bytesL (s.extract 1 s.size)≠[]):=by
  intro e
  have:=bytesL_size (s.extract 1 s.size)
  rw [e] at this
  simp at this
  omega
 generalize bytesL (s.extract 1 s.size)=ds at *
 clear hc
 go_enter Tryz.func123,Tryz.ntmps123
 go_wp2
 generalize s.extract 1 s.size=t at *
 have htp:0<t.size:=by omega
 have htb:t.size≤1000000000000:=by omega
 clear hts
 go_loop [5,6] (fun a5 a6=>∃ k:Nat,a6=.int .i64 k∧a5=.int .i64 (satL (ds.take k))∧k≤ds.length∧Dig (ds.take k)) (fun _ a6=>ds.length+1 - (intOf a6).toNat)
 case atStart=>exact ⟨0,rfl,rfl,Nat.zero_le _,fun c hc=>by simp at hc⟩
 case round =>
  obtain ⟨k,rfl,rfl,hk,hdig⟩:=hrel
  have hsb:=satL_bd (ds.take k) hdig
  have HDG:=hid_mk hdig
  clear hdig
  by_cases hlt:k<ds.length
  ·have hps:k<t.size:=by rw [← HSZ.out];exact hlt
   have HGB:=hid_mk (HGT.out k hps)
   have HTK:Hid (ds.take (k+1)=ds.take k++[ds.getD k 0]):=by
    show _=_
    rw [List.take_add_one]
    simp [List.getD,hlt]
   have HMEM:Hid (ds.getD k 0∈ds):=by
    show _∈_
    simp [List.getD,hlt]
   have hb8:=(t[k]'hps).toNat_lt
   have HNO:Hid (¬ (48≤ds.getD k 0∧ds.getD k 0≤57)→intV false ds=(0,false)):=by
    intro hnd
    unfold intV
    rw [if_neg]
    rintro ⟨_,hd⟩
    exact hnd ((digB_iff ds).1 hd _ HMEM.out)
   by_cases hc1:48≤(t[k]'hps).toNat
   ·by_cases hc2:(t[k]'hps).toNat≤57
    ·have HS:Hid (satL (ds.take (k+1))=satZ (satL (ds.take k)) (ds.getD k 0)):=by
      show satL (ds.take (k+1))=_
      rw [HTK.out,satL_snoc]
     have HD2:Hid (Dig (ds.take (k+1))):=by
      show Dig _
      rw [HTK.out]
      intro c hc
      rcases List.mem_append.1 hc with hc | hc
      ·exact HDG.out c hc
      ·rw [List.mem_singleton.1 hc,HGB.out]
       omega
     have HV:Hid (satL (ds.take (k+1))=if 1000000<10 * satL (ds.take k)+(((t[k]'hps).toNat:Int) - 48) then 1000000 else 10 * satL (ds.take k)+(((t[k]'hps).toNat:Int) - 48)):=by
      show _=_
      rw [HS.out,HGB.out]
      unfold satZ
      rw [Int.mul_comm 10]
     clear HNO HGB HTK
     generalize satL (ds.take k)=sn at *
     by_cases hbg:1000000<10 * sn+(((t[k]'hps).toNat:Int) - 48)
     ·have HV2:Hid (satL (ds.take (k+1))=1000000):=by
       show _=_
       rw [HV.out,if_pos hbg]
      go_wp2
      go_round
      case rel=>exact ⟨k+1,by go_num,congrArg (Value.int .i64) HV2.out.symm,by omega,HD2.out⟩
      case measure=>simp [intOf];omega
     ·have HV2:Hid (satL (ds.take (k+1))=10 * sn+(((t[k]'hps).toNat:Int) - 48)):=by
       show _=_
       rw [HV.out,if_neg hbg]
      go_wp2
      go_round
      case rel=>exact ⟨k+1,by go_num,congrArg (Value.int .i64) HV2.out.symm,by omega,HD2.out⟩
      case measure=>simp [intOf];omega
    ·have HN2:Hid (intV false ds=(0,false)):=HNO.out (by rw [HGB.out];omega)
     generalize satL (ds.take k)=sn at *
     clear HNO HGB HTK
     go_wp2
     go_ret2
     exact ⟨ret2_v HN2.out,rfl⟩
   ·have HN2:Hid (intV false ds=(0,false)):=HNO.out (by rw [HGB.out];omega)
    generalize satL (ds.take k)=sn at *
    clear HNO HGB HTK
    go_wp2
    go_ret2
    exact ⟨ret2_v HN2.out,rfl⟩
  ·have hps:¬ k<t.size:=by rw [← HSZ.out];exact hlt
   have HE:Hid (ds.take k=ds):=by show ds.take k=ds;exact List.take_of_length_le (by omega)
   have HDD:Hid (intV false ds=(negZ false (satL ds),true)):=by
    show _=_
    unfold intV
    have h1:=HDG.out
    rw [HE.out] at h1
    rw [if_pos ⟨HNE.out,(digB_iff ds).2 h1⟩]
   generalize hsn:satL (ds.take k)=sn at *
   have HSN:Hid (satL ds=sn):=by show satL ds=sn;rw [← hsn,HE.out]
   clear hsn
   go_wp2
   go_ret2
   exact ⟨ret2_v (by rw [HDD.out,HSN.out];rfl),rfl⟩
theorem whole_plus0 (s:ByteArray) (h0:0<s.size) (hc:(s[0]'h0).toNat=43) (h1:s.size=1) (w:World) :
  Calls Tryz.prog 123 #[.string s] w fun e w'=>e=.returned (.tuple #[.int .i64 0,.bool false])∧w=w':=by
 have e1:(((s[0]'h0).toNat:Int) == 45)=false:=by rw [hc];rfl
 have e2:(((s[0]'h0).toNat:Int) == 43)=true:=by rw [hc];rfl
 have ht:s.extract 1 s.size=⟨#[]⟩:=empty_of (by simp [h1])
 clear hc
 go_enter Tryz.func123,Tryz.ntmps123
 go_wp2
 first | rw [ht] | skip
 go_loop [5,6] (fun a5 a6=>a5=.int .i64 0∧a6=.int .i64 0) (fun _ _=>0)
 case atStart=>exact ⟨rfl,rfl⟩
 case round =>
  obtain ⟨rfl,rfl⟩:=hrel
  go_wp2
  go_ret2
  exact ⟨rfl,rfl⟩
theorem whole_empty (w:World):Calls Tryz.prog 123 #[.string ⟨#[]⟩] w fun e w'=>e=.returned (.tuple #[.int .i64 0,.bool false])∧w=w':=by
 go_enter Tryz.func123,Tryz.ntmps123
 go_wp2
 go_loop [5,6] (fun a5 a6=>a5=.int .i64 0∧a6=.int .i64 0) (fun _ _=>0)
 case atStart=>exact ⟨rfl,rfl⟩
 case round =>
  obtain ⟨rfl,rfl⟩:=hrel
  go_wp2
  go_ret2
  exact ⟨rfl,rfl⟩
theorem whole_any (s:ByteArray) (hs:s.size≤1000000000000) (w:World) :
  Calls Tryz.prog 123 #[.string s] w fun e w'=>e=.returned (.tuple #[.int .i64 (intV (negB s) (bytesL (bodyS s))).1,.bool (intV (negB s) (bytesL (bodyS s))).2])∧w=w':=by
 by_cases h0:0<s.size
 ·have hg:=get_at s h0
  have es:sgnB s=((s[0]'h0).toNat == 43 || (s[0]'h0).toNat == 45):=by unfold sgnB;rw [hg];simp [h0]
  have en:negB s=((s[0]'h0).toNat == 45):=by unfold negB;rw [hg];simp [h0]
  have hnil:∀ bl,intV bl (bytesL ⟨#[]⟩)=(0,false):=by
   intro bl
   unfold intV
   rw [if_neg]
   rintro ⟨h,_⟩
   exact h rfl
  by_cases h43:(s[0]'h0).toNat=43
  ·have hb:bodyS s=s.extract 1 s.size:=by unfold bodyS;rw [es,h43];rfl
   have hn:negB s=false:=by rw [en,h43];rfl
   rw [hb,hn]
   by_cases h1:1<s.size
   ·exact whole_plus s hs h0 h43 h1 w
   ·rw [empty_of (show (s.extract 1 s.size).size=0 by simp;omega),hnil]
    exact whole_plus0 s h0 h43 (by omega) w
  ·by_cases h45:(s[0]'h0).toNat=45
   ·have hb:bodyS s=s.extract 1 s.size:=by unfold bodyS;rw [es,h45];rfl
    have hn:negB s=true:=by rw [en,h45];rfl
    rw [hb,hn]
    by_cases h1:1<s.size
    ·exact whole_minus s hs h0 h45 h1 w
    ·rw [empty_of (show (s.extract 1 s.size).size=0 by simp;omega),hnil]
     exact whole_minus0 s h0 h45 (by omega) w
   ·have hb:bodyS s=s:=by unfold bodyS;rw [es];simp [h43,h45]
    have hn:negB s=false:=by rw [en];simp [h45]
    rw [hb,hn]
    exact whole_plain s hs h0 h45 h43 w
 ·have e:=empty_of (show s.size=0 by omega)
  subst e
  exact whole_empty w
theorem blank_any (s:ByteArray) (w:World):Calls Tryz.prog 124 #[.string s] w fun e w'=>e=.returned (.string (trimZ s))∧w=w':=by
 by_cases h0:0<s.size
 ·by_cases h32:(s[0]'h0).toNat=32
  ·have HS:Hid (trimZ s=s.extract 1 s.size):=by
    show _=_
    unfold trimZ
    rw [dif_pos h0,if_pos h32]
   have z1:(((s[0]'h0).toNat:Int) == 32)=true:=by rw [h32];rfl
   clear h32
   go_enter Tryz.func124,Tryz.ntmps124
   go_wp2
   go_ret
   exact ⟨congrArg (fun s=>Ending.returned (.string s)) HS.out.symm,rfl⟩
  ·have HS:Hid (trimZ s=s):=by
    show _=_
    unfold trimZ
    rw [dif_pos h0,if_neg h32]
   have z1:(((s[0]'h0).toNat:Int) == 32)=false:=by simp;omega
   clear h32
   go_enter Tryz.func124,Tryz.ntmps124
   go_wp2
   go_ret
   exact ⟨congrArg (fun s=>Ending.returned (.string s)) HS.out.symm,rfl⟩
 ·have e0:=empty_of (show s.size=0 by omega)
  subst e0
  go_enter Tryz.func124,Tryz.ntmps124
  go_wp2
  go_ret
  exact ⟨rfl,rfl⟩
theorem bytesL_ext {a b:ByteArray} (h:bytesL a=bytesL b):a=b:=by rw [← bytesL_str a,← bytesL_str b,h]
theorem bytesL_extract (s:ByteArray) (i j:Nat):bytesL (s.extract i j)=((bytesL s).drop i).take (j - i):=by
 unfold bytesL
 rw [ByteArray.data_extract,Array.toList_extract,List.extract_eq_take_drop,← List.map_drop,← List.map_take]
theorem bytesL_tail (s:ByteArray) (i:Nat):bytesL (s.extract i s.size)=(bytesL s).drop i:=by
 rw [bytesL_extract,List.take_of_length_le]
 rw [List.length_drop,bytesL_size]
 exact Nat.le_refl _
theorem bytesL_append (a b:ByteArray):bytesL (a++b)=bytesL a++bytesL b:=by
 unfold bytesL
 rw [ByteArray.data_append,Array.toList_append,List.map_append]
theorem size_0 {s:ByteArray}:s.size=0 ↔ bytesL s=[]:=by
 rw [← bytesL_size]
 exact List.length_eq_zero_iff
theorem head_is {s:ByteArray} {c:Int} {r:List Int} (h:bytesL s=c::r):∃ h0:0<s.size,((s[0]'h0).toNat:Int)=c:=by
 have hs:0<s.size:=by rw [← bytesL_size,h];simp
 refine ⟨hs,?_⟩
 rw [← byte_at s 0 hs,h]
 rfl
def sgnL:List Int→List Int×List Int
 | []=>([],[])
 | c::r=>if c=43∨c=45 then ([c],r) else ([],c::r)
def trimL:List Int→List Int
 | []=>[]
 | c::r=>if c=32 then r else c::r
theorem sgnL_cons (c:Int) (r:List Int):sgnL (c::r)=if c=43∨c=45 then ([c],r) else ([],c::r):=rfl
theorem trimL_cons (c:Int) (r:List Int):trimL (c::r)=if c=32 then r else c::r:=rfl
def dirL (sg:List Int):Int:=if sg=[45] then -1 else 1
theorem sgn_list (s:ByteArray):bytesL (sgnZ s).1=(sgnL (bytesL s)).1∧bytesL (sgnZ s).2=(sgnL (bytesL s)).2:=by
 cases h:bytesL s with
 | nil =>
   have e:=empty_of (size_0.2 h)
   subst e
   exact ⟨rfl,rfl⟩
 | cons c r =>
   obtain ⟨h0,hc⟩:=head_is h
   have ht:=bytesL_tail s 1
   rw [h] at ht
   unfold sgnZ
   rw [dif_pos h0,sgnL_cons]
   by_cases h1:(s[0]'h0).toNat=43
   ·rw [if_pos h1,if_pos (by omega)]
    exact ⟨by have:c=43:=by omega
              subst this;rfl,ht⟩
   ·rw [if_neg h1]
    by_cases h2:(s[0]'h0).toNat=45
    ·rw [if_pos h2,if_pos (by omega)]
     exact ⟨by have:c=45:=by omega
               subst this;rfl,ht⟩
    ·rw [if_neg h2,if_neg (by omega)]
     exact ⟨rfl,h⟩
theorem trim_list (s:ByteArray):bytesL (trimZ s)=trimL (bytesL s):=by
 cases h:bytesL s with
 | nil =>
   have e:=empty_of (size_0.2 h)
   subst e
   rfl
 | cons c r =>
   obtain ⟨h0,hc⟩:=head_is h
   have ht:=bytesL_tail s 1
   rw [h] at ht
   unfold trimZ
   rw [dif_pos h0,trimL_cons]
   by_cases h1:(s[0]'h0).toNat=32
   ·rw [if_pos h1,if_pos (by omega)]
    exact ht
   ·rw [if_neg h1,if_neg (by omega)]
    exact h
theorem dir_list (sg:ByteArray):dirB sg=dirL (bytesL sg):=by
 unfold dirB dirL
 by_cases h:sg=⟨#[45]⟩
 ·rw [if_pos h,if_pos (by rw [h];rfl)]
 ·rw [if_neg h,if_neg (show ¬ bytesL sg=[45] from fun e=>h (bytesL_ext (b:=⟨#[45]⟩) e))]
def wholeL (l:List Int):Int×Bool:=if (sgnL l).2≠[]∧digB (sgnL l).2=true then (dirL (sgnL l).1 * satL (sgnL l).2,true) else (0,false)
theorem whole_list (s:ByteArray):intV (negB s) (bytesL (bodyS s))=wholeL (bytesL s):=by
 have h1:bytesL (bodyS s)=(sgnL (bytesL s)).2:=by
  unfold bodyS sgnB
  cases h:bytesL s with
  | nil =>
    have e:=empty_of (size_0.2 h)
    subst e
    rfl
  | cons c r =>
    obtain ⟨h0,hc⟩:=head_is h
    have ht:=bytesL_tail s 1
    rw [h] at ht
    have hg:=get_at s h0
    rw [sgnL_cons]
    by_cases hs:c=43∨c=45
    ·rw [if_pos hs,if_pos (by rw [hg];simp [h0];omega)]
     exact ht
    ·rw [if_neg hs,if_neg (by rw [hg];simp [h0];omega)]
     exact h
 have h2:∀ n,negZ (negB s) n=dirL (sgnL (bytesL s)).1 * n:=by
  intro n
  unfold negB negZ
  cases h:bytesL s with
  | nil =>
    have e:=empty_of (size_0.2 h)
    subst e
    show n=1 * n
    omega
  | cons c r =>
    obtain ⟨h0,hc⟩:=head_is h
    have hg:=get_at s h0
    rw [hg,sgnL_cons]
    by_cases h45:c=45
    ·rw [if_pos (by simp [h0];omega),if_pos (show c=43∨c=45 from .inr h45)]
     subst h45
     show -n=-1 * n
     omega
    ·rw [if_neg (by simp [h0];omega)]
     by_cases h43:c=43
     ·rw [if_pos (show c=43∨c=45 from .inl h43)]
      subst h43
      show n=1 * n
      omega
     ·rw [if_neg (show ¬ (c=43∨c=45) by omega)]
      show n=1 * n
      omega
 unfold intV wholeL
 rw [h1]
 split
 ·rw [h2]
 ·rfl
def behindR (l:List Int):Int×Bool :=
 if l=[] then (0,true)
 else if trimL l=[]∨¬ ((trimL l).headD 0=43∨(trimL l).headD 0=45) then (0,false)
 else if trimL ((trimL l).drop 1)=[]∨¬ (48≤(trimL ((trimL l).drop 1)).headD 0∧(trimL ((trimL l).drop 1)).headD 0≤57) then (0,false)
 else wholeL ((trimL l).take 1++trimL ((trimL l).drop 1))
def nAt:List Int→Nat
 | []=>0
 | c::r=>if c=110 then 0 else nAt r+1
def headR (h:List Int):List Int:=if h=[]∨h=[43]∨h=[45] then h++[49] else h
def nextR (l:List Int):Int×Int×Bool :=
 if nAt l=l.length then (0,0,false)
 else if (wholeL (headR (l.take (nAt l)))).2=false then (0,0,false)
 else if (behindR (l.drop (nAt l+1))).2=false then (0,0,false)
 else ((wholeL (headR (l.take (nAt l)))).1,(behindR (l.drop (nAt l+1))).1,true)
def saidL (l:List Int):Int×Int×Bool:=if (wholeL l).2=true then (0,(wholeL l).1,true) else nextR l
theorem digN_all {l:List Int} (h:digB l=true):digN l=l.length:=digN_at l l.length (by rw [List.take_length];exact (digB_iff l).1 h) (Nat.le_refl _) (.inl rfl)
theorem all_digN {l:List Int} (h:digN l=l.length):digB l=true:=by
 have:=dig_take l
 rw [h,List.take_length] at this
 exact (digB_iff l).2 this
theorem behind_list (s:ByteArray):behindZ s=behindR (bytesL s):=by
 have hs:=sgn_list (trimZ s)
 have ht:=trim_list s
 have ht2:=trim_list (sgnZ (trimZ s)).2
 have hz:(trimZ (sgnZ (trimZ s)).2).size=(bytesL (trimZ (sgnZ (trimZ s)).2)).length:=(bytesL_size _).symm
 have he:(sgnZ (trimZ s)).1=⟨#[]⟩ ↔ (sgnL (trimL (bytesL s))).1=[]:=by
  rw [← ht,← hs.1]
  exact ⟨fun h=>by rw [h];rfl,fun h=>empty_of (size_0.2 h)⟩
 unfold behindZ behindR
 rw [dir_list,hs.1,hz,ht2,hs.2,ht]
 by_cases h0:bytesL s=[]
 ·rw [if_pos (size_0.2 h0),if_pos h0]
 rw [if_neg (fun h=>h0 (size_0.1 h)),if_neg h0]
 generalize trimL (bytesL s)=t at *
 cases t with
 | nil =>
   rw [if_pos (.inl (he.2 rfl)),if_pos (.inl rfl)]
 | cons c r =>
   by_cases hc:c=43∨c=45
   ·have e1:sgnL (c::r)=([c],r):=by rw [sgnL_cons,if_pos hc]
    have e3:(c::r).drop 1=r:=rfl
    have e4:(c::r).take 1=[c]:=rfl
    have e5:(c::r).headD 0=c:=rfl
    rw [e1] at he ⊢
    rw [e3,e4,e5]
    simp only
    have hne:¬ (sgnZ (trimZ s)).1=⟨#[]⟩:=fun h=>by simpa using he.1 h
    rw [if_neg (show ¬ ((c::r)=[]∨¬ (c=43∨c=45)) by simp [hc])]
    generalize trimL r=u at *
    have hle:=digN_le u
    have e6:sgnL ([c]++u)=([c],u):=by
     show sgnL (c::u)=_
     rw [sgnL_cons]
     rw [if_pos hc]
    cases u with
    | nil=>rw [if_pos (.inr (.inl rfl)),if_pos (.inl rfl)]
    | cons d v =>
      have e7:(d::v).headD 0=d:=rfl
      rw [e7]
      by_cases hd:48≤d∧d≤57
      ·rw [if_neg (show ¬ ((d::v)=[]∨¬ (48≤d∧d≤57)) by simp [hd])]
       have hp:digN (d::v)≠0:=by
        rw [digN,if_pos (digit_yes hd)]
        omega
       unfold wholeL
       rw [e6]
       simp only
       by_cases hall:digN (d::v)=(d::v).length
       ·rw [if_neg (by rintro (h | h | h) <;> first | exact hne h | exact hp h | omega),if_pos ⟨by simp,all_digN hall⟩,hall,List.take_length]
       ·rw [if_pos (.inr (.inr (by omega))),if_neg (fun h=>hall (digN_all h.2))]
      ·rw [if_pos (show ((d::v)=[]∨¬ (48≤d∧d≤57)) from .inr hd)]
       rw [if_pos]
       refine .inr (.inl ?_)
       rw [digN,if_neg]
       unfold digitZ
       simp
       omega
   ·have e1:sgnL (c::r)=([],c::r):=by rw [sgnL_cons,if_neg hc]
    rw [e1] at he
    rw [if_pos (.inl (he.2 rfl)),if_pos (.inr hc)]
theorem nAt_app:∀ (a:List Int) (c:Int) (r:List Int),(∀ x∈a,x≠110)→nAt (a++c::r)=if c=110 then a.length else a.length+1+nAt r
 | [],c,r,_=>by
   show nAt (c::r)=_
   rw [nAt]
   split
   ·rfl
   ·simp;omega
 | x::a,c,r,h=>by
   show nAt (x::(a++c::r))=_
   rw [nAt,if_neg (h x (by simp)),nAt_app a c r (fun y hy=>h y (by simp [hy]))]
   split <;> simp <;> omega
theorem nAt_none:∀ (a:List Int),(∀ x∈a,x≠110)→nAt a=a.length
 | [],_=>rfl
 | x::a,h=>by
   rw [nAt,if_neg (h x (by simp)),nAt_none a (fun y hy=>h y (by simp [hy]))]
   rfl
theorem sgnL_app (l:List Int):l=(sgnL l).1++(sgnL l).2:=by
 cases l with
 | nil=>rfl
 | cons c r =>
   rw [sgnL_cons]
   split <;> rfl
theorem sgnL_cases (l:List Int):(sgnL l).1=[]∨(sgnL l).1=[43]∨(sgnL l).1=[45]:=by
 cases l with
 | nil=>exact .inl rfl
 | cons c r =>
   rw [sgnL_cons]
   split
   ·rename_i h
    rcases h with rfl | rfl
    ·exact .inr (.inl rfl)
    ·exact .inr (.inr rfl)
   ·exact .inl rfl
theorem sgnL_keep {sg t:List Int} (l:List Int) (h:sgnL l=(sg,t)) (u:List Int) (hu:sg=[]→sgnL u=([],u)):sgnL (sg++u)=(sg,u):=by
 have hc:=sgnL_cases l
 rw [h] at hc
 simp only at hc
 rcases hc with rfl | rfl | rfl
 ·exact hu rfl
 ·rfl
 ·rfl
theorem said_list (l:List Int) (hd:digN (sgnL l).2≤(sgnL l).2.length) :
  (if (sgnL l).2.drop (digN (sgnL l).2)=[] then (0,dirL (sgnL l).1 * satL ((sgnL l).2.take (digN (sgnL l).2)),decide (0<digN (sgnL l).2))
    else if ((sgnL l).2.drop (digN (sgnL l).2)).headD 0≠110 then (0,0,false)
    else if (behindR (((sgnL l).2.drop (digN (sgnL l).2)).drop 1)).2=false then (0,0,false)
    else (dirL (sgnL l).1 * (if decide (0<digN (sgnL l).2) then satL ((sgnL l).2.take (digN (sgnL l).2)) else 1),(behindR (((sgnL l).2.drop (digN (sgnL l).2)).drop 1)).1,true))=saidL l:=by
 have happ:=sgnL_app l
 have hcs:=sgnL_cases l
 have hkeep:=fun u hu=>sgnL_keep (sg:=(sgnL l).1) (t:=(sgnL l).2) l rfl u hu
 have hself:(sgnL l).1=[]→sgnL (sgnL l).2=([],(sgnL l).2):=by
  intro h
  have h2:(sgnL l).2=l:=by
   rw [h] at happ
   exact happ.symm
  rw [h2]
  exact Prod.ext h h2
 have hw:∀ u,((sgnL l).1=[]→sgnL u=([],u))→wholeL ((sgnL l).1++u)=if u≠[]∧digB u=true then (dirL (sgnL l).1 * satL u,true) else (0,false):=by
  intro u hu
  unfold wholeL
  rw [hkeep u hu]
 have hwl:=hw (sgnL l).2 hself
 rw [← happ] at hwl
 have hdt:=dig_take (sgnL l).2
 have htd:=List.take_append_drop (digN (sgnL l).2) (sgnL l).2
 have hsn:∀ x∈(sgnL l).1,x≠110:=by
  rcases hcs with h | h | h <;> rw [h] <;> simp
 have hall:digN (sgnL l).2=(sgnL l).2.length→digB (sgnL l).2=true:=all_digN
 have hall2:digB (sgnL l).2=true→digN (sgnL l).2=(sgnL l).2.length:=digN_all
 have hndig:∀ c r,(sgnL l).2.drop (digN (sgnL l).2)=c::r→¬ (48≤c∧c≤57):=by
  intro c r h hc
  have hlt:digN (sgnL l).2<(sgnL l).2.length:=by
   have:=congrArg List.length h
   rw [List.length_drop,List.length_cons] at this
   omega
  have e:(sgnL l).2.take (digN (sgnL l).2)++c::r=(sgnL l).2:=by rw [← h];exact htd
  have:∀ (a:List Int) (c:Int) (r:List Int),Dig a→48≤c∧c≤57→a.length<digN (a++c::r):=by
   intro a
   induction a with
   | nil =>
     intro c r _ hc
     show 0<digN (c::r)
     rw [digN,if_pos (digit_yes hc)]
     omega
   | cons x a ih =>
     intro c r ha hc
     show a.length+1<digN (x::(a++c::r))
     rw [digN,if_pos (digit_yes (ha x (by simp)))]
     have:=ih c r (fun y hy=>ha y (by simp [hy])) hc
     omega
  have h3:=this _ c r hdt hc
  rw [e,List.length_take] at h3
  omega
 generalize hsg:(sgnL l).1=sg at *
 generalize ht:(sgnL l).2=t at *
 have hdl:(t.take (digN t)).length=digN t:=by rw [List.length_take];omega
 unfold saidL
 cases hr:t.drop (digN t) with
 | nil =>
   rw [if_pos rfl]
   have hlen:digN t=t.length:=by
    have:=congrArg List.length hr
    rw [List.length_drop] at this
    simp at this
    omega
   rw [hlen,List.take_length]
   by_cases h0:t=[]
   ·have hwf:wholeL l=(0,false):=by rw [hwl,if_neg (by simp [h0])]
    rw [hwf,if_neg (show ¬ ((0,false):Int×Bool).2=true by decide)]
    subst h0
    unfold nextR
    have hn:nAt l=l.length:=by
     rw [happ]
     exact nAt_none _ (by simpa using hsn)
    rw [if_pos hn]
    simp [satL]
   ·have hwt:wholeL l=(dirL sg * satL t,true):=by rw [hwl,if_pos ⟨h0,hall hlen⟩]
    rw [hwt,if_pos (show ((dirL sg * satL t,true):Int×Bool).2=true from rfl)]
    have:0<t.length:=by
     cases t with
     | nil=>exact absurd rfl h0
     | cons _ _=>simp
    simp [this]
 | cons c r =>
   rw [if_neg (by simp)]
   have hnd:=hndig c r hr
   have hlt:digN t<t.length:=by
    have:=congrArg List.length hr
    rw [List.length_drop,List.length_cons] at this
    omega
   rw [hr] at htd
   have hwf:(wholeL l).2=false:=by
    rw [hwl,if_neg]
    rintro ⟨_,h⟩
    have:=hall2 h
    omega
   rw [if_neg (show ¬ (wholeL l).2=true by rw [hwf];decide)]
   have hpre:∀ x∈sg++t.take (digN t),x≠110:=by
    intro x hx
    rcases List.mem_append.1 hx with h | h
    ·exact hsn x h
    ·have:=hdt x h
     omega
   have hl2:l=(sg++t.take (digN t))++c::r:=by rw [List.append_assoc,htd];exact happ
   have hn:=nAt_app (sg++t.take (digN t)) c r hpre
   rw [← hl2] at hn
   have e1:(c::r).headD 0=c:=rfl
   have e2:(c::r).drop 1=r:=rfl
   rw [e1,e2]
   unfold nextR
   have hll:l.length=(sg++t.take (digN t)).length+1+r.length:=by
    rw [congrArg List.length hl2,List.length_append,List.length_cons]
    omega
   by_cases hc:c=110
   ·rw [if_neg (by simp [hc])]
    rw [if_pos hc] at hn
    rw [if_neg (show ¬ nAt l=l.length by omega),hn]
    have e3:l.take (sg++t.take (digN t)).length=sg++t.take (digN t):=by
     rw [congrArg (List.take _) hl2,List.take_left']
     rfl
    have e4:l.drop ((sg++t.take (digN t)).length+1)=r:=by
     rw [congrArg (List.drop _) hl2,← List.drop_drop,List.drop_left']
     ·rfl
     ·rfl
    rw [e3,e4]
    have hwh:wholeL (headR (sg++t.take (digN t)))=(dirL sg * (if decide (0<digN t) then satL (t.take (digN t)) else 1),true):=by
     by_cases hz:digN t=0
     ·have e5:t.take (digN t)=[]:=by rw [hz];rfl
      rw [e5,List.append_nil]
      unfold headR
      rw [if_pos (by rcases hcs with h | h | h <;> simp [h])]
      rw [hw [49] (fun _=>rfl),if_pos ⟨by simp,rfl⟩]
      have h49:satL [49]=1:=by decide
      rw [h49,if_neg (by simp [hz])]
     ·have hne:t.take (digN t)≠[]:=by
       intro h
       have:=congrArg List.length h
       rw [hdl] at this
       exact hz this
      have hdg:digB (t.take (digN t))=true:=(digB_iff _).2 hdt
      have hsd:sgnL (t.take (digN t))=([],t.take (digN t)):=by
       cases hx:t.take (digN t) with
       | nil=>exact absurd hx hne
       | cons x y =>
         have:=hdt x (by rw [hx];simp)
         rw [sgnL_cons]
         rw [if_neg (by omega)]
      unfold headR
      rw [if_neg]
      ·rw [hw _ (fun _=>hsd),if_pos ⟨hne,hdg⟩]
       simp [Nat.pos_of_ne_zero hz]
      ·cases hx:t.take (digN t) with
       | nil=>exact absurd hx hne
       | cons x y =>
         have:=hdt x (by rw [hx];simp)
         rcases hcs with h | h | h <;> rw [h] <;> simp <;> omega
    rw [hwh]
    simp only
    rw [if_neg (show ¬ (true=false) by decide)]
   ·rw [if_pos (by simp [hc])]
    rw [if_neg hc] at hn
    by_cases hln:nAt l=l.length
    ·rw [if_pos hln]
    ·rw [if_neg hln,if_pos]
     have e3:l.take (nAt l)=sg++(t.take (digN t)++c::r.take (nAt r)):=by
      rw [hn,congrArg (List.take _) hl2]
      have:(sg++t.take (digN t)).length+1+nAt r=(sg++t.take (digN t)).length+(nAt r+1):=by omega
      rw [this,List.take_length_add_append,List.take_succ_cons,List.append_assoc]
     have hs0:sg=[]→sgnL (t.take (digN t)++c::r.take (nAt r))=([],t.take (digN t)++c::r.take (nAt r)):=by
      intro h
      have:=hself h
      rw [← htd] at this
      cases hx:t.take (digN t) with
      | nil =>
        rw [hx] at this
        have this2:sgnL (c::r)=([],c::r):=this
        show sgnL (c::r.take (nAt r))=([],c::r.take (nAt r))
        rw [sgnL_cons] at this2 ⊢
        by_cases hq:c=43∨c=45
        ·rw [if_pos hq] at this2
         cases this2
        ·rw [if_neg hq]
      | cons x y =>
        have:=hdt x (by rw [hx];simp)
        show sgnL (x::(y++c::r.take (nAt r)))=_
        rw [sgnL_cons]
        rw [if_neg (by omega)]
        rfl
     have hdb:¬ digB (t.take (digN t)++c::r.take (nAt r))=true:=by
      intro h
      exact hnd ((digB_iff _).1 h c (by simp))
     rw [e3]
     unfold headR
     rw [if_neg,hw _ hs0,if_neg (fun h=>hdb h.2)]
     rintro (h | h | h)
     ·simp at h
     ·have hx:=congrArg List.length h
      rcases hcs with hq | hq | hq
      ·have:=hs0 hq
       rw [hq,List.nil_append] at h
       rw [h] at this
       cases this
      ·rw [hq] at hx;simp at hx
      ·rw [hq] at hx;simp at hx
     ·have hx:=congrArg List.length h
      rcases hcs with hq | hq | hq
      ·have:=hs0 hq
       rw [hq,List.nil_append] at h
       rw [h] at this
       cases this
      ·rw [hq] at hx;simp at hx
      ·rw [hq] at hx;simp at hx
theorem cut_said (s:ByteArray):cutT s=saidL (bytesL s):=by
 have hs:=sgn_list s
 rw [← said_list (bytesL s) (digN_le _),← hs.1,← hs.2,← dir_list]
 unfold cutT cutN
 generalize (sgnZ s).2=t at *
 have hr:bytesL (t.extract (digN (bytesL t)) t.size)=(bytesL t).drop (digN (bytesL t)):=bytesL_tail t _
 rw [← hr]
 generalize t.extract (digN (bytesL t)) t.size=rest at *
 by_cases h0:bytesL rest=[]
 ·rw [if_pos (size_0.2 h0),if_pos h0]
 ·rw [if_neg (fun h=>h0 (size_0.1 h)),if_neg h0]
  cases hx:bytesL rest with
  | nil=>exact absurd hx h0
  | cons c r =>
    obtain ⟨g0,hc⟩:=head_is hx
    have ht:=bytesL_tail rest 1
    rw [hx] at ht
    have e1:(c::r).headD 0=c:=rfl
    rw [e1]
    have hn:nB rest=false ↔ c≠110:=by
     unfold nB
     rw [dif_pos g0]
     rw [Bool.eq_false_iff]
     simp
     omega
    by_cases h1:c≠110
    ·rw [if_pos (hn.2 h1),if_pos h1]
    ·rw [if_neg (fun h=>h1 (hn.1 h)),if_neg h1,behind_list,ht]
set_option maxRecDepth 1000000 in
theorem refFold_any (s:ByteArray) (w:World) (hs:s.size≤1000000000000) :
  Calls Tryz.prog 52 #[.string s] w fun e w'=>e=.returned (.string (foldS s))∧Below w.heap.size w w':=by
 obtain ⟨g,cap,W,hcv,hcap,hg,hcell,hfr,hb⟩:=bytesOf s w
 go_enter Tryz.func52,Tryz.ntmps52
 go_wp2
 clear hcv
 go_loopw [10] (fun i wr=>∃ k:Nat,k≤s.size∧i=.int .i64 k∧FoldAt s g k wr∧(∀ j,j<s.size→wr.frozen? ⟨g,j,none⟩=false)∧Below w.heap.size w wr) (fun i _=>s.size - (intOf i).toNat)
 case atStart=>exact ⟨0,Nat.zero_le _,rfl,fun j hj=>by simpa using hcell j hj,hfr,hb⟩
 case round =>
  clear hcell hfr hb
  obtain ⟨k,hk,rfl,hcell,hfr,hb⟩:=hrel
  by_cases hlt:k<s.size
  ·obtain ⟨c,hc⟩:∃ c:Nat,(s.get! k).toNat=c:=⟨_,rfl⟩
   have ck:wr.cell? ⟨g,k,none⟩=some (.int .u8 c):=by
    have:=hcell k hlt
    rw [if_neg (Nat.lt_irrefl k),hc] at this
    exact this
   have fk:=hfr k hlt
   have h256:c<256:=by rw [← hc];exact (s.get! k).toNat_lt
   have HF:Hid (∀ j,j<s.size→wr.frozen? ⟨g,j,none⟩=false):=hfr
   clear hfr
   by_cases h:65≤c∧c≤90
   ·have HX:Hid (((c:Int)+32)=foldN (s.get! k).toNat):=by
     show _=_
     rw [hc,foldN,if_pos h]
     omega
    obtain ⟨h1,h2⟩:=h
    clear hc
    go_wp2
    go_roundw
    case rel=>exact ⟨k+1,by omega,by go_num,fold_step hcell hlt (by rw [← HX.out];try omega),fun j hj=>by rw [World.frozen?_setCell];exact HF.out j hj,hb.setCell hg _⟩
    case measure=>simp [intOf];omega
   ·have HX:Hid (foldN (s.get! k).toNat=(s.get! k).toNat):=by
     show _=_
     rw [hc,foldN,if_neg h]
    clear hc
    rcases (show c<65∨90<c by omega) with h1 | h1
    all_goals
     clear h
     go_wp2
     go_roundw
     case rel=>exact ⟨k+1,by omega,by go_num,fold_keep hcell HX.out,HF.out,hb⟩
     case measure=>simp [intOf];omega
  ·have hks:k=s.size:=by omega
   rw [hks] at hcell
   have hcv2:=fold_conv (cap:=cap) hcell
   clear hks
   go_wp2
   go_ret
   exact ⟨rfl,hb⟩
-- THE WALK
theorem app_app' (s t u:ByteArray):s++t++u=s++(t++u):=by
 apply ByteArray.ext
 simp only [ByteArray.data_append,Array.append_assoc]
theorem plus_str (p:List Int) (tx:ByteArray):strOfNums p++tx=strOfNums (p++bytesL tx):=by rw [nums_two,bytesL_str]
def wrt2 (g:Option (List Int)):ByteArray×Bool:=match g with
 | some p=>(foldS (strOfNums (rightL (leftL p))),true)
 | none=>(⟨#[]⟩,false)
theorem rwritten_any (W:World) (v:Value) (ts:List Tk) (hv:ValsAt W v ts) (hn:ts.length≤100000) (hsz:∀ t∈ts,t.tx.size+t.un.size≤2000000) :
  Calls Tryz.prog 122 #[v] W fun e w'=>e=.returned (.tuple #[.string (wrt2 (gathered ts)).1,.bool (wrt2 (gathered ts)).2])∧Below W.heap.size W w':=by
 have HBY:=hid_mk (gathered_byte ts)
 have HLN:=hid_mk (fun p h=>gathered_len ts p h hsz)
 obtain ⟨a,cap,rfl,hl,hcap,hkid,hc⟩:=hv
 go_enter Tryz.func122,Tryz.ntmps122
 go_wp2
 go_loopw [4,10] (fun a4 a10 wr=>∃ (k:Nat) (part:List Int),a10=.int .i64 k∧a4=.string (strOfNums part)∧k≤ts.length∧gathered (ts.take k)=some part∧part.length≤2000001 * k∧Below W.heap.size W wr) (fun _ a10 _=>ts.length+1 - (intOf a10).toNat)
 case atStart=>exact ⟨0,[],rfl,rfl,Nat.zero_le _,rfl,by simp,Below.refl _ W⟩
 case round =>
  obtain ⟨k,part,rfl,rfl,hk,hg,hpl,hbr⟩:=hrel
  have HG:=hid_mk hg
  clear hg
  have hps:(strOfNums part).size≤1000000000000:=by rw [strOf_size];omega
  by_cases hlt:k<ts.length
  ·obtain ⟨b,off,rfl,hbw,hcell⟩:=hc (by omega)
   have hcc:∀ j y,(tkCells (ts[k]'hlt))[j]? = some y→wr.cell? ⟨b,off+k * 6+j,none⟩=some y:=fun j y hy=>(hbr.cell (p:=⟨b,off+k * 6+j,none⟩) hbw).trans (hcell k hlt j y hy)
   have hmem:ts[k]'hlt∈ts:=List.getElem_mem hlt
   have hs:=hsz _ hmem
   have hkd:=hkid _ hmem
   have HTK:Hid (ts.take (k+1)=ts.take k++[ts[k]'hlt]):=by
    show _=_
    rw [List.take_add_one]
    simp [hlt]
   have HNO:Hid (toldT (ts[k]'hlt)=none→gathered ts=none):=fun h=>gathered_none ts _ hmem h
   have HLEN:Hid (∀ p,toldT (ts[k]'hlt)=some p→p.length≤2000001):=fun p h=>told_len h hs
   generalize ts[k]'hlt=t at *
   obtain ⟨kk,tx,un,wh,fl,kid⟩:=t
   have c0:=hcc 0 _ rfl
   have c1:=hcc 1 _ rfl
   have c2:=hcc 2 _ rfl
   have c3:=hcc 3 _ rfl
   have c4:=hcc 4 _ rfl
   have c5:=hcc 5 _ rfl
   simp only [Nat.add_zero] at c0 c1 c2 c3 c4 c5 hs hkd
   have HB:Hid (∀ w2,Below wr.heap.size wr w2→Below W.heap.size W w2):=fun w2 h=>hbr.trans (h.mono hbr.size)
   have hal:Below W.heap.size W ((wr.alloc (.cells #[.int .i64 kk,.string tx,.string un,.bool wh,.bool fl,kid] 34)).alloc (.cells #[.int .i64 kk,.string tx,.string un,.bool wh,.bool fl] 32)):=HB.out _ (((Below.refl _ wr).alloc (Nat.le_refl _) _).alloc (by simp) _)
   have HSTEP:Hid (∀ p,toldT ⟨kk,tx,un,wh,fl,kid⟩=some p→gathered (ts.take (k+1))=some (part++p)∧(part++p).length≤2000001 * (k+1)):=by
    intro p hp
    refine ⟨by rw [HTK.out];exact gathered_step HG.out hp,?_⟩
    have:=HLEN.out p hp
    rw [List.length_append]
    omega
   clear hcc hcell hc hmem hkid hsz HTK HLEN HG
   obtain ⟨a',l',c',rfl⟩:=hkd
   ·by_cases k1:kk=1
    ·subst k1
     have HX:Hid (strOfNums part++tx=strOfNums (part++(bytesL tx))):=by
      show _=_
      exact plus_str part tx
     generalize strOfNums part=PS at *
     go_wp2
     go_roundw
     case rel =>
      obtain ⟨g1,g2⟩:=HSTEP.out (bytesL tx) rfl
      exact ⟨k+1,part++(bytesL tx),by go_num,congrArg Value.string HX.out,by omega,g1,g2,hal⟩
     case measure=>simp [intOf];omega
    have z1:(kk == 1)=false:=by simpa using k1
    by_cases k10:kk=10
    ·subst k10
     cases wh
     ·have HR:Hid (gathered ts=none):=HNO.out rfl
      go_wp2
      go_ret2
      exact ⟨ret_sb (by rw [HR.out];rfl),hal⟩
     ·have HX:Hid (strOfNums part++tx=strOfNums (part++(bytesL tx))):=by
       show _=_
       exact plus_str part tx
      generalize strOfNums part=PS at *
      go_wp2
      go_roundw
      case rel =>
       obtain ⟨g1,g2⟩:=HSTEP.out (bytesL tx) rfl
       exact ⟨k+1,part++(bytesL tx),by go_num,congrArg Value.string HX.out,by omega,g1,g2,hal⟩
      case measure=>simp [intOf];omega
    have z10:(kk == 10)=false:=by simpa using k10
    by_cases k12:kk=12
    ·subst k12
     cases wh
     ·have HR:Hid (gathered ts=none):=HNO.out rfl
      go_wp2
      go_ret2
      exact ⟨ret_sb (by rw [HR.out];rfl),hal⟩
     ·have HX:Hid (strOfNums part++(tx++un)=strOfNums (part++(bytesL tx++bytesL un))):=by
       show _=_
       rw [← List.append_assoc,← plus_str,← plus_str];exact (app_app' _ _ _).symm
      generalize strOfNums part=PS at *
      go_wp2
      go_roundw
      case rel =>
       obtain ⟨g1,g2⟩:=HSTEP.out (bytesL tx++bytesL un) rfl
       exact ⟨k+1,part++(bytesL tx++bytesL un),by go_num,congrArg Value.string HX.out,by omega,g1,g2,hal⟩
      case measure=>simp [intOf];omega
    have z12:(kk == 12)=false:=by simpa using k12
    by_cases k9:kk=9
    ·subst k9
     by_cases p43:tx=⟨#[43]⟩
     ·subst p43
      have HX:Hid (strOfNums part++⟨#[43]⟩=strOfNums (part++(bytesL ⟨#[43]⟩))):=by
       show _=_
       exact plus_str part ⟨#[43]⟩
      generalize strOfNums part=PS at *
      go_wp2
      go_roundw
      case rel =>
       obtain ⟨g1,g2⟩:=HSTEP.out (bytesL ⟨#[43]⟩) (by unfold toldT toldZ;simp)
       exact ⟨k+1,part++(bytesL ⟨#[43]⟩),by go_num,congrArg Value.string HX.out,by omega,g1,g2,hal⟩
      case measure=>simp [intOf];omega
     by_cases p45:tx=⟨#[45]⟩
     ·subst p45
      have HX:Hid (strOfNums part++⟨#[45]⟩=strOfNums (part++(bytesL ⟨#[45]⟩))):=by
       show _=_
       exact plus_str part ⟨#[45]⟩
      generalize strOfNums part=PS at *
      go_wp2
      go_roundw
      case rel =>
       obtain ⟨g1,g2⟩:=HSTEP.out (bytesL ⟨#[45]⟩) (by unfold toldT toldZ;simp)
       exact ⟨k+1,part++(bytesL ⟨#[45]⟩),by go_num,congrArg Value.string HX.out,by omega,g1,g2,hal⟩
      case measure=>simp [intOf];omega
     have HR:Hid (gathered ts=none):=HNO.out (by unfold toldT toldZ;simp [p43,p45])
     obtain ⟨y1,y2⟩:=str_other p43
     obtain ⟨y3,y4⟩:=str_other p45
     clear p43 p45
     go_wp2
     go_ret2
     exact ⟨ret_sb (by rw [HR.out];rfl),hal⟩
    have z9:(kk == 9)=false:=by simpa using k9
    by_cases k13:kk=13
    ·subst k13
     have HX:Hid (strOfNums part++⟨#[32]⟩=strOfNums (part++[32])):=by
      show _=_
      exact plus_str part ⟨#[32]⟩
     generalize strOfNums part=PS at *
     go_wp2
     go_roundw
     case rel =>
      obtain ⟨g1,g2⟩:=HSTEP.out [32] rfl
      exact ⟨k+1,part++[32],by go_num,congrArg Value.string HX.out,by omega,g1,g2,hal⟩
     case measure=>simp [intOf];omega
    have z13:(kk == 13)=false:=by simpa using k13
    have HR:Hid (gathered ts=none):=HNO.out (by unfold toldT toldZ;simp [k1,k9,k10,k12,k13])
    clear k1 k9 k10 k12 k13
    go_wp2
    go_ret2
    exact ⟨ret_sb (by rw [HR.out];rfl),hal⟩
  ·have HE:Hid (gathered ts=some part):=by
    show _=_
    rw [← HG.out,List.take_of_length_le (by omega)]
   have hpb:=HBY.out part HE.out
   have hpl2:part.length≤1000000000000:=by omega
   have HF:Hid (∀ m:List Int,m.length≤1000000000000→∀ w2,Calls Tryz.prog 52 #[.string (strOfNums m)] w2 fun e w'=>e=.returned (.string (foldS (strOfNums m)))∧Below w2.heap.size w2 w'):=fun m hm w2=>refFold_any (strOfNums m) w2 (by rw [strOf_size];omega)
   clear hc hkid hsz HBY HLN HG
   go_wp2
   go_loop [4] (fun a4=>∃ m:List Int,a4=.string (strOfNums m)∧leftL m=leftL part∧m.length≤part.length∧∀ n∈m,0≤n∧n<256) (fun a4=>match a4 with | .string s=>s.size | _=>0)
   case atStart=>exact ⟨part,rfl,rfl,Nat.le_refl _,hpb⟩
   case round =>
    obtain ⟨m,rfl,hm,hml,hmb⟩:=hrel
    have HM:=hid_mk hm
    clear hm
    have hsz2:=strOf_size m
    cases m with
    | nil =>
      have HR:Hid (gathered ts=some part∧rightL (leftL part)=[]):=⟨HE.out,by rw [← HM.out];rfl⟩
      have he:strOfNums []=⟨#[]⟩:=rfl
      have hf:=HF.out [] (by simp) wr
      rw [he] at hf ⊢
      clear hsz2
      go_wp2
      go_loop [4] (fun a4=>a4=.string ⟨#[]⟩) (fun _=>0)
      case atStart=>rfl
      case round =>
       subst hrel
       go_wp2_with (go_at_call 52;fail)
       refine (hf).mono ?_
       rintro e w3 ⟨rfl,b3⟩
       go_wp2
       go_ret2
       exact ⟨ret_sb (by rw [HR.out.1];show _=(foldS (strOfNums (rightL (leftL part))),true);rw [HR.out.2];rfl),hbr.trans (b3.mono hbr.size)⟩
    | cons c r =>
      have h0:0<(strOfNums (c::r)).size:=by rw [hsz2];simp
      have hc2:=hmb c (by simp)
      have hg:(((strOfNums (c::r))[0]'h0).toNat:Int)=c:=by
       have h1:=get_at (strOfNums (c::r)) h0
       have h2:=str_get hmb 0
       rw [h1] at h2
       have h3:((c::r).getD 0 0)=c:=rfl
       rw [h3] at h2
       omega
      have HX:Hid ((strOfNums (c::r)).extract 1 (strOfNums (c::r)).size=strOfNums r):=by
       show _=_
       rw [hsz2]
       apply ByteArray.ext
       simp [strOfNums]
       exact List.take_of_length_le (by simp)
      have HLEN:Hid ((strOfNums (c::r)).size=r.length+1):=by show _=_;rw [hsz2];rfl
      have hsb:(strOfNums (c::r)).size≤1000000000000:=by rw [hsz2];omega
      clear hsz2
      by_cases h32:c=32
      ·generalize strOfNums (c::r)=s at *
       have z1:(((s[0]'h0).toNat:Int) == 32)=true:=by rw [hg,h32];rfl
       have HL:Hid (leftL r=leftL part):=by
        show _=_
        rw [← HM.out,leftL,if_pos h32]
       clear hg
       go_wp2
       go_round
       case rel=>exact ⟨r,congrArg Value.string HX.out,HL.out,by simp at hml;omega,fun n hn=>hmb n (by simp [hn])⟩
       case measure =>
        show (s.extract 1 s.size).size<s.size
        rw [HX.out,strOf_size,HLEN.out]
        omega
      ·have z1:((((strOfNums (c::r))[0]'h0).toNat:Int) == 32)=false:=by rw [hg];simpa using h32
       have HL:Hid (leftL part=c::r):=by
        show _=_
        rw [← HM.out,leftL,if_neg h32]
       clear hg HX HLEN
       generalize hq:c::r=q at *
       clear hq
       go_wp2
       go_loop [4] (fun a4=>∃ m:List Int,a4=.string (strOfNums m)∧rightL m=rightL q∧m.length≤q.length∧∀ n∈m,0≤n∧n<256) (fun a4=>match a4 with | .string s=>s.size | _=>0)
       case atStart=>exact ⟨q,rfl,rfl,Nat.le_refl _,hmb⟩
       case round =>
        obtain ⟨m,rfl,hm3,hml3,hmb3⟩:=hrel
        have HM3:=hid_mk hm3
        clear hm3
        have hsz3:=strOf_size m
        rcases nil_or_snoc m with rfl | ⟨r3,c3',rfl⟩
        ·have HR:Hid (gathered ts=some part∧rightL (leftL part)=[]):=⟨HE.out,by rw [HL.out,← HM3.out];rfl⟩
         have he:strOfNums []=⟨#[]⟩:=rfl
         have hf:=HF.out [] (by simp) wr
         rw [he] at hf ⊢
         clear hsz3
         go_wp2_with (go_at_call 52;fail)
         refine (hf).mono ?_
         rintro e w3 ⟨rfl,b3⟩
         go_wp2
         go_ret2
         exact ⟨ret_sb (by rw [HR.out.1];show _=(foldS (strOfNums (rightL (leftL part))),true);rw [HR.out.2];rfl),hbr.trans (b3.mono hbr.size)⟩
        ·have hlast:r3.length<(strOfNums (r3++[c3'])).size:=by rw [hsz3];simp
         have hg3:=str_last r3 c3' hmb3 hlast
         have HX3:Hid ((strOfNums (r3++[c3'])).extract 0 r3.length=strOfNums r3):=by
          show _=_
          apply ByteArray.ext
          simp [strOfNums]
         have hlen3:(strOfNums (r3++[c3'])).size=r3.length+1:=by rw [hsz3];simp
         have hrl3:r3.length+1≤1000000000000:=by simp at hml3;omega
         have hf:=HF.out (r3++[c3']) (by omega) wr
         clear hsz3
         by_cases h32':c3'=32
         ·generalize strOfNums (r3++[c3'])=s at *
          have z2:(((s[r3.length]'hlast).toNat:Int) == 32)=true:=by rw [hg3,h32'];rfl
          have HL3:Hid (rightL r3=rightL q):=by
           show _=_
           rw [← HM3.out,rightL_snoc,if_pos h32']
          clear hg3 hf
          go_wp2
          go_round
          case rel=>exact ⟨r3,congrArg Value.string HX3.out,HL3.out,by simp at hml3;omega,fun n hn=>hmb3 n (by simp [hn])⟩
          case measure =>
           show (s.extract 0 r3.length).size<s.size
           rw [HX3.out,strOf_size,hlen3]
           omega
         ·have HR:Hid (gathered ts=some part∧rightL (leftL part)=r3++[c3']):=⟨HE.out,by rw [HL.out,← HM3.out,rightL_snoc,if_neg h32']⟩
          have z2:((((strOfNums (r3++[c3']))[r3.length]'hlast).toNat:Int) == 32)=false:=by rw [hg3];simpa using h32'
          have HFS:Hid (foldS (strOfNums (r3++[c3']))=foldS (strOfNums (rightL (leftL part)))):=by show _=_;rw [HR.out.2]
          generalize strOfNums (r3++[c3'])=s at *
          generalize foldS s=FS at *
          clear hg3 HX3
          go_wp2_with (go_at_call 52;fail)
          refine (hf).mono ?_
          rintro e w3 ⟨rfl,b3⟩
          go_wp2
          go_ret2
          exact ⟨ret_sb (by rw [HR.out.1];show _=(foldS (strOfNums (rightL (leftL part))),true);rw [← HFS.out]),hbr.trans (b3.mono hbr.size)⟩
theorem leftL_app:∀ (a:List Int) (c:Int),leftL (a++[c])=if leftL a=[] then leftL [c] else leftL a++[c]
 | [],c=>by simp [leftL]
 | x::a,c=>by
   rw [List.cons_append,leftL,leftL]
   by_cases h:x=32
   ·rw [if_pos h,if_pos h]
    exact leftL_app a c
   ·rw [if_neg h,if_neg h]
    simp
theorem rightL_cons (c:Int) (r:List Int):rightL (c::r)=if rightL r=[] then (if c=32 then [] else [c]) else c::rightL r:=by
 unfold rightL
 rw [List.reverse_cons,leftL_app]
 by_cases h:leftL r.reverse=[]
 ·rw [if_pos h,h]
  simp only [List.reverse_nil,if_true]
  rw [leftL]
  split <;> simp [leftL]
 ·rw [if_neg h,if_neg (by simpa using h)]
  simp
theorem trim_comm:∀ l:List Int,leftL (rightL l)=rightL (leftL l)
 | []=>rfl
 | c::r=>by
   have ih:=trim_comm r
   rw [rightL_cons]
   by_cases h:c=32
   ·have e:leftL (c::r)=leftL r:=by rw [leftL,if_pos h]
    rw [e,← ih]
    by_cases hr:rightL r=[]
    ·rw [if_pos hr,if_pos h,hr]
    ·rw [if_neg hr,leftL,if_pos h]
   ·have e:leftL (c::r)=c::r:=by rw [leftL,if_neg h]
    rw [e,rightL_cons]
    by_cases hr:rightL r=[]
    ·rw [if_pos hr,if_neg h,leftL,if_neg h]
    ·rw [if_neg hr,leftL,if_neg h]
end Go.Proofs.YtdneaeokljoijaaGreatDoor.N
