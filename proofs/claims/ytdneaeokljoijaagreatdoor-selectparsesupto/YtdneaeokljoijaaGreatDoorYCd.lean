/- gouacheref03.Count and Deep of values that came in. -/
import Derived.Test.YtdneaeokljoijaaGreatDoorYOp
set_option maxRecDepth 100000
set_option maxHeartbeats 8000000
namespace Go.Proofs.YtdneaeokljoijaaGreatDoor.Y
open Go.RowKit
open Go.Proofs.YtdneaeokljoijaaGreatDoor.L (T5 V VsAt t5Cells vCells cell_of_heap)
theorem countL_take (vs:List V) (k:Nat) (h:k<vs.length):countL (vs.take (k+1))=countL (vs.take k)+countV (vs[k]'h):=by
 rw [List.take_succ_eq_append_getElem h,countL_append]
 simp [countL]
theorem countL_take_le (vs:List V) (k:Nat):countL (vs.take k)≤countL vs:=by
 have h:countL vs=countL (vs.take k)+countL (vs.drop k):=by rw [← countL_append,List.take_append_drop]
 omega
theorem count_any {P:Nat→Prop} {W:World} {v:Value} {vs:List V} (h:VsAt P W v vs):∀ w,Below W.heap.size W w→countL vs≤2000000 →
  Calls Tryz.prog 5 #[v] w fun e w'=>e=.returned (.int .i64 (countL vs:Nat))∧Below w.heap.size w w':=by
 induction h with
 | mk a cap vs b off kv h1 h2 ha hc hr ih =>
   intro w hw hn
   have HA:=hid_mk ha
   have HC:=hid_mk hc
   have HR:=hid_mk hr
   have HI:=hid_mk ih
   have HW:=hid_mk hw
   have HN:=hid_mk hn
   clear ha hc hr ih hw hn
   go_enter Tryz.func5,Tryz.ntmps5
   go_wp2
   go_loopw [3,8] (fun a3 a8 wr=>∃ (k:Nat),a8=.int .i64 k∧a3=.int .i64 (countL (vs.take k):Nat)∧k≤vs.length∧Below w.heap.size w wr) (fun _ a8 _=>vs.length+1 - (intOf a8).toNat)
   case atStart=>exact ⟨0,rfl,by simp [countL],Nat.zero_le _,Below.refl _ _⟩
   case round =>
    obtain ⟨k,rfl,rfl,hk,hB⟩:=hrel
    by_cases hlt:k<vs.length
    ·obtain ⟨rfl,hb,-⟩:=HA.out (by omega)
     have hWr:Below W.heap.size W wr:=HW.out.trans (hB.mono HW.out.size)
     have hq:=fun j y hy=>(hWr.cell (p:=⟨b,off+k * 6+j,none⟩) hb).trans (HC.out k hlt j y hy)
     have hbx:b<wr.heap.size:=Nat.lt_of_lt_of_le hb hWr.size
     have hct:=countL_take vs k hlt
     have hcl:=countL_take_le vs (k+1)
     have hcv:countV (vs[k]'hlt)=1+countL (vs[k]'hlt).kids:=by cases vs[k]'hlt;rfl
     have HT:Hid (countL (vs.take (k+1))=countL (vs.take k)+(1+countL (vs[k]'hlt).kids)):=by show _=_;rw [hct,hcv]
     have hnn:=HN.out
     have hkk:countL (vs.take k)+(1+countL (vs[k]'hlt).kids)≤2000000:=by have:=HT.out;omega
     have HI2:=hid_mk (HI.out k hlt)
     obtain ⟨x1,c1,e1,_,_⟩:=(HR.out k hlt).slice
     rw [e1] at hq HI2
     generalize (vs[k]'hlt).tok=t at *
     generalize (vs[k]'hlt).kids=ks at *
     generalize countL (vs.take k)=ck at *
     obtain ⟨tk,tx,un,wh,fl⟩:=t
     have q0:wr.cell? ⟨b,off+k * 6,none⟩=some (.int .i64 tk):=hq 0 _ rfl
     have q1:wr.cell? ⟨b,off+k * 6+1,none⟩=some (.string tx):=hq 1 _ rfl
     have q2:wr.cell? ⟨b,off+k * 6+2,none⟩=some (.string un):=hq 2 _ rfl
     have q3:wr.cell? ⟨b,off+k * 6+3,none⟩=some (.bool wh):=hq 3 _ rfl
     have q4:wr.cell? ⟨b,off+k * 6+4,none⟩=some (.bool fl):=hq 4 _ rfl
     have q5:wr.cell? ⟨b,off+k * 6+5,none⟩=some (.slice x1 ks.length c1):=hq 5 _ rfl
     have hcall:=fun o=>HI2.out (wr.alloc o) (hWr.trans (((Below.refl _ wr).alloc (Nat.le_refl _) o).mono hWr.size)) (by omega)
     have HBA:Hid (∀ o,Below w.heap.size w (wr.alloc o)):=fun o=>hB.trans (((Below.refl _ wr).alloc (Nat.le_refl _) o).mono hB.size)
     clear hq e1 HA HC HR HI HW hWr hB hct hcl hcv hnn HN HI2
     generalize countL ks=cks at *
     go_wp2_with (go_at_call 5;fail)
     refine (hcall _).mono ?_
     rintro e w2 ⟨rfl,hB2⟩
     have HB2:Hid (Below w.heap.size w w2):=(HBA.out _).trans (hB2.mono (HBA.out _).size)
     clear hcall hB2 HBA q0 q1 q2 q3 q4 q5
     go_wp2
     go_roundw
     case rel=>exact ⟨k+1,by go_num,by rw [HT.out];go_num,by omega,HB2.out⟩
     case measure=>simp [intOf];omega
    ·have e:vs.take k=vs:=List.take_of_length_le (by omega)
     rw [e]
     have HB1:=hid_mk hB
     clear hB
     go_wp2
     go_ret
     exact ⟨rfl,HB1.out⟩
theorem deep_some {P:Nat→Prop} {W:World} {v:Value} {vs:List V} (h:VsAt P W v vs):∀ (w:World) (m:Int),Below W.heap.size W w→0≤m→m≤1000 →
  Calls Tryz.prog 4 #[v,.int .i64 m] w fun e w'=>(∃ b,e=.returned (.bool b))∧Below w.heap.size w w':=by
 induction h with
 | mk a cap vs b off kv h1 h2 ha hc hr ih =>
   intro w m hw hm0 hm1
   have HA:=hid_mk ha
   have HC:=hid_mk hc
   have HR:=hid_mk hr
   have HI:=hid_mk ih
   have HW:=hid_mk hw
   clear ha hc hr ih hw
   go_enter Tryz.func4,Tryz.ntmps4
   go_wp2
   go_loopw [9] (fun a9 wr=>∃ (k:Nat),a9=.int .i64 k∧k≤vs.length∧Below w.heap.size w wr) (fun a9 _=>vs.length+1 - (intOf a9).toNat)
   case atStart=>exact ⟨0,rfl,Nat.zero_le _,Below.refl _ _⟩
   case round =>
    obtain ⟨k,rfl,hk,hB⟩:=hrel
    by_cases hlt:k<vs.length
    ·obtain ⟨rfl,hb,-⟩:=HA.out (by omega)
     have hWr:Below W.heap.size W wr:=HW.out.trans (hB.mono HW.out.size)
     have hq:=fun j y hy=>(hWr.cell (p:=⟨b,off+k * 6+j,none⟩) hb).trans (HC.out k hlt j y hy)
     have hbx:b<wr.heap.size:=Nat.lt_of_lt_of_le hb hWr.size
     have HI2:=hid_mk (HI.out k hlt)
     obtain ⟨x1,c1,e1,_,_⟩:=(HR.out k hlt).slice
     rw [e1] at hq HI2
     generalize (vs[k]'hlt).tok=t at *
     generalize (vs[k]'hlt).kids=ks at *
     obtain ⟨tk,tx,un,wh,fl⟩:=t
     have q0:wr.cell? ⟨b,off+k * 6,none⟩=some (.int .i64 tk):=hq 0 _ rfl
     have q1:wr.cell? ⟨b,off+k * 6+1,none⟩=some (.string tx):=hq 1 _ rfl
     have q2:wr.cell? ⟨b,off+k * 6+2,none⟩=some (.string un):=hq 2 _ rfl
     have q3:wr.cell? ⟨b,off+k * 6+3,none⟩=some (.bool wh):=hq 3 _ rfl
     have q4:wr.cell? ⟨b,off+k * 6+4,none⟩=some (.bool fl):=hq 4 _ rfl
     have q5:wr.cell? ⟨b,off+k * 6+5,none⟩=some (.slice x1 ks.length c1):=hq 5 _ rfl
     have hal:∀ o,Below wr.heap.size wr (wr.alloc o):=fun o=>(Below.refl _ wr).alloc (Nat.le_refl _) o
     have HBA:Hid (∀ o,Below w.heap.size w (wr.alloc o)):=fun o=>hB.trans ((hal o).mono hB.size)
     have HWA:Hid (∀ o,Below W.heap.size W (wr.alloc o)):=fun o=>hWr.trans ((hal o).mono hWr.size)
     clear hq e1 HA HC HR HI HW hWr hB hal
     by_cases h0:0<ks.length
     ·have z0:decide ((0:Int)<(ks.length:Int))=true:=by simpa using h0
      by_cases hm:m<1
      ·have z1:decide (m<1)=true:=by simpa using hm
       go_wp2
       go_ret
       exact ⟨⟨_,rfl⟩,HBA.out _⟩
      ·have z1:decide (m<1)=false:=by simpa using hm
       have hcl:=fun o=>HI2.out _ (m - 1) (HWA.out o) (by omega) (by omega)
       go_wp2_with (go_at_call 4;fail)
       refine (hcl _).mono ?_
       rintro e w2 ⟨⟨dd,rfl⟩,hB2⟩
       have HB2:Hid (Below w.heap.size w w2):=(HBA.out _).trans (hB2.mono (HBA.out _).size)
       clear hcl hB2 q0 q1 q2 q3 q4 q5
       cases dd
       ·go_wp2
        go_roundw
        case rel=>exact ⟨k+1,by go_num,by omega,HB2.out⟩
        case measure=>simp [intOf];omega
       ·go_wp2
        go_ret
        exact ⟨⟨_,rfl⟩,HB2.out⟩
     ·have z0:decide ((0:Int)<(ks.length:Int))=false:=by simpa using h0
      go_wp2
      go_roundw
      case rel=>exact ⟨k+1,by go_num,by omega,HBA.out _⟩
      case measure=>simp [intOf];omega
    ·have HB1:=hid_mk hB
     clear hB
     go_wp2
     go_ret
     exact ⟨⟨_,rfl⟩,HB1.out⟩
end Go.Proofs.YtdneaeokljoijaaGreatDoor.Y
