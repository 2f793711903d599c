/- The table of signs, as it is laid. -/
import Derived.Test.YtdneaeokljoijaaGreatDoorRPs
import Derived.ProofKit
import Derived.OpenShut
import Derived.LaidMore
import Derived.Lib.LaidTab
import Derived.FnData
set_option maxRecDepth 100000
set_option maxHeartbeats 8000000
namespace Go.Proofs.YtdneaeokljoijaaGreatDoor.L
open Go.ChangeShapes Go.WideShapes Go.ChangeAt Go.RowKit
theorem head_of {a b:Value} (h:[a]=[b]):a=b:=by simpa using h
theorem k3:Tryz.prog.cellsOf 3=1:=by kernel_rfl
theorem k9:Tryz.prog.cellsOf 9=1:=by kernel_rfl
theorem k154:Tryz.prog.cellsOf 139=3:=by kernel_rfl
theorem k155:Tryz.prog.cellsOf 140=45:=by kernel_rfl
theorem chunks:∀ (n:Nat) (a b:List Value),a.length=3 * n→b.length=3 * n→(∀ i,i<n→(a.drop (i * 3)).take 3=(b.drop (i * 3)).take 3)→a=b
 | 0,a,b,ha,hb,_=>by rw [List.length_eq_zero_iff.1 (by omega:a.length=0),List.length_eq_zero_iff.1 (by omega:b.length=0)]
 | n+1,a,b,ha,hb,h=>by
   have h0:=h 0 (by omega)
   rw [Nat.zero_mul,List.drop_zero,List.drop_zero] at h0
   have ih:=chunks n (a.drop 3) (b.drop 3) (by rw [List.length_drop];omega) (by rw [List.length_drop];omega) fun i hi=>by
    have:=h (i+1) (by omega)
    rw [List.drop_drop,List.drop_drop,show 3+i * 3=(i+1) * 3 by omega]
    exact this
   rw [← List.take_append_drop 3 a,← List.take_append_drop 3 b,h0,ih]
section
variable {H:Type} {enc:TypeId×Value→H} {W:World} {base:Nat} {sp:Nat→Bool} {held:Bool}
theorem row3 {m:Nat} {cs:List Value} {a b:Int} {s:List UInt8} {p:List MemPlace} (hf:DataW.trod enc Tryz.prog W base sp held m 139 cs=some (.agg [.lit (.int .i64 a),.lit (.int .i64 b),.lit (.string s)],p)) (hl:cs.length=3):cs=[.int .i64 a,.int .i64 b,.string ⟨s.toArray⟩]:=by
 obtain ⟨y0,y1,y2,rfl⟩:∃ y0 y1 y2,cs=[y0,y1,y2]:=by
  match cs,hl with
  | [a,b,c],_=>exact ⟨a,b,c,rfl⟩
 obtain ⟨xs,n,hmn,hx,hl2,hxl,hel⟩:=DataW.trod_struct Tryz.underlying139 hf
 have h0:=hel 0 _ rfl
 have h1:=hel 1 _ rfl
 have h2:=hel 2 _ rfl
 have hxl3:xs.length=3:=hxl
 obtain ⟨x0,x1,x2,rfl⟩:∃ x0 x1 x2,xs=[x0,x1,x2]:=by
  match xs,hxl3 with
  | [a,b,c],_=>exact ⟨a,b,c,rfl⟩
 obtain ⟨k,a0,b0,_⟩:=DataW.trod_int Tryz.underlying3 h0
 obtain ⟨l,a1,b1,_⟩:=DataW.trod_int Tryz.underlying3 h1
 obtain ⟨nm,a2,b2,_⟩:=DataW.trod_string Tryz.underlying9 h2
 have e0:y0=.int .i64 k:=head_of (by rw [← a0];show _=List.take (Tryz.prog.cellsOf 3) _;rw [k3];rfl)
 have e1:y1=.int .i64 l:=head_of (by rw [← a1];show _=List.take (Tryz.prog.cellsOf 3) _;rw [k3];rfl)
 have e2:y2=.string nm:=head_of (by rw [← a2];show _=List.take (Tryz.prog.cellsOf 9) _;rw [k9];rfl)
 have hx1:=congrArg Prod.fst hx
 simp only [List.map_cons,List.map_nil] at hx1
 subst b0 b1 b2
 simp only [DataW.agg.injEq,List.cons.injEq,DataW.lit.injEq,Lit.int.injEq,Lit.string.injEq,true_and,and_true] at hx1
 obtain ⟨g0,g1,g2⟩:=hx1
 rw [e0,e1,e2,g0,g1,g2]
end
theorem sgn_len:sgnC.length=45:=rfl
theorem signs_of {W:World} {fuel:Nat} {cs:List Value} {p:List MemPlace} (h:DataW.trod (fun _=>()) Tryz.prog W 0 (fun _=>true) false fuel 140 cs=some (Rows.laid_gouache_selector_signs,p)):cs=sgnC:=by
 obtain ⟨xs,m,_,hx,hl,hxl,hel⟩:=DataW.trod_array Tryz.underlying140 h
 rw [k155] at hl
 have hx1:=congrArg Prod.fst hx
 simp only [] at hx1
 have hx2:∀ i (hi:i<xs.length),some ((xs[i]'hi).1)=(xs.map (·.1))[i]?:=fun i hi=>by rw [List.getElem?_map,List.getElem?_eq_getElem hi];rfl
 unfold Rows.laid_gouache_selector_signs at hx1
 injection hx1 with hx1
 refine chunks 15 cs sgnC hl sgn_len fun i hi=>?_
 have h1:=hel i hi
 rw [k154,List.getElem?_eq_getElem (by omega)] at h1
 have h2:=hx2 i (by omega)
 rw [← hx1] at h2
 have hcl:((cs.drop (i * 3)).take 3).length=3:=by rw [List.length_take,List.length_drop,hl];omega
 obtain ⟨⟨xd,xp⟩,hxi⟩:∃ y,y=xs[i]'(by omega):=⟨_,rfl⟩
 rw [← hxi] at h1 h2
 simp only [] at h2
 have hc:i=0∨i=1∨i=2∨i=3∨i=4∨i=5∨i=6∨i=7∨i=8∨i=9∨i=10∨i=11∨i=12∨i=13∨i=14:=by omega
 clear hxi
 rcases hc with rfl | rfl | rfl | rfl | rfl | rfl | rfl | rfl | rfl | rfl | rfl | rfl | rfl | rfl | rfl
 all_goals
  have h3:=Option.some.inj h2
  subst h3
  exact row3 h1 hcl
def laid3:List (String×DataW Unit):=[("unicode/utf8.acceptRanges",Rows.laid_unicode_utf8_acceptRanges),("gouache/selector.signs",Rows.laid_gouache_selector_signs),("unicode/utf8.first",Rows.laid_unicode_utf8_first)]
theorem gsg:Tryz.prog.globalNamed "gouache/selector.signs" = some 0:=by kernel_rfl
theorem tsg:(Tryz.prog.globals[0]?).map (·.type)=some 140:=by kernel_rfl
theorem of_laid {W:World} (h:laidMetH Tryz.prog laid3 W):Signs W:=by
 rw [MakeChecks.laidMetH_plain _ _ _ (by kernel_rfl)] at h
 obtain ⟨ps,⟨g0,t0,cs0,f0,p0,q0,hg0,ht0,hv0,hd0,⟨g1,t1,cs1,f1,p1,q1,hg1,ht1,hv1,hd1,_,_⟩,_⟩,_,_⟩:=h
 obtain rfl:=Option.some.inj (gsg.symm.trans hg1)
 obtain rfl:=Option.some.inj (tsg.symm.trans ht1)
 have e:=signs_of hd1
 intro j v hv
 have:=World.var?_cell gsg hv1 j
 rw [Nat.zero_add]
 refine this.trans ?_
 rw [← e] at hv
 simpa using hv
end Go.Proofs.YtdneaeokljoijaaGreatDoor.L
