/- parse.read's helpers: closeOf, closes and its function, behind. -/
import Derived.Test.YtemlnblifkdenaaGreatDoorYRefOne
import Derived.Deep.AppendLies
import Derived.Test.YtemlnblifkdenaaGreatDoorLTl
import Derived.BigQuiet
import Derived.Deep.QuietTactic
import Derived.Maps.AppendAt
import Derived.Deep.DeepCutAuto
import Derived.WalkSmall
import Derived.RangeFuncBox
set_option maxRecDepth 100000
set_option maxHeartbeats 8000000
namespace Go.Proofs.YtemlnblifkdenaaGreatDoor.Y
open Go.RowKit
theorem Tryz.info65:(Tryz.prog.info? 65).map (fun i=>(i.zero,i.size,i.bytes))=some (some (.agg #[.int .i64 0,.string ⟨#[]⟩,.string ⟨#[]⟩,.bool false,.bool false]),5,48):=by kernel_rfl
def Outs (B:Nat) (w:World) (out:Value) (ts:List Tok):Prop:=w.ownsRow B 65 5 out ts.length (ts.flatMap tokCells)
theorem ownsRow_keep {w w':World} {B:Nat} {e:TypeId} {s:Nat} {v:Value} {n:Nat} {xs:List Value} (h:w.ownsRow B e s v n xs) (hk:∀ g,g<w.heap.size→v.ownBlock=some g→w'.heap[g]? = w.heap[g]?):w'.ownsRow B e s v n xs:=by
 refine ⟨h.1,?_⟩
 rcases h.2 with hn | ⟨g,cap,cur,hv,hb,hg,rest⟩
 ·exact .inl hn
 ·exact .inr ⟨g,cap,cur,hv,hb,(hk g (Array.getElem?_eq_some_iff.1 hg).1 (by rw [hv];rfl)).trans hg,rest⟩
theorem ownsRow_below {w w':World} {B:Nat} {e:TypeId} {s:Nat} {v:Value} {n:Nat} {xs:List Value} (h:w.ownsRow B e s v n xs) (hb:Below w.heap.size w w'):w'.ownsRow B e s v n xs :=
 ownsRow_keep h fun g hg _=>hb.block g hg
theorem news5 (w:World) (x0 x1 x2 x3 x4:Value) (j:Nat) (u:Value) (h:[x0,x1,x2,x3,x4][j]? = some u):(w.alloc (.cells #[x0,x1,x2,x3,x4] 65)).cell? ((⟨w.heap.size,0,none⟩:Addr).add j)=some u :=
 World.news_of_block (cs:=#[x0,x1,x2,x3,x4]) (t:=65) (fr:=(0,0)) (heap_alloc_new w _) j u h
theorem toks_at {xs:List Int} {p:Nat} (h:p<xs.length):toks (xs.drop p)=(oneZ (xs.drop p)).1.toList++toks (oneZ (xs.drop p)).2:=by
 rw [drop_hd h,toks_cons]
theorem comment_at {xs:List Int} {p:Nat} (h:standsB [47,42] (xs.drop p)=true):oneZ (xs.drop p)=(none,comR (xs.drop (p+2))):=by
 unfold oneZ
 rw [if_pos h,List.drop_drop]
theorem rtokens_any {w:World} {v:Value} {xs:List Int} (hv:RowAt .i32 w v xs) (fx:Fine xs) :
  Calls Tryz.prog 15 #[v] w fun e w'=>∃ out,e=.returned out∧Outs w.heap.size w' out (toks xs)∧Below w.heap.size w w':=by
 have hl:=fx.1
 obtain ⟨i0,hi0,hz0,hz1,hz2⟩:=info_parts Tryz.info65
 have HH:Hid (RowAt .i32 w v xs∧Fine xs):=And.intro hv fx
 obtain ⟨a,cap,rfl,hcap,hcs⟩:=hv
 clear fx hcs
 go_enter Tryz.func15,Tryz.ntmps15
 go_wp2
 go_loopw [3,4] (fun out a4 wr=>∃ (p:Nat) (ts:List Tok),a4=.int .i64 (p:Int)∧wr.ownsRow w.heap.size 65 5 out ts.length (ts.flatMap tokCells)∧p≤xs.length∧Below w.heap.size w wr∧ts++toks (xs.drop p)=toks xs∧ts.length≤p) (fun _ a4 _=>xs.length+1 - (intOf a4).toNat)
 case atStart=>exact ⟨0,[],rfl,World.ownsRow_nil _ _ _ _,Nat.zero_le _,Below.refl _ _,rfl,by simp⟩
 case round =>
  obtain ⟨p,ts,rfl,hown,hp,hB,hT,hal⟩:=hrel
  have HT:=hid_mk hT
  clear hT
  by_cases hlt:p<xs.length
  ·have hst:=rstarts_any (w:=wr) ⟨#[47,42]⟩ [47,42] (by kernel_rfl) (by decide) (HH.out.1.below hB) HH.out.2 p p rfl hp
   have HAT:=hid_mk (toks_at hlt)
   cases hs:standsB [47,42] (xs.drop p)
   ·rw [hs] at hst
    have HS:=hid_mk hs
    clear hs
    go_wp2_with (go_at_call 40;fail)
    refine (hst).mono ?_
    rintro e w1 ⟨rfl,b1⟩
    have hB1:Below w.heap.size w w1:=hB.trans (b1.mono hB.size)
    have hown1:=ownsRow_below hown b1
    have hon:=rone_any (w:=w1.alloc (.cells #[.int .i64 0,.string ⟨#[]⟩,.string ⟨#[]⟩,.bool false,.bool false] 65)) (HH.out.1.below (hB1.alloc hB1.size _)) HH.out.2 p p rfl hlt HS.out
    go_wp2_with (go_at_call 42;fail)
    refine (hon).mono ?_
    rintro e w6 ⟨p6,tk,rr,hone,rfl,hd6,hp6,hp7,b6⟩
    have hB6:Below w.heap.size w w6:=(hB1.alloc hB1.size _).trans (b6.mono (by have:=hB1.size;simp;omega))
    have hblk6:w6.heap[w1.heap.size]? = some (.cells #[.int .i64 0,.string ⟨#[]⟩,.string ⟨#[]⟩,.bool false,.bool false] 65 (0,0)):=(b6.block _ (by simp)).trans (heap_alloc_new w1 _)
    have hsz6:w1.heap.size<w6.heap.size:=(Array.getElem?_eq_some_iff.1 hblk6).1
    have hown6:=ownsRow_below (hown1.alloc (.cells #[.int .i64 0,.string ⟨#[]⟩,.string ⟨#[]⟩,.bool false,.bool false] 65)) b6
    have HN:Hid ((ts++[tk])++toks (xs.drop p6)=toks xs):=by
     show (ts++[tk])++toks (xs.drop p6)=toks xs
     have:=HT.out
     rw [HAT.out,hone] at this
     rw [hd6]
     simpa using this
    have HTK:Hid (tokCells tk=[.int .i64 tk.kind,.string (strT tk.text),.string (strT tk.unit),.bool tk.whole,.bool tk.flag]):=rfl
    obtain ⟨k0,k1,k2,k3,k4,f0,f1,f2,f3,f4⟩:=zero_cells hblk6
    have hownS:∀ y1 y2 y3 y4 y5,(((((w6.setCell ⟨w1.heap.size,0,none⟩ y1).setCell ⟨w1.heap.size,1,none⟩ y2).setCell ⟨w1.heap.size,2,none⟩ y3).setCell ⟨w1.heap.size,3,none⟩ y4).setCell ⟨w1.heap.size,4,none⟩ y5).ownsRow w.heap.size 65 5 u3 ts.length (ts.flatMap tokCells):=by
     intro y1 y2 y3 y4 y5
     refine ownsRow_keep hown6 fun g hg hgo=>?_
     have hne:g≠w1.heap.size:=by
      intro e
      rcases hown1.2 with ⟨hv,_⟩ | ⟨g',cap',cur,hv,_,hg',_⟩
      ·rw [hv] at hgo;simp [Value.ownBlock] at hgo
      ·rw [hv] at hgo
       simp [Value.ownBlock] at hgo
       have:=(Array.getElem?_eq_some_iff.1 hg').1
       omega
     rw [Below.heap_setCell _ _ _ _ hne,Below.heap_setCell _ _ _ _ hne,Below.heap_setCell _ _ _ _ hne,Below.heap_setCell _ _ _ _ hne,Below.heap_setCell _ _ _ _ hne]
    have hBS:∀ y1 y2 y3 y4 y5,Below w.heap.size w (((((w6.setCell ⟨w1.heap.size,0,none⟩ y1).setCell ⟨w1.heap.size,1,none⟩ y2).setCell ⟨w1.heap.size,2,none⟩ y3).setCell ⟨w1.heap.size,3,none⟩ y4).setCell ⟨w1.heap.size,4,none⟩ y5):=by
     intro y1 y2 y3 y4 y5
     have h:=hB1.size
     exact ((((hB6.setCell (p:=⟨w1.heap.size,0,none⟩) h _).setCell (p:=⟨w1.heap.size,1,none⟩) h _).setCell (p:=⟨w1.heap.size,2,none⟩) h _).setCell (p:=⟨w1.heap.size,3,none⟩) h _).setCell (p:=⟨w1.heap.size,4,none⟩) h _
    have HOS:=hid_mk hownS
    have HBS:=hid_mk hBS
    clear hownS hBS hone hd6 hon hst
    simp only [tokV]
    generalize tk.kind=y1 at *
    generalize strT tk.text=y2 at *
    generalize strT tk.unit=y3 at *
    generalize tk.whole=y4 at *
    generalize tk.flag=y5 at *
    clear hown hown1 hown6 hB hB1 hB6 b1 b6 hblk6
    go_upto_region 8 with fail
    have hown5:=HOS.out (.int .i64 y1) (.string y2) (.string y3) (.bool y4) (.bool y5)
    have hB5:=HBS.out (.int .i64 y1) (.string y2) (.string y3) (.bool y4) (.bool y5)
    have q0:(((((w6.setCell ⟨w1.heap.size,0,none⟩ (.int .i64 y1)).setCell ⟨w1.heap.size,1,none⟩ (.string y2)).setCell ⟨w1.heap.size,2,none⟩ (.string y3)).setCell ⟨w1.heap.size,3,none⟩ (.bool y4)).setCell ⟨w1.heap.size,4,none⟩ (.bool y5)).cell? ⟨w1.heap.size,0,none⟩=some (.int .i64 y1):=by simp [go_sem,k0]
    have q1:(((((w6.setCell ⟨w1.heap.size,0,none⟩ (.int .i64 y1)).setCell ⟨w1.heap.size,1,none⟩ (.string y2)).setCell ⟨w1.heap.size,2,none⟩ (.string y3)).setCell ⟨w1.heap.size,3,none⟩ (.bool y4)).setCell ⟨w1.heap.size,4,none⟩ (.bool y5)).cell? ⟨w1.heap.size,1,none⟩=some (.string y2):=by simp [go_sem,k1]
    have q2:(((((w6.setCell ⟨w1.heap.size,0,none⟩ (.int .i64 y1)).setCell ⟨w1.heap.size,1,none⟩ (.string y2)).setCell ⟨w1.heap.size,2,none⟩ (.string y3)).setCell ⟨w1.heap.size,3,none⟩ (.bool y4)).setCell ⟨w1.heap.size,4,none⟩ (.bool y5)).cell? ⟨w1.heap.size,2,none⟩=some (.string y3):=by simp [go_sem,k2]
    have q3:(((((w6.setCell ⟨w1.heap.size,0,none⟩ (.int .i64 y1)).setCell ⟨w1.heap.size,1,none⟩ (.string y2)).setCell ⟨w1.heap.size,2,none⟩ (.string y3)).setCell ⟨w1.heap.size,3,none⟩ (.bool y4)).setCell ⟨w1.heap.size,4,none⟩ (.bool y5)).cell? ⟨w1.heap.size,3,none⟩=some (.bool y4):=by simp [go_sem,k3]
    have q4:(((((w6.setCell ⟨w1.heap.size,0,none⟩ (.int .i64 y1)).setCell ⟨w1.heap.size,1,none⟩ (.string y2)).setCell ⟨w1.heap.size,2,none⟩ (.string y3)).setCell ⟨w1.heap.size,3,none⟩ (.bool y4)).setCell ⟨w1.heap.size,4,none⟩ (.bool y5)).cell? ⟨w1.heap.size,4,none⟩=some (.bool y5):=by simp [go_sem,k4]
    generalize (((((w6.setCell ⟨w1.heap.size,0,none⟩ (.int .i64 y1)).setCell ⟨w1.heap.size,1,none⟩ (.string y2)).setCell ⟨w1.heap.size,2,none⟩ (.string y3)).setCell ⟨w1.heap.size,3,none⟩ (.bool y4)).setCell ⟨w1.heap.size,4,none⟩ (.bool y5))=W at *
    clear k0 k1 k2 k3 k4 f0 f1 f2 f3 f4 HOS HBS
    have HB5:=hid_mk hB5
    have hbs5:=hB5.size
    clear hB5
    go_wp2_with (at_builtin;go_must (refine wpList_append_own _ rfl _ _ 45 rfl w.heap.size 65 i0 _ 5 48 Tryz.underlying45 hi0 hz0 hz1 hz2 rfl (by decide) _ _ _ rfl (hown5.alloc _) ⟨W.heap.size,0,none⟩ 1 1 [.int .i64 y1,.string y2,.string y3,.bool y4,.bool y5] rfl rfl (news5 W _ _ _ _ _) (by intro u hu;simp at hu;rcases hu with rfl | rfl | rfl | rfl | rfl <;> rfl) (by unfold maxLen;omega) (by omega) (by simp;omega) ?_);intro v' w7 hown7 hgrow7 _)
    go_roundw
    case rel =>
     refine ⟨p6,ts++[tk],rfl,?_,hp7,(HB5.out.alloc hbs5 _).grown hgrow7 (by simp;omega) (fun k hk=>(hown5.lt k hk).1),HN.out,by simp;omega⟩
     rw [List.flatMap_append,List.flatMap_singleton,HTK.out]
     simpa using hown7
    case measure=>simp [intOf];omega
   ·rw [hs] at hst
    have h2:p+2≤xs.length:=by
     rcases stands_lt hs (by decide) with h | h
     ·exact h
     ·cases h
    have HC:=hid_mk (comment_at hs)
    clear hs
    go_wp2_with (go_at_call 40;fail)
    refine (hst).mono ?_
    rintro e w1 ⟨rfl,b1⟩
    have hB1:Below w.heap.size w w1:=hB.trans (b1.mono hB.size)
    have hcm:=rcomment_any (w:=w1) (HH.out.1.below hB1) HH.out.2 p p rfl h2
    go_wp2_with (go_at_call 41;fail)
    refine (hcm).mono ?_
    rintro e w2 ⟨p2,rfl,hd2,hp2,hp2',b2⟩
    have hB2:=hB1.trans (b2.mono hB1.size)
    have hown2:=ownsRow_below (ownsRow_below hown b1) b2
    have HD2:=hid_mk hd2
    clear hd2
    go_wp2
    go_roundw
    case rel=>exact ⟨p2,ts,rfl,hown2,hp2',hB2,by rw [← HT.out,HAT.out,HC.out,HD2.out];rfl,by omega⟩
    case measure=>simp [intOf];omega
  ·have HNIL:=hid_mk (List.drop_eq_nil_of_le (Nat.le_of_not_lt hlt))
   go_wp2
   go_ret
   have h:=HT.out
   rw [HNIL.out] at h
   have h2:ts=toks xs:=by
    rw [← h]
    simp [toks,toksF]
   subst h2
   exact ⟨_,rfl,hown,hB⟩
end Go.Proofs.YtemlnblifkdenaaGreatDoor.Y
namespace Go.Proofs.YtemlnblifkdenaaGreatDoor.Y
open Go.RowKit
open Go.Proofs.YtemlnblifkdenaaGreatDoor.L (T5 V VsAt t5Cells vCells cell_of_heap)
end Go.Proofs.YtemlnblifkdenaaGreatDoor.Y
namespace Go.Proofs.YtemlnblifkdenaaGreatDoor.Y
open Go.RowKit
open Go.Proofs.YtemlnblifkdenaaGreatDoor.L (T5 V VsAt t5Cells vCells cell_of_heap)
theorem below_drewN5 (B:Nat) (w:World) (n:Nat):Below B w (w.drewN n):=⟨rfl,rfl,rfl,Nat.le_refl _,fun _ _=>rfl⟩
end Go.Proofs.YtemlnblifkdenaaGreatDoor.Y
namespace Go.Proofs.YtemlnblifkdenaaGreatDoor.Y
open Go.RowKit
open Go.Proofs.YtemlnblifkdenaaGreatDoor.L (T5 V VsAt t5Cells vCells cell_of_heap)
def TsAt (W:World) (v:Value) (ts:List T5):Prop :=
 ∃ a cap,v=.slice a ts.length cap∧ts.length≤cap∧cap≤9223372036854775807∧(0<ts.length→∃ b off,a=some ⟨b,off,none⟩∧b<W.heap.size∧∀ i (h:i<ts.length),∀ j y,(t5Cells (ts[i]'h))[j]? = some y→W.cell? ⟨b,off+i * 5+j,none⟩=some y)
theorem TsAt.nil (W:World):TsAt W (.slice none 0 0) []:=⟨none,0,rfl,Nat.le_refl _,by decide,fun h=>absurd h (by simp)⟩
def closeZ (k:Int):Int:=if k=19 then 20 else if k=21∨k=2 then 22 else if k=23 then 24 else 0
theorem rend_any (k:Int) (w:World):Calls Tryz.prog 80 #[.int .i64 k] w fun e w'=>e=.returned (.int .i64 (closeZ k))∧w=w':=by
 have HZ:∀ (p q r s:Bool),p=(k == 19)→q=(k == 21)→r=(k == 2)→s=(k == 23)→Calls Tryz.prog 80 #[.int .i64 k] w fun e w'=>e=.returned (.int .i64 (closeZ k))∧w=w':=by
  intro p q r s z1 z2 z3 z4
  have HV:Hid (closeZ k=if p then 20 else if q || r then 22 else if s then 24 else 0):=by
   show _=_
   unfold closeZ
   rw [z1,z2,z3,z4]
   simp
  have y1:=z1.symm
  have y2:=z2.symm
  have y3:=z3.symm
  have y4:=z4.symm
  clear z1 z2 z3 z4
  cases p
  ·cases q
   ·cases r
    ·cases s
     ·go_enter Tryz.func80,Tryz.ntmps80
      go_wp2
      go_ret
      exact ⟨by rw [HV.out];rfl,rfl⟩
     ·go_enter Tryz.func80,Tryz.ntmps80
      go_wp2
      go_ret
      exact ⟨by rw [HV.out];rfl,rfl⟩
    ·go_enter Tryz.func80,Tryz.ntmps80
     go_wp2
     go_ret
     exact ⟨by rw [HV.out];rfl,rfl⟩
   ·go_enter Tryz.func80,Tryz.ntmps80
    go_wp2
    go_ret
    exact ⟨by rw [HV.out];rfl,rfl⟩
  ·go_enter Tryz.func80,Tryz.ntmps80
   go_wp2
   go_ret
   exact ⟨by rw [HV.out];rfl,rfl⟩
 exact HZ _ _ _ _ rfl rfl rfl rfl
def someZ:Nat→List T5→Int→Int→List V×List T5
 | 0,_,_,_=>([],[])
 | _+1,[],_,_=>([],[])
 | f+1,t::r,c,n =>
   if c≠0∧t.k=c then ([],r)
   else if closeZ t.k=0 then (V.mk t []::(someZ f r c n).1,(someZ f r c n).2)
   else if 64<n+1 then someZ f (someZ f r (closeZ t.k) (n+1)).2 c n
   else (V.mk t (someZ f r (closeZ t.k) (n+1)).1::(someZ f (someZ f r (closeZ t.k) (n+1)).2 c n).1,(someZ f (someZ f r (closeZ t.k) (n+1)).2 c n).2)
theorem some_len:∀ (f:Nat) (l:List T5) (c n:Int),(someZ f l c n).2.length≤l.length
 | 0,l,_,_=>by simp [someZ]
 | _+1,[],_,_=>by simp [someZ]
 | f+1,t::r,c,n=>by
   have h1:=some_len f r c n
   have h2:=some_len f r (closeZ t.k) (n+1)
   have h3:=some_len f (someZ f r (closeZ t.k) (n+1)).2 c n
   rw [someZ]
   repeat' split
   all_goals simp only [List.length_cons]
   all_goals omega
def Row (P:Nat→Prop) (B:Nat) (w:World) (out:Value) (ps:List (T5×Value×List V)):Prop :=
 w.ownsRow B 98 6 out ps.length (ps.flatMap fun p=>vCells p.1 p.2.1)∧(∀ g,out.ownBlock=some g→P g)∧∀ p∈ps,VsAt (fun b=>P b∧out.ownBlock≠some b) w p.2.1 p.2.2
def mkV (p:T5×Value×List V):V:=V.mk p.1 p.2.2
theorem flat_at:∀ (ps:List (T5×Value×List V)) (k i:Nat) (h:k<ps.length),i<6→(ps.flatMap fun p=>vCells p.1 p.2.1)[k * 6+i]? = (vCells (ps[k]'h).1 (ps[k]'h).2.1)[i]?
 | [],k,_,h,_=>by simp at h
 | t::r,0,i,_,hi=>by
   simp only [List.flatMap_cons,Nat.zero_mul,Nat.zero_add]
   rw [List.getElem?_append_left (by simpa [vCells] using hi)]
   rfl
 | t::r,k+1,i,h,hi=>by
   have e:(k+1) * 6+i=6+(k * 6+i):=by omega
   rw [List.flatMap_cons,e,List.getElem?_append_right (by simp [vCells])]
   have e2:6+(k * 6+i) - (vCells t.1 t.2.1).length=k * 6+i:=by simp [vCells]
   rw [e2]
   exact flat_at r k i (by simpa using h) hi
theorem Row.vals {P:Nat→Prop} {B:Nat} {w:World} {out:Value} {ps:List (T5×Value×List V)} (h:Row P B w out ps):VsAt P w out (ps.map mkV):=by
 have hl:(ps.map mkV).length=ps.length:=List.length_map ..
 have hg:∀ i (hi:i<(ps.map mkV).length),(ps.map mkV)[i]'hi=mkV (ps[i]'(by omega)):=fun i hi=>List.getElem_map ..
 refine VsAt.own (B:=B) (kv:=fun i=>match ps[i]? with | some p=>p.2.1 | none=>.slice none 0 0) (cs:=ps.flatMap fun p=>vCells p.1 p.2.1) (by rw [hl];exact h.1) h.2.1 ?_ ?_
 ·intro i hi j y hy
  have hi':i<ps.length:=by omega
  have hj:j<6:=by
   have:=(List.getElem?_eq_some_iff.1 hy).1
   simpa [vCells] using this
  rw [flat_at ps i j hi' hj,← hy,hg i hi]
  simp only [List.getElem?_eq_getElem hi']
  rfl
 ·intro i hi
  have hi':i<ps.length:=by omega
  rw [hg i hi]
  simp only [List.getElem?_eq_getElem hi']
  exact (h.2.2 _ (List.getElem_mem hi')).wider (fun b hb _=>hb.1)
theorem Row.keep {P:Nat→Prop} {B:Nat} {w w':World} {out:Value} {ps:List (T5×Value×List V)} (h:Row P B w out ps) (hb:Below w.heap.size w w'):Row P B w' out ps:=⟨ownsRow_below h.1 hb,h.2.1,fun p hp=>VsAt.keep hb (h.2.2 p hp)⟩
theorem Row.push {P:Nat→Prop} {B:Nat} {w w':World} {o:Obj} {out v':Value} {ps:List (T5×Value×List V)} {t:T5} {kid:Value} {kids:List V} (h:Row P B w out ps) (hk:VsAt (fun b=>P b∧out.ownBlock≠some b) w kid kids)
  (hown:w'.ownsRow B 98 6 v' (ps.length+1) ((ps.flatMap fun p=>vCells p.1 p.2.1)++vCells t kid)) (hg:(w.alloc o).grownBy w' out.ownBlock) (hat:v'.ownBlock=out.ownBlock∨v'.ownBlock=some (w.alloc o).heap.size) (hP:P (w.alloc o).heap.size):Row P B w' v' (ps++[(t,kid,kids)]):=by
 have hs:(w.alloc o).heap.size=w.heap.size+1:=by simp
 have keep:∀ {x:Value} {xs:List V},VsAt (fun b=>P b∧out.ownBlock≠some b) w x xs→VsAt (fun b=>P b∧v'.ownBlock≠some b) w' x xs:=by
  intro x xs hx
  have h1:VsAt (fun b=>(P b∧out.ownBlock≠some b)∧v'.ownBlock≠some b) w x xs:=hx.wider (fun b hb hlt=>⟨hb,by
   rcases hat with e | e
   ·rw [e];exact hb.2
   ·rw [e,hs]
    intro e2
    have:=Option.some.inj e2
    omega⟩)
  have h2:=h1.stay (W':=w') (by have:=hg.size;omega) (fun b hb hlt=>by
   rw [hg.block b (by omega) (fun e=>hb.1.2 e.symm)]
   exact Below.heap_alloc w o b hlt)
  exact h2.wider (fun b hb _=>⟨hb.1.1,hb.2⟩)
 refine ⟨?_,?_,?_⟩
 ·rw [List.length_append,List.flatMap_append,List.flatMap_singleton]
  exact hown
 ·intro g hgo
  rcases hat with e | e
  ·exact h.2.1 g (e.symm.trans hgo)
  ·rw [e] at hgo
   cases hgo
   exact hP
 ·intro p hp
  rcases List.mem_append.1 hp with hp | hp
  ·exact keep (h.2.2 p hp)
  ·rw [List.mem_singleton.1 hp]
   exact keep hk
end Go.Proofs.YtemlnblifkdenaaGreatDoor.Y
namespace Go.Proofs.YtemlnblifkdenaaGreatDoor.Y
open Go.RowKit
open Go.Proofs.YtemlnblifkdenaaGreatDoor.L (T5 V VsAt t5Cells vCells cell_of_heap)
def sliceLen:Value→Nat
 | .slice _ n _=>n
 | _=>0
theorem Tryz.info98:(Tryz.prog.info? 98).map (fun i=>(i.zero,i.size,i.bytes))=some (some (.agg #[.int .i64 0,.string ⟨#[]⟩,.string ⟨#[]⟩,.bool false,.bool false,.slice none 0 0]),6,72):=by kernel_rfl
theorem news6 (w:World) (x0 x1 x2 x3 x4 x5:Value) (j:Nat) (u:Value) (h:[x0,x1,x2,x3,x4,x5][j]? = some u):(w.alloc (.cells #[x0,x1,x2,x3,x4,x5] 98)).cell? ((⟨w.heap.size,0,none⟩:Addr).add j)=some u :=
 World.news_of_block (cs:=#[x0,x1,x2,x3,x4,x5]) (t:=98) (fr:=(0,0)) (heap_alloc_new w _) j u h
theorem addr_eq {b o o':Nat} (h:o=o'):(⟨b,o,none⟩:Addr)=⟨b,o',none⟩:=by subst h;rfl
theorem TsAt.tail {W:World} {b off c:Nat} {t:T5} {r:List T5} (h:TsAt W (.slice (some ⟨b,off,none⟩) (r.length+1) c) (t::r)) (a':Addr) (ha:0<r.length→a'=⟨b,off+5,none⟩):TsAt W (.slice (some a') r.length (c - 1)) r:=by
 obtain ⟨a,c',hv,h1,h2,h3⟩:=h
 have e1:a=some ⟨b,off,none⟩:=by injection hv with x y z;exact x.symm
 have e2:c'=c:=by injection hv with x y z;exact z.symm
 subst e1 e2
 rw [List.length_cons] at h1
 refine ⟨_,_,rfl,by omega,by omega,fun h0=>?_⟩
 obtain ⟨b',off',ha',hlt,hc⟩:=h3 (by simp)
 cases ha'
 refine ⟨b,off+5,congrArg some (ha h0),hlt,fun i hi j y hy=>?_⟩
 have:=hc (i+1) (by simp;omega) j y hy
 rw [show off+5+i * 5+j=off+(i+1) * 5+j by omega]
 exact this
theorem someZ_nil (g:Nat) (c n:Int):someZ g [] c n=([],[]):=by cases g <;> rfl
theorem tok6 {W:World} {B:Nat} {x0 x1 x2 x3 x4 x5:Value} (h:W.heap[B]? = some (.cells #[x0,x1,x2,x3,x4,x5] 98 (0,0))) :
  W.cell? ⟨B,0,none⟩=some x0∧W.cell? ⟨B,1,none⟩=some x1∧W.cell? ⟨B,2,none⟩=some x2∧W.cell? ⟨B,3,none⟩=some x3∧W.cell? ⟨B,4,none⟩=some x4∧W.cell? ⟨B,5,none⟩=some x5:=by
 refine ⟨?_,?_,?_,?_,?_,?_⟩ <;> simp [World.cell?,h]
theorem tok6f {W:World} {B:Nat} {x0 x1 x2 x3 x4 x5:Value} (h:W.heap[B]? = some (.cells #[x0,x1,x2,x3,x4,x5] 98 (0,0))):W.frozen? ⟨B,5,none⟩=false:=by
 simp [World.frozen?,h]
theorem opened {P0:Nat} {W wr WA w1:World} {u8:Value} {ps:List (T5×Value×List V)} {x0 x1 x2 x3 x4 x5:Value} {kv:Value} {kids:List V} (hrow:Row (fun b=>P0≤b) P0 wr u8 ps) (hB:Below P0 W wr) (hAW:Below wr.heap.size wr WA) (hb1:Below WA.heap.size WA w1)
  (hx:WA.heap[wr.heap.size+1]? = some (.cells #[x0,x1,x2,x3,x4,x5] 98 (0,0))) (hk:VsAt (fun b=>WA.heap.size≤b) w1 kv kids) (hP:P0≤wr.heap.size) :
  Row (fun b=>P0≤b) P0 (w1.setCell ⟨wr.heap.size+1,5,none⟩ kv) u8 ps∧Below P0 W (w1.setCell ⟨wr.heap.size+1,5,none⟩ kv)∧(w1.setCell ⟨wr.heap.size+1,5,none⟩ kv).heap[wr.heap.size+1]? = some (.cells #[x0,x1,x2,x3,x4,kv] 98 (0,0))∧VsAt (fun b=>P0≤b∧u8.ownBlock≠some b) (w1.setCell ⟨wr.heap.size+1,5,none⟩ kv) kv kids:=by
 have hlt:wr.heap.size+1<WA.heap.size:=(Array.getElem?_eq_some_iff.1 hx).1
 have h1:Below wr.heap.size wr (w1.setCell ⟨wr.heap.size+1,5,none⟩ kv):=(hAW.trans (hb1.mono hAW.size)).setCell (p:=⟨wr.heap.size+1,5,none⟩) (by show wr.heap.size≤wr.heap.size+1;omega) kv
 have hx1:=(hb1.block _ hlt).trans hx
 refine ⟨hrow.keep h1,hB.trans (h1.mono hP),?_,?_⟩
 ·have:=heap_setCell_same w1 (wr.heap.size+1) 5 #[x0,x1,x2,x3,x4,x5] 98 kv hx1
  rw [this]
  rfl
 ·have h2:=hk.stay (W':=w1.setCell ⟨wr.heap.size+1,5,none⟩ kv) (by simp) (fun b hb _=>Below.heap_setCell w1 ⟨wr.heap.size+1,5,none⟩ kv b (by show b≠wr.heap.size+1;omega))
  refine h2.wider (fun b hb _=>⟨by have:=hAW.size;omega,fun e=>?_⟩)
  have:=(hrow.1.lt b e).2
  have:=hAW.size
  omega
theorem some_any (f:Nat):∀ (ts:List T5),ts.length≤f→∀ (W0:World) (v:Value),TsAt W0 v ts→∀ W,Below W0.heap.size W0 W→∀ (c n:Int),0≤n→n+ts.length≤100000 →
  Calls Tryz.prog 39 #[v,.int .i64 c,.int .i64 n] W fun e w'=>∃ out rest,e=.returned (.tuple #[out,rest])∧VsAt (fun b=>W.heap.size≤b) w' out (someZ f ts c n).1∧TsAt W0 rest (someZ f ts c n).2∧Below W.heap.size W w':=by
 induction f using Nat.strongRecOn with
 | _ f ih =>
   intro ts hf W0 v hv W hW0 c n hn0 hn1
   obtain ⟨i0,hi0,hz0,hz1,hz2⟩:=info_parts Tryz.info98
   have HV:=hid_mk hv
   have HI:=hid_mk ih
   obtain ⟨a,cap,rfl,hl,hcap,_⟩:=hv
   clear ih
   go_enter Tryz.func39,Tryz.ntmps39
   go_wp2
   go_loopw [0,8] (fun a0 a8 wr=>∃ (g:Nat) (r:List T5) (ps:List (T5×Value×List V)),r.length≤g∧g≤f∧TsAt W0 a0 r∧Row (fun b=>W.heap.size≤b) W.heap.size wr a8 ps∧Below W.heap.size W wr∧someZ f ts c n=(ps.map mkV++(someZ g r c n).1,(someZ g r c n).2)∧ps.length+r.length≤ts.length) (fun a0 _ _=>sliceLen a0)
   case atStart=>exact ⟨f,ts,[],hf,Nat.le_refl _,HV.out,⟨World.ownsRow_nil _ _ _ _,fun g hg=>by simp [Value.ownBlock] at hg,fun p hp=>by cases hp⟩,Below.refl _ _,rfl,by simp⟩
   case round =>
    obtain ⟨g,r,ps,hg,hgf,hts,hrow,hB,hE,hpl⟩:=hrel
    have HE:=hid_mk hE
    clear hE HV
    have hW1:Below W0.heap.size W0 wr:=hW0.trans (hB.mono hW0.size)
    cases r with
    | nil =>
      obtain ⟨a0,c0,rfl,_⟩:=hts
      have HD:=hid_mk (someZ_nil g c n)
      have hvs:=hrow.vals
      have HR:Hid (VsAt (fun b=>W.heap.size≤b) wr u8 (someZ f ts c n).1∧(someZ f ts c n).2=[]):=by
       show _∧_
       rw [HE.out,HD.out,List.append_nil]
       exact ⟨hvs,rfl⟩
      clear hrow hvs HI HE HD
      go_wp2
      go_ret2
      exact ⟨_,_,rfl,HR.out.1,by rw [HR.out.2];exact TsAt.nil _,hB⟩
    | cons t r =>
      obtain ⟨g,rfl⟩:∃ g',g=g'+1:=⟨g - 1,by rw [List.length_cons] at hg;omega⟩
      have HTS:=hid_mk hts
      obtain ⟨a0,c0,rfl,hc1,hc2,hcell⟩:=hts
      obtain ⟨b,off,rfl,hbw,hcc⟩:=hcell (by simp)
      have hq:=fun j y hy=>(hW1.cell (p:=⟨b,off+0 * 5+j,none⟩) hbw).trans (hcc 0 (by simp) j y hy)
      simp only [Nat.zero_mul,Nat.add_zero,List.getElem_cons_zero] at hq
      rw [List.length_cons] at hg hpl hc1
      obtain ⟨tk,tx,un,wh,fl⟩:=t
      have q0:=hq 0 _ rfl
      have q1:=hq 1 _ rfl
      have q2:=hq 2 _ rfl
      have q3:=hq 3 _ rfl
      have q4:=hq 4 _ rfl
      simp only [Nat.add_zero] at q0
      clear hq hcc hcell
      by_cases hA:c≠0∧tk=c
      ·have HZ:Hid (someZ (g+1) (⟨tk,tx,un,wh,fl⟩::r) c n=([],r)):=by show _=_;rw [someZ,if_pos hA]
       have hvs:=hrow.vals
       have HR:Hid (VsAt (fun b=>W.heap.size≤b) wr u8 (someZ f ts c n).1∧(someZ f ts c n).2=r):=by
        show _∧_
        rw [HE.out,HZ.out,List.append_nil]
        exact ⟨hvs,rfl⟩
       obtain ⟨hc0,rfl⟩:=hA
       have z1:(tk != 0)=true:=by simpa using hc0
       have hBA:=fun o=>hB.alloc hB.size o
       have hal:∀ o,Below wr.heap.size wr (wr.alloc o):=fun o=>(Below.refl _ wr).alloc (Nat.le_refl _) o
       clear hrow hvs HI HE HZ hc0 hW1
       go_wp2
       all_goals
        go_ret2
        first
         | exact ⟨_,_,rfl,VsAt.keep (hal _) HR.out.1,by rw [HR.out.2];exact TsAt.tail HTS.out _ (fun h=>rfl),hBA _⟩
         | (obtain rfl:c0=1:=by omega
            exact ⟨_,_,rfl,VsAt.keep (hal _) HR.out.1,by rw [HR.out.2];exact TsAt.tail HTS.out _ (fun h=>by exfalso;omega),hBA _⟩)
      ·have hA2:(c != 0)=false∨((c != 0)=true∧(tk == c)=false):=by
        by_cases h0:c=0
        ·left;simp [h0]
        ·right
         exact ⟨by simpa using h0,by simpa using fun e=>hA ⟨h0,e⟩⟩
       have HA:=hid_mk hA
       have hen:=fun w=>rend_any tk w
       have hE1:∃ e,e=closeZ tk:=⟨_,rfl⟩
       obtain ⟨e,he⟩:=hE1
       rw [← he] at hen
       have HEQ:=hid_mk he
       clear hA he
       have hal2:∀ o o',Below wr.heap.size wr ((wr.alloc o).alloc o'):=fun o o'=>((Below.refl _ wr).alloc (Nat.le_refl _) o).alloc (by simp) o'
       have HRW:Hid (∀ o o',Row (fun b=>W.heap.size≤b) W.heap.size ((wr.alloc o).alloc o') u8 ps):=fun o o'=>hrow.keep (hal2 o o')
       have HTL:Hid (∀ a',(0<r.length→a'=⟨b,off+5,none⟩)→TsAt W0 (.slice (some a') r.length (c0 - 1)) r):=fun a' h=>TsAt.tail HTS.out a' h
       have HBB:Hid (∀ o o',Below W.heap.size W ((wr.alloc o).alloc o')):=fun o o'=>hB.trans ((hal2 o o').mono hB.size)
       have hbl:=fun o o'=>heap_alloc_new (wr.alloc o) o'
       have hs1:∀ o,(wr.alloc o).heap.size=wr.heap.size+1:=fun o=>by simp
       by_cases h0:e=0
       ·subst h0
        have HNX:Hid (someZ f ts c n=((ps++[((⟨tk,tx,un,wh,fl⟩:T5),(Value.slice none 0 0),([]:List V))]).map mkV++(someZ g r c n).1,(someZ g r c n).2)):=by
         show _=_
         rw [HE.out,someZ,if_neg HA.out,if_pos HEQ.out.symm,List.map_append,List.append_assoc]
         rfl
        clear hrow hB HI HE HTS hal2 hW1
        rcases hA2 with z1 | ⟨z1,z2⟩
        all_goals
         go_wp2_with (go_at_call 80;fail)
         all_goals
          refine (hen _).mono ?_
          rintro e' w' ⟨rfl,rfl⟩
          have hRW:=HRW.out (.cells #[.int .i64 tk,.string tx,.string un,.bool wh,.bool fl] 65) (.cells #[.int .i64 tk,.string tx,.string un,.bool wh,.bool fl,.slice none 0 0] 98)
          have hBB:=HBB.out (.cells #[.int .i64 tk,.string tx,.string un,.bool wh,.bool fl] 65) (.cells #[.int .i64 tk,.string tx,.string un,.bool wh,.bool fl,.slice none 0 0] 98)
          have x0:=hbl (.cells #[.int .i64 tk,.string tx,.string un,.bool wh,.bool fl] 65) (.cells #[.int .i64 tk,.string tx,.string un,.bool wh,.bool fl,.slice none 0 0] 98)
          rw [hs1] at x0
          generalize (wr.alloc (.cells #[.int .i64 tk,.string tx,.string un,.bool wh,.bool fl] 65)).alloc (.cells #[.int .i64 tk,.string tx,.string un,.bool wh,.bool fl,.slice none 0 0] 98)=WA at *
          obtain ⟨y0,y1,y2,y3,y4,y5⟩:=tok6 x0
          have hbs:=hBB.size
          have HROW:=hid_mk hRW
          have hown:=hRW.1
          clear hRW HRW HBB hbl hs1 q0 q1 q2 q3 q4
          go_wp2_with (at_builtin;go_must (refine wpList_append_own_at _ rfl _ _ 43 rfl W.heap.size 98 i0 _ 6 72 Tryz.underlying43 hi0 hz0 hz1 hz2 rfl (by decide) _ _ _ rfl (hown.alloc _) ⟨WA.heap.size,0,none⟩ 1 1 [.int .i64 tk,.string tx,.string un,.bool wh,.bool fl,.slice none 0 0] rfl rfl (news6 WA _ _ _ _ _ _) (by intro u hu;simp at hu;rcases hu with rfl | rfl | rfl | rfl | rfl | rfl <;> rfl) (by unfold maxLen;omega) (by omega) (by simp;omega) ?_);intro v' w7 hown7 hgrow7 _ hat7)
          go_roundw
          case rel =>
           first
            | exact ⟨g,r,_,by omega,by omega,HTL.out _ (fun h=>rfl),HROW.out.push (t:=⟨tk,tx,un,wh,fl⟩) (VsAt.nil _ _) hown7 hgrow7 hat7 (by simp;omega),(hBB.alloc hbs _).grown hgrow7 (by simp;omega) (fun k hk=>(hown.lt k hk).1),HNX.out,by simp;omega⟩
            | (obtain rfl:c0=1:=by omega
               exact ⟨g,r,_,by omega,by omega,HTL.out _ (fun h=>by exfalso;omega),HROW.out.push (t:=⟨tk,tx,un,wh,fl⟩) (VsAt.nil _ _) hown7 hgrow7 hat7 (by simp;omega),(hBB.alloc hbs _).grown hgrow7 (by simp;omega) (fun k hk=>(hown.lt k hk).1),HNX.out,by simp;omega⟩)
          case measure=>simp [sliceLen]
       ·have zE:(e != 0)=true:=by simpa using h0
        have HREC:Hid (∀ o o' a',(0<r.length→a'=⟨b,off+5,none⟩)→Calls Tryz.prog 39 #[.slice (some a') r.length (c0 - 1),.int .i64 e,.int .i64 (n+1)] ((wr.alloc o).alloc o') fun e' w'=>∃ out rest,e'=.returned (.tuple #[out,rest])∧VsAt (fun b=>((wr.alloc o).alloc o').heap.size≤b) w' out (someZ g r e (n+1)).1∧TsAt W0 rest (someZ g r e (n+1)).2∧Below ((wr.alloc o).alloc o').heap.size ((wr.alloc o).alloc o') w') :=
         fun o o' a' h=>HI.out g (by omega) r (by omega) W0 _ (HTL.out a' h) _ (hW1.trans ((hal2 o o').mono hW1.size)) e (n+1) (by omega) (by omega)
        have HROW0:=hid_mk hrow
        have HB0:=hid_mk hB
        have HAL2:=hid_mk hal2
        have hrl:=some_len g r e (n+1)
        have HSZ:Hid (someZ f ts c n=if 64<n+1 then (ps.map mkV++(someZ g (someZ g r e (n+1)).2 c n).1,(someZ g (someZ g r e (n+1)).2 c n).2) else (ps.map mkV++(V.mk ⟨tk,tx,un,wh,fl⟩ (someZ g r e (n+1)).1::(someZ g (someZ g r e (n+1)).2 c n).1),(someZ g (someZ g r e (n+1)).2 c n).2)):=by
         show _=_
         rw [HE.out,someZ,if_neg HA.out,if_neg (by rw [← HEQ.out];exact h0),← HEQ.out]
         by_cases h6:64<n+1
         ·rw [if_pos h6,if_pos h6]
         ·rw [if_neg h6,if_neg h6]
        generalize someZ g r e (n+1)=Z at *
        obtain ⟨zk,zr⟩:=Z
        clear hrow hB HI HTS hal2 hW1 HTL HE HA HEQ HBB HRW h0
        rcases hA2 with z1 | ⟨z1,z2⟩
        all_goals
         go_wp2_with (go_at_call 80;fail)
         all_goals
          refine (hen _).mono ?_
          rintro e' w' ⟨rfl,rfl⟩
          have x0:=hbl (.cells #[.int .i64 tk,.string tx,.string un,.bool wh,.bool fl] 65) (.cells #[.int .i64 tk,.string tx,.string un,.bool wh,.bool fl,.slice none 0 0] 98)
          have hrec:=HREC.out (.cells #[.int .i64 tk,.string tx,.string un,.bool wh,.bool fl] 65) (.cells #[.int .i64 tk,.string tx,.string un,.bool wh,.bool fl,.slice none 0 0] 98)
          have hAW:=HAL2.out (.cells #[.int .i64 tk,.string tx,.string un,.bool wh,.bool fl] 65) (.cells #[.int .i64 tk,.string tx,.string un,.bool wh,.bool fl,.slice none 0 0] 98)
          rw [hs1] at x0
          generalize (wr.alloc (.cells #[.int .i64 tk,.string tx,.string un,.bool wh,.bool fl] 65)).alloc (.cells #[.int .i64 tk,.string tx,.string un,.bool wh,.bool fl,.slice none 0 0] 98)=WA at *
          have HX0:=hid_mk x0
          clear HAL2 hbl hs1 q0 q1 q2 q3 q4 x0 HREC
          have hvlt:wr.heap.size+1<WA.heap.size:=(Array.getElem?_eq_some_iff.1 HX0.out).1
          go_wp2_with (go_at_call 39;fail)
          all_goals
           first
            | (have hc01:c0=1:=by omega
               subst hc01
               refine (hrec ⟨b,off,none⟩ (fun h=>by exfalso;omega)).mono ?_)
            | refine (hrec ⟨b,off+5,none⟩ (fun h=>rfl)).mono ?_
           rintro e' w1 ⟨kids,rest,rfl,hvk,htr,hb1⟩
           have x1:w1.heap[wr.heap.size+1]? = some (.cells #[.int .i64 tk,.string tx,.string un,.bool wh,.bool fl,.slice none 0 0] 98 (0,0)):=(hb1.block _ hvlt).trans HX0.out
           obtain ⟨y0,y1,y2,y3,y4,y5⟩:=tok6 x1
           have yf:=tok6f x1
           obtain ⟨ka,kc,rfl,_,_⟩:=hvk.slice
           obtain ⟨D1,D2,D3,D4⟩:=opened (P0:=W.heap.size) (HROW0.out) (HB0.out) hAW hb1 HX0.out hvk HB0.out.size
           have HD1:=hid_mk D1
           have HD2:=hid_mk D2
           have HD3:=hid_mk D3
           have HD4:=hid_mk D4
           have HTR:=hid_mk htr
           obtain ⟨ra,rc,rfl,_⟩:=htr
           clear hrec x1 hvk hb1 hAW HX0 D1 D2 D3 D4 HROW0 HB0
           go_upto_region 11 with fail
           generalize w1.setCell ⟨wr.heap.size+1,5,none⟩ (.slice ka zk.length kc)=w2 at *
           clear y0 y1 y2 y3 y4 y5 yf
           obtain ⟨y0,y1,y2,y3,y4,y5⟩:=tok6 HD3.out
           by_cases h6:64<n+1
           ·have z6:decide ((64:Int)<n+1)=true:=by simpa using h6
            have HNX:Hid (someZ f ts c n=(ps.map mkV++(someZ g zr c n).1,(someZ g zr c n).2)):=by
             show _=_
             have:=HSZ.out
             rwa [if_pos h6] at this
            clear HSZ y0 y1 y2 y3 y4 y5
            go_wp2
            go_roundw
            case rel=>exact ⟨g,zr,ps,by omega,by omega,HTR.out,HD1.out,HD2.out,HNX.out,by omega⟩
            case measure=>simp [sliceLen];omega
           ·have z6:decide ((64:Int)<n+1)=false:=by simpa using h6
            have HNX:Hid (someZ f ts c n=((ps++[((⟨tk,tx,un,wh,fl⟩:T5),(Value.slice ka zk.length kc),zk)]).map mkV++(someZ g zr c n).1,(someZ g zr c n).2)):=by
             show _=_
             have:=HSZ.out
             rw [if_neg h6] at this
             rw [this,List.map_append,List.append_assoc]
             rfl
            have hown:=HD1.out.1
            have hbs:=HD2.out.size
            clear HSZ
            go_wp2_with (at_builtin;go_must (refine wpList_append_own_at _ rfl _ _ 43 rfl W.heap.size 98 i0 _ 6 72 Tryz.underlying43 hi0 hz0 hz1 hz2 rfl (by decide) _ _ _ rfl (hown.alloc _) ⟨w2.heap.size,0,none⟩ 1 1 [.int .i64 tk,.string tx,.string un,.bool wh,.bool fl,.slice ka zk.length kc] rfl rfl (news6 w2 _ _ _ _ _ _) (by intro u hu;simp at hu;rcases hu with rfl | rfl | rfl | rfl | rfl | rfl <;> rfl) (by unfold maxLen;omega) (by omega) (by simp;omega) ?_);intro v' w7 hown7 hgrow7 _ hat7)
            go_roundw
            case rel=>exact ⟨g,zr,_,by omega,by omega,HTR.out,HD1.out.push (t:=⟨tk,tx,un,wh,fl⟩) HD4.out hown7 hgrow7 hat7 (by simp;omega),(HD2.out.alloc hbs _).grown hgrow7 (by simp;omega) (fun k hk=>(hown.lt k hk).1),HNX.out,by simp;omega⟩
            case measure=>simp [sliceLen];omega
end Go.Proofs.YtemlnblifkdenaaGreatDoor.Y
namespace Go.Proofs.YtemlnblifkdenaaGreatDoor.Y
open Go.RowKit
open Go.Proofs.YtemlnblifkdenaaGreatDoor.L (T5 V VsAt t5Cells vCells cell_of_heap)
theorem closeOf_any (k:Int) (w:World):Calls Tryz.prog 52 #[.int .i64 k] w fun e w'=>e=.returned (.int .i64 (closeZ k))∧w=w':=by
 have HZ:∀ (p q r s:Bool),p=(k == 19)→q=(k == 21)→r=(k == 2)→s=(k == 23)→Calls Tryz.prog 52 #[.int .i64 k] w fun e w'=>e=.returned (.int .i64 (closeZ k))∧w=w':=by
  intro p q r s z1 z2 z3 z4
  have HV:Hid (closeZ k=if p then 20 else if q || r then 22 else if s then 24 else 0):=by
   show _=_
   unfold closeZ
   rw [z1,z2,z3,z4]
   simp
  have y1:=z1.symm
  have y2:=z2.symm
  have y3:=z3.symm
  have y4:=z4.symm
  clear z1 z2 z3 z4
  cases p <;> cases q <;> cases r <;> cases s
  all_goals
   go_enter Tryz.func52,Tryz.ntmps52
   go_wp2
   go_ret
   exact ⟨by rw [HV.out];rfl,rfl⟩
 exact HZ _ _ _ _ rfl rfl rfl rfl
theorem ends0_any (cs:Array Value) (w:World):Calls Tryz.prog 23 #[.agg cs] w fun e w'=>e=.returned (.bool false)∧Below w.heap.size w w':=by
 go_enter Tryz.func23,Tryz.ntmps23
 go_wp2
 go_ret
 exact ⟨rfl,(Below.refl _ w).alloc (Nat.le_refl _) _⟩
theorem ends1_any (k c:Int) (tx un:ByteArray) (wh fl:Bool) (w:World) (B:Nat) (h:w.heap[B]? = some (.cells #[.int .i64 c] 3 (0,0))) :
  Calls Tryz.prog 100 #[.agg #[.int .i64 k,.string tx,.string un,.bool wh,.bool fl],.pointer (some ⟨B,0,none⟩)] w fun e w'=>e=.returned (.bool (k == c))∧Below w.heap.size w w':=by
 have hlt:B<w.heap.size:=(Array.getElem?_eq_some_iff.1 h).1
 have hc:w.cell? ⟨B,0,none⟩=some (.int .i64 c):=by simp [World.cell?,h]
 clear h
 go_enter Tryz.func100,Tryz.ntmps100
 go_wp2
 go_ret
 exact ⟨rfl,(Below.refl _ w).alloc (Nat.le_refl _) _⟩
theorem closes_any (k:Int) (tx un:ByteArray) (wh fl:Bool) (w:World) :
  Calls Tryz.prog 54 #[.agg #[.int .i64 k,.string tx,.string un,.bool wh,.bool fl]] w fun e w'=>∃ B,e=.returned (.func (.func 100) #[] #[.pointer (some ⟨B,0,none⟩)])∧w.heap.size≤B∧w'.heap[B]? = some (.cells #[.int .i64 (closeZ k)] 3 (0,0))∧Below w.heap.size w w':=by
 have hco:=fun w=>closeOf_any k w
 generalize closeZ k=c at *
 have hal:∀ o o',Below w.heap.size w ((w.alloc o).alloc o'):=fun o o'=>((Below.refl _ w).alloc (Nat.le_refl _) o).alloc (by simp) o'
 have hbl:∀ o o',((w.alloc o).alloc o').heap[w.heap.size+1]? = some o':=fun o o'=>by
  have:=heap_alloc_new (w.alloc o) o'
  rwa [show (w.alloc o).heap.size=w.heap.size+1 by simp] at this
 go_enter Tryz.func54,Tryz.ntmps54
 go_wp2_with (go_at_call 52;refine (hco _).mono ?_;rintro e w1 ⟨rfl,rfl⟩)
 go_ret
 exact ⟨_,rfl,by omega,hbl _ _,hal _ _⟩
theorem Tryz.info3:(Tryz.prog.info? 3).map (fun i=>(i.zero,i.size,i.bytes))=some (some (.int .i64 0),1,8):=by kernel_rfl
def runS:List Int→List T5→List T5
 | [],l=>l
 | _::_,[]=>[]
 | c::s,t::r=>if t.k=c then runS s r else if closeZ t.k=0 then runS (c::s) r else runS (closeZ t.k::c::s) r
termination_by _ l=>l.length
theorem runS_nil (s:List Int):runS s []=[]:=by cases s <;> simp [runS]
theorem runS_some:∀ (f:Nat) (l:List T5),l.length≤f→∀ (c n:Int) (s:List Int),c≠0→runS (c::s) l=runS s (someZ f l c n).2
 | f,[],_,c,n,s,_=>by rw [runS_nil,someZ_nil,runS_nil]
 | 0,t::r,h,c,n,s,_=>by simp at h
 | f+1,t::r,h,c,n,s,hc=>by
   rw [List.length_cons] at h
   rw [runS,someZ]
   by_cases h1:t.k=c
   ·rw [if_pos h1,if_pos ⟨hc,h1⟩]
   ·rw [if_neg h1,if_neg (show ¬ (c≠0∧t.k=c) from fun e=>h1 e.2)]
    by_cases h2:closeZ t.k=0
    ·rw [if_pos h2,if_pos h2]
     exact runS_some f r (by omega) c n s hc
    ·have hl:=some_len f r (closeZ t.k) (n+1)
     rw [if_neg h2,if_neg h2,runS_some f r (by omega) (closeZ t.k) (n+1) (c::s) h2,runS_some f _ (by omega) c n s hc]
     by_cases h3:64<n+1
     ·rw [if_pos h3]
     ·rw [if_neg h3]
theorem TsAt.drop {W:World} {b off n c:Nat} {ts:List T5} (h:TsAt W (.slice (some ⟨b,off,none⟩) n c) ts) (k:Nat) (hk:k≤ts.length) (a':Addr) (ha:k<ts.length→a'=⟨b,off+k * 5,none⟩):TsAt W (.slice (some a') (n - k) (c - k)) (ts.drop k):=by
 obtain ⟨a,c',hv,h1,h2,h3⟩:=h
 have e1:a=some ⟨b,off,none⟩:=by injection hv with x y z;exact x.symm
 have e2:c'=c:=by injection hv with x y z;exact z.symm
 have e3:n=ts.length:=by injection hv with x y z
 subst e1 e2 e3
 have hl:(ts.drop k).length=ts.length - k:=List.length_drop
 refine ⟨_,c' - k,by rw [hl],by omega,by omega,fun h0=>?_⟩
 obtain ⟨b',off',ha',hlt,hc⟩:=h3 (by omega)
 cases ha'
 refine ⟨b,off+k * 5,congrArg some (ha (by omega)),hlt,fun i hi j y hy=>?_⟩
 have:=hc (k+i) (by omega) j y (by rw [← hy];simp)
 rw [show off+k * 5+i * 5+j=off+(k+i) * 5+j by omega]
 exact this
theorem behind_any (ts:List T5) (W0 W:World) (v:Value) (hv:TsAt W0 v ts) (hW0:Below W0.heap.size W0 W) (k:Int) (tx un:ByteArray) (wh fl:Bool) (hn:ts.length≤100000) :
  Calls Tryz.prog 53 #[v,.agg #[.int .i64 k,.string tx,.string un,.bool wh,.bool fl]] W fun e w'=>∃ rest,e=.returned rest∧TsAt W0 rest (runS [closeZ k] ts)∧Below W.heap.size W w':=by
 have hco:=fun w=>closeOf_any k w
 generalize closeZ k=c at *
 have HV:=hid_mk hv
 obtain ⟨a,cap,rfl,hl,hcap,hxx⟩:=hv
 go_enter Tryz.func53,Tryz.ntmps53
 go_wp2_with (go_at_call 52;refine (hco _).mono ?_;rintro e w1 ⟨rfl,rfl⟩)
 have HI:Hid (((W.alloc (.cells #[.int .i64 k,.string tx,.string un,.bool wh,.bool fl] 65)).alloc (.cells #[.int .i64 c] 3)).ownsRow W.heap.size 3 1 (.slice (some ⟨W.heap.size+1,0,none⟩) 1 1) 1 [.int .i64 c]):=by
  have:=World.ownsRow_lit (base:=W.heap.size) (e:=3) (size:=1) (W.alloc (.cells #[.int .i64 k,.string tx,.string un,.bool wh,.bool fl] 65)) #[.int .i64 c] 1 (by simp) (by decide) rfl
  rwa [show (W.alloc (.cells #[.int .i64 k,.string tx,.string un,.bool wh,.bool fl] 65)).heap.size=W.heap.size+1 by simp] at this
 have HB:Hid (Below W.heap.size W ((W.alloc (.cells #[.int .i64 k,.string tx,.string un,.bool wh,.bool fl] 65)).alloc (.cells #[.int .i64 c] 3))):=((Below.refl _ W).alloc (Nat.le_refl _) _).alloc (by simp) _
 go_loopw [5,16] (fun a5 a16 wr=>∃ (i:Nat) (ss:List Int) (c':Int),i≤ts.length∧a16=.int .i64 (i:Int)∧wr.ownsRow W.heap.size 3 1 a5 (ss.length+1) ((ss++[c']).map (Value.int .i64))∧ss.length≤i∧runS [c] ts=runS (c'::ss.reverse) (ts.drop i)∧Below W.heap.size W wr) (fun _ a16 _=>ts.length+1 - (intOf a16).toNat)
 case atStart=>exact ⟨0,[],c,Nat.zero_le _,rfl,HI.out,Nat.zero_le _,rfl,HB.out⟩
 case round =>
  obtain ⟨i,ss,c',hi,rfl,hown,hss,hE,hB⟩:=hrel
  clear HI HB hco
  by_cases hlt:i<ts.length
  ·obtain ⟨g,rcap,rfl⟩:=ownsRow_succ hown
   obtain ⟨b,off,rfl,hbw,hcell⟩:=hxx (by omega)
   have hq:=fun j y hy=>((hW0.trans (hB.mono hW0.size)).cell (p:=⟨b,off+i * 5+j,none⟩) hbw).trans (hcell i hlt j y hy)
   have hdr:ts.drop i=ts[i]'hlt::ts.drop (i+1):=List.drop_eq_getElem_cons hlt
   rw [hdr] at hE
   clear hdr
   generalize ts[i]'hlt=t at *
   obtain ⟨tk,ttx,tun,twh,tfl⟩:=t
   have q0:wr.cell? ⟨b,off+i * 5,none⟩=some (.int .i64 tk):=hq 0 _ rfl
   have q1:wr.cell? ⟨b,off+i * 5+1,none⟩=some (.string ttx):=hq 1 _ rfl
   have q2:wr.cell? ⟨b,off+i * 5+2,none⟩=some (.string tun):=hq 2 _ rfl
   have q3:wr.cell? ⟨b,off+i * 5+3,none⟩=some (.bool twh):=hq 3 _ rfl
   have q4:wr.cell? ⟨b,off+i * 5+4,none⟩=some (.bool tfl):=hq 4 _ rfl
   have hlt2:=(hown.lt g rfl).2
   have hbw2:b<wr.heap.size:=Nat.lt_of_lt_of_le hbw (Nat.le_trans hW0.size hB.size)
   have hrc:wr.cell? ⟨g,ss.length,none⟩=some (.int .i64 c'):=by
    rw [hown.cellAt ss.length (by omega)]
    simp
   have hbs:=hB.size
   have hrm:ss.length+1≤rcap∧rcap≤9223372036854775807:=by
    rcases hown.2 with ⟨h,_⟩ | ⟨_,_,_,h,_,_,h1,h2,_⟩
    ·cases h
    ·cases h
     exact ⟨h1,h2⟩
   obtain ⟨hr1,hr2⟩:=hrm
   have HBA:Hid (∀ o,Below W.heap.size W (wr.alloc o)):=fun o=>hB.alloc hbs o
   have HTD:Hid (∀ a' n' d',n'=ts.length - (i+1)→d'=cap - (i+1)→(i+1<ts.length→a'=⟨b,off+(i+1) * 5,none⟩)→TsAt W0 (.slice (some a') n' d') (ts.drop (i+1))):=by
    rintro a' n' d' rfl rfl h
    exact HV.out.drop (i+1) (by omega) a' h
   have HOWN:=hid_mk hown
   have HE:Hid (runS [c] ts=if tk=c' then runS ss.reverse (ts.drop (i+1)) else if closeZ tk=0 then runS (c'::ss.reverse) (ts.drop (i+1)) else runS (closeZ tk::c'::ss.reverse) (ts.drop (i+1))):=by
    show _=_
    rw [hE,runS]
   clear hq hcell hxx hE hown hB HV hW0
   by_cases h1:tk=c'
   ·subst h1
    have HE1:=HE.out
    rw [if_pos rfl] at HE1
    have HF:=hid_mk HE1
    clear HE HE1
    rcases List.eq_nil_or_concat ss with rfl | ⟨ss',c2,rfl⟩
    ·have HR:Hid (runS [c] ts=ts.drop (i+1)):=by
      show _=_
      rw [HF.out,List.reverse_nil,runS]
     simp only [List.length_nil,Nat.zero_add] at hrc hr1 HOWN
     simp only [List.length_nil,Nat.zero_add]
     clear HF HOWN
     go_wp2
     go_quiet (fail)
     go_wp2
     all_goals
      go_ret
      exact ⟨_,rfl,by rw [HR.out];exact HTD.out _ _ _ (by omega) (by omega) (fun h=>by first | exact addr_eq (by omega) | (exfalso;omega)),(HBA.out _).trans (below_drewN5 _ _ _)⟩
    ·have HR:Hid (runS [c] ts=runS (c2::ss'.reverse) (ts.drop (i+1))):=by
      show _=_
      rw [HF.out,List.concat_eq_append,List.reverse_append]
      rfl
     have HP:Hid (wr.ownsRow W.heap.size 3 1 (.slice (some ⟨g,0,none⟩) (ss'.length+1) rcap) (ss'.length+1) ((ss'++[c2]).map (Value.int .i64))):=by
      have:=HOWN.out
      rw [List.concat_eq_append,List.map_append] at this
      have hl2:(ss'++[c2]).length=ss'.length+1:=by simp
      rw [hl2] at this
      exact ownsRow_pop (by simp) this
     have hl2:(ss'.concat c2).length=ss'.length+1:=by simp
     rw [hl2] at hrc hr1 hss
     rw [hl2]
     clear HF HOWN hl2
     go_wp2
     go_quiet (fail)
     go_wp2
     go_roundw
     case rel=>exact ⟨i+1,ss',c2,by omega,by go_num,ownsRow_below (HP.out.alloc _) (below_drewN5 _ _ _),by omega,HR.out,(HBA.out _).trans (below_drewN5 _ _ _)⟩
     case measure=>simp [intOf];omega
   ·have z1:(tk == c')=false:=by simpa using h1
    have HE1:=HE.out
    rw [if_neg h1] at HE1
    have HF:=hid_mk HE1
    have hco:=fun w=>closeOf_any tk w
    generalize closeZ tk=e at *
    clear HE HE1 h1
    by_cases h2:e=0
    ·subst h2
     have HR:=HF.out
     rw [if_pos rfl] at HR
     have HG:=hid_mk HR
     clear HR HF
     go_wp2
     go_quiet (fail)
     go_wp2_with (go_at_call 52;refine (hco _).mono ?_;rintro e' w' ⟨rfl,rfl⟩)
     go_roundw
     case rel=>exact ⟨i+1,ss,c',by omega,by go_num,ownsRow_below (HOWN.out.alloc _) (below_drewN5 _ _ _),by omega,HG.out,(HBA.out _).trans (below_drewN5 _ _ _)⟩
     case measure=>simp [intOf];omega
    ·have z2:(e != 0)=true:=by simpa using h2
     have HG:Hid (runS [c] ts=runS (e::(ss++[c']).reverse) (ts.drop (i+1))):=by
      show _=_
      have:=HF.out
      rw [if_neg h2] at this
      rw [this,List.reverse_append]
      rfl
     clear HF h2
     go_wp2
     go_quiet (fail)
     go_wp2_with (go_at_call 52;refine (hco _).mono ?_;rintro e' w' ⟨rfl,rfl⟩;fail)
     go_at_call 52
     refine (hco _).mono ?_
     rintro e' w' ⟨rfl,rfl⟩
     have hown2:=ownsRow_below (HOWN.out.alloc (.cells #[.int .i64 tk,.string ttx,.string tun,.bool twh,.bool tfl] 65)) (below_drewN5 _ _ nq)
     have HB2:Hid (Below W.heap.size W ((wr.alloc (.cells #[.int .i64 tk,.string ttx,.string tun,.bool twh,.bool tfl] 65)).drewN nq)):=(HBA.out _).trans (below_drewN5 _ _ _)
     generalize (wr.alloc (.cells #[.int .i64 tk,.string ttx,.string tun,.bool twh,.bool tfl] 65)).drewN nq=WA at *
     obtain ⟨i0,hi0,hz0,hz1,hz2⟩:=info_parts Tryz.info3
     have hbs2:=HB2.out.size
     go_wp2_with (at_builtin;go_must (refine wpList_append_own _ rfl _ _ 35 rfl W.heap.size 3 i0 _ 1 8 Tryz.underlying35 hi0 hz0 hz1 hz2 rfl (by decide) _ _ _ rfl (hown2.alloc _) ⟨WA.heap.size,0,none⟩ 1 1 [.int .i64 e] rfl rfl (cell_one_new _ _ _) (by intro u hu;simp at hu;subst hu;rfl) (by unfold maxLen;omega) (by omega) (by simp;omega) ?_);intro v' w7 hown7 hgrow7 _;obtain ⟨g7,cap7,rfl⟩:=ownsRow_succ hown7)
     go_roundw
     case rel=>exact ⟨i+1,ss++[c'],e,by omega,by go_num,by simpa using hown7,by simp;omega,HG.out,(HB2.out.alloc hbs2 _).grown hgrow7 (by simp;omega) (fun k hk=>(hown2.lt k hk).1)⟩
     case measure=>simp [intOf];omega
  ·have hd:ts.drop i=[]:=List.drop_eq_nil_of_le (by omega)
   rw [hd,runS_nil] at hE
   clear hd hown hW0
   have HE:=hid_mk hE
   clear hE
   go_wp2
   go_ret
   exact ⟨_,rfl,by rw [HE.out];exact TsAt.nil _,hB⟩
end Go.Proofs.YtemlnblifkdenaaGreatDoor.Y
