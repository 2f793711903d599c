/- Carried from layer 3. -/
import Derived.Test.YtdneaeokljoijaaGreatDoorYSameV
import Derived.Deep.AppendLies
import Derived.Maps.AppendAt
import Derived.Deep.DeepCutAuto
import Derived.WalkSmall
import Derived.RangeFuncBox
import Derived.Deep.DeepMust
import Derived.Deep.CutBlock
set_option maxRecDepth 100000
set_option maxHeartbeats 8000000
namespace Go.Proofs.YtdneaeokljoijaaGreatDoor.Y
open Go.RowKit
open Go.Proofs.YtdneaeokljoijaaGreatDoor.L (T5 V VsAt t5Cells vCells cell_of_heap)
theorem hid_mk {p:Prop} (h:p):Hid p:=h
theorem ownsRow_below {w w':World} {B:Nat} {e:TypeId} {size:Nat} {v:Value} {n:Nat} {xs:List Value} (h:w.ownsRow B e size v n xs) (hb:Below w.heap.size w w'):w'.ownsRow B e size v n xs:=by
 refine ⟨h.1,h.2.imp id ?_⟩
 rintro ⟨g,cap,cur,e1,h1,h2,h3⟩
 exact ⟨g,cap,cur,e1,h1,(hb.block g (Array.getElem?_eq_some_iff.1 h2).1).trans h2,h3⟩
def TsAt (W:World) (v:Value) (ts:List T5):Prop :=
 ∃ a cap,v=.slice a ts.length cap∧ts.length≤cap∧cap≤9223372036854775807∧(0<ts.length→∃ b off,a=some ⟨b,off,none⟩∧b<W.heap.size∧∀ i (h:i<ts.length),∀ j y,(t5Cells (ts[i]'h))[j]? = some y→W.cell? ⟨b,off+i * 5+j,none⟩=some y)
theorem TsAt.keep {W W':World} (hb:Below W.heap.size W W') {v:Value} {ts:List T5} (h:TsAt W v ts):TsAt W' v ts:=by
 obtain ⟨a,cap,hv,h1,h2,h3⟩:=h
 refine ⟨a,cap,hv,h1,h2,fun h0=>?_⟩
 obtain ⟨b,off,ha,hlt,hc⟩:=h3 h0
 exact ⟨b,off,ha,Nat.lt_of_lt_of_le hlt hb.size,fun i h j y hy=>(hb.cell (p:=⟨b,off+i * 5+j,none⟩) hlt).trans (hc i h j y hy)⟩
theorem TsAt.nil (W:World):TsAt W (.slice none 0 0) []:=⟨none,0,rfl,Nat.le_refl _,by decide,fun h=>absurd h (by simp)⟩
def closeZ (k:Int):Int:=if k=19 then 20 else if k=21∨k=2 then 22 else if k=23 then 24 else 0
def someZ:Nat→List T5→Int→Int→List V×List T5
 | 0,_,_,_=>([],[])
 | _+1,[],_,_=>([],[])
 | f+1,t::r,c,n =>
   if c≠0∧t.k=c then ([],r)
   else if closeZ t.k=0 then (V.mk t []::(someZ f r c n).1,(someZ f r c n).2)
   else if 64<n+1 then someZ f (someZ f r (closeZ t.k) (n+1)).2 c n
   else (V.mk t (someZ f r (closeZ t.k) (n+1)).1::(someZ f (someZ f r (closeZ t.k) (n+1)).2 c n).1,(someZ f (someZ f r (closeZ t.k) (n+1)).2 c n).2)
theorem some_len:∀ (f:Nat) (l:List T5) (c n:Int),(someZ f l c n).2.length≤l.length
 | 0,l,_,_=>by simp [someZ]
 | _+1,[],_,_=>by simp [someZ]
 | f+1,t::r,c,n=>by
   have h1:=some_len f r c n
   have h2:=some_len f r (closeZ t.k) (n+1)
   have h3:=some_len f (someZ f r (closeZ t.k) (n+1)).2 c n
   rw [someZ]
   repeat' split
   all_goals simp only [List.length_cons]
   all_goals omega
def Row (P:Nat→Prop) (B:Nat) (w:World) (out:Value) (ps:List (T5×Value×List V)):Prop :=
 w.ownsRow B 34 6 out ps.length (ps.flatMap fun p=>vCells p.1 p.2.1)∧(∀ g,out.ownBlock=some g→P g)∧∀ p∈ps,VsAt (fun b=>P b∧out.ownBlock≠some b) w p.2.1 p.2.2
def mkV (p:T5×Value×List V):V:=V.mk p.1 p.2.2
theorem flat_at:∀ (ps:List (T5×Value×List V)) (k i:Nat) (h:k<ps.length),i<6→(ps.flatMap fun p=>vCells p.1 p.2.1)[k * 6+i]? = (vCells (ps[k]'h).1 (ps[k]'h).2.1)[i]?
 | [],k,_,h,_=>by simp at h
 | t::r,0,i,_,hi=>by
   simp only [List.flatMap_cons,Nat.zero_mul,Nat.zero_add]
   rw [List.getElem?_append_left (by simpa [vCells] using hi)]
   rfl
 | t::r,k+1,i,h,hi=>by
   have e:(k+1) * 6+i=6+(k * 6+i):=by omega
   rw [List.flatMap_cons,e,List.getElem?_append_right (by simp [vCells])]
   have e2:6+(k * 6+i) - (vCells t.1 t.2.1).length=k * 6+i:=by simp [vCells]
   rw [e2]
   exact flat_at r k i (by simpa using h) hi
theorem Row.vals {P:Nat→Prop} {B:Nat} {w:World} {out:Value} {ps:List (T5×Value×List V)} (h:Row P B w out ps):VsAt P w out (ps.map mkV):=by
 have hl:(ps.map mkV).length=ps.length:=List.length_map ..
 have hg:∀ i (hi:i<(ps.map mkV).length),(ps.map mkV)[i]'hi=mkV (ps[i]'(by omega)):=fun i hi=>List.getElem_map ..
 refine VsAt.own (B:=B) (kv:=fun i=>match ps[i]? with | some p=>p.2.1 | none=>.slice none 0 0) (cs:=ps.flatMap fun p=>vCells p.1 p.2.1) (by rw [hl];exact h.1) h.2.1 ?_ ?_
 ·intro i hi j y hy
  have hi':i<ps.length:=by omega
  have hj:j<6:=by
   have:=(List.getElem?_eq_some_iff.1 hy).1
   simpa [vCells] using this
  rw [flat_at ps i j hi' hj,← hy,hg i hi]
  simp only [List.getElem?_eq_getElem hi']
  rfl
 ·intro i hi
  have hi':i<ps.length:=by omega
  rw [hg i hi]
  simp only [List.getElem?_eq_getElem hi']
  exact (h.2.2 _ (List.getElem_mem hi')).wider (fun b hb _=>hb.1)
theorem Row.keep {P:Nat→Prop} {B:Nat} {w w':World} {out:Value} {ps:List (T5×Value×List V)} (h:Row P B w out ps) (hb:Below w.heap.size w w'):Row P B w' out ps:=⟨ownsRow_below h.1 hb,h.2.1,fun p hp=>VsAt.keep hb (h.2.2 p hp)⟩
theorem Row.push {P:Nat→Prop} {B:Nat} {w w':World} {o:Obj} {out v':Value} {ps:List (T5×Value×List V)} {t:T5} {kid:Value} {kids:List V} (h:Row P B w out ps) (hk:VsAt (fun b=>P b∧out.ownBlock≠some b) w kid kids)
  (hown:w'.ownsRow B 34 6 v' (ps.length+1) ((ps.flatMap fun p=>vCells p.1 p.2.1)++vCells t kid)) (hg:(w.alloc o).grownBy w' out.ownBlock) (hat:v'.ownBlock=out.ownBlock∨v'.ownBlock=some (w.alloc o).heap.size) (hP:P (w.alloc o).heap.size):Row P B w' v' (ps++[(t,kid,kids)]):=by
 have hs:(w.alloc o).heap.size=w.heap.size+1:=by simp
 have keep:∀ {x:Value} {xs:List V},VsAt (fun b=>P b∧out.ownBlock≠some b) w x xs→VsAt (fun b=>P b∧v'.ownBlock≠some b) w' x xs:=by
  intro x xs hx
  have h1:VsAt (fun b=>(P b∧out.ownBlock≠some b)∧v'.ownBlock≠some b) w x xs:=hx.wider (fun b hb hlt=>⟨hb,by
   rcases hat with e | e
   ·rw [e];exact hb.2
   ·rw [e,hs]
    intro e2
    have:=Option.some.inj e2
    omega⟩)
  have h2:=h1.stay (W':=w') (by have:=hg.size;omega) (fun b hb hlt=>by
   rw [hg.block b (by omega) (fun e=>hb.1.2 e.symm)]
   exact Below.heap_alloc w o b hlt)
  exact h2.wider (fun b hb _=>⟨hb.1.1,hb.2⟩)
 refine ⟨?_,?_,?_⟩
 ·rw [List.length_append,List.flatMap_append,List.flatMap_singleton]
  exact hown
 ·intro g hgo
  rcases hat with e | e
  ·exact h.2.1 g (e.symm.trans hgo)
  ·rw [e] at hgo
   cases hgo
   exact hP
 ·intro p hp
  rcases List.mem_append.1 hp with hp | hp
  ·exact keep (h.2.2 p hp)
  ·rw [List.mem_singleton.1 hp]
   exact keep hk
end Go.Proofs.YtdneaeokljoijaaGreatDoor.Y
namespace Go.Proofs.YtdneaeokljoijaaGreatDoor.Y
open Go.RowKit
open Go.Proofs.YtdneaeokljoijaaGreatDoor.L (T5 V VsAt t5Cells vCells cell_of_heap)
def sliceLen:Value→Nat
 | .slice _ n _=>n
 | _=>0
theorem Tryz.info34:(Tryz.prog.info? 34).map (fun i=>(i.zero,i.size,i.bytes))=some (some (.agg #[.int .i64 0,.string ⟨#[]⟩,.string ⟨#[]⟩,.bool false,.bool false,.slice none 0 0]),6,72):=by kernel_rfl
theorem news6 (w:World) (x0 x1 x2 x3 x4 x5:Value) (j:Nat) (u:Value) (h:[x0,x1,x2,x3,x4,x5][j]? = some u):(w.alloc (.cells #[x0,x1,x2,x3,x4,x5] 34)).cell? ((⟨w.heap.size,0,none⟩:Addr).add j)=some u :=
 World.news_of_block (cs:=#[x0,x1,x2,x3,x4,x5]) (t:=34) (fr:=(0,0)) (heap_alloc_new w _) j u h
theorem addr_eq {b o o':Nat} (h:o=o'):(⟨b,o,none⟩:Addr)=⟨b,o',none⟩:=by subst h;rfl
theorem TsAt.tail {W:World} {b off c:Nat} {t:T5} {r:List T5} (h:TsAt W (.slice (some ⟨b,off,none⟩) (r.length+1) c) (t::r)) (a':Addr) (ha:0<r.length→a'=⟨b,off+5,none⟩):TsAt W (.slice (some a') r.length (c - 1)) r:=by
 obtain ⟨a,c',hv,h1,h2,h3⟩:=h
 have e1:a=some ⟨b,off,none⟩:=by injection hv with x y z;exact x.symm
 have e2:c'=c:=by injection hv with x y z;exact z.symm
 subst e1 e2
 rw [List.length_cons] at h1
 refine ⟨_,_,rfl,by omega,by omega,fun h0=>?_⟩
 obtain ⟨b',off',ha',hlt,hc⟩:=h3 (by simp)
 cases ha'
 refine ⟨b,off+5,congrArg some (ha h0),hlt,fun i hi j y hy=>?_⟩
 have:=hc (i+1) (by simp;omega) j y hy
 rw [show off+5+i * 5+j=off+(i+1) * 5+j by omega]
 exact this
theorem someZ_nil (g:Nat) (c n:Int):someZ g [] c n=([],[]):=by cases g <;> rfl
theorem pair_cat {α β:Type} {x:List α×β} {ps:List α} {y z:List α×β} (h:x=(ps++y.1,y.2)) (e:y=z):x=(ps++z.1,z.2):=by rw [h,e]
theorem tok6 {W:World} {B:Nat} {x0 x1 x2 x3 x4 x5:Value} (h:W.heap[B]? = some (.cells #[x0,x1,x2,x3,x4,x5] 34 (0,0))) :
  W.cell? ⟨B,0,none⟩=some x0∧W.cell? ⟨B,1,none⟩=some x1∧W.cell? ⟨B,2,none⟩=some x2∧W.cell? ⟨B,3,none⟩=some x3∧W.cell? ⟨B,4,none⟩=some x4∧W.cell? ⟨B,5,none⟩=some x5:=by
 refine ⟨?_,?_,?_,?_,?_,?_⟩ <;> simp [World.cell?,h]
theorem tok6f {W:World} {B:Nat} {x0 x1 x2 x3 x4 x5:Value} (h:W.heap[B]? = some (.cells #[x0,x1,x2,x3,x4,x5] 34 (0,0))):W.frozen? ⟨B,5,none⟩=false:=by
 simp [World.frozen?,h]
theorem opened {P0:Nat} {W wr WA w1:World} {u8:Value} {ps:List (T5×Value×List V)} {x0 x1 x2 x3 x4 x5:Value} {kv:Value} {kids:List V} (hrow:Row (fun b=>P0≤b) P0 wr u8 ps) (hB:Below P0 W wr) (hAW:Below wr.heap.size wr WA) (hb1:Below WA.heap.size WA w1)
  (hx:WA.heap[wr.heap.size+1]? = some (.cells #[x0,x1,x2,x3,x4,x5] 34 (0,0))) (hk:VsAt (fun b=>WA.heap.size≤b) w1 kv kids) (hP:P0≤wr.heap.size) :
  Row (fun b=>P0≤b) P0 (w1.setCell ⟨wr.heap.size+1,5,none⟩ kv) u8 ps∧Below P0 W (w1.setCell ⟨wr.heap.size+1,5,none⟩ kv)∧(w1.setCell ⟨wr.heap.size+1,5,none⟩ kv).heap[wr.heap.size+1]? = some (.cells #[x0,x1,x2,x3,x4,kv] 34 (0,0))∧VsAt (fun b=>P0≤b∧u8.ownBlock≠some b) (w1.setCell ⟨wr.heap.size+1,5,none⟩ kv) kv kids:=by
 have hlt:wr.heap.size+1<WA.heap.size:=(Array.getElem?_eq_some_iff.1 hx).1
 have h1:Below wr.heap.size wr (w1.setCell ⟨wr.heap.size+1,5,none⟩ kv):=(hAW.trans (hb1.mono hAW.size)).setCell (p:=⟨wr.heap.size+1,5,none⟩) (by show wr.heap.size≤wr.heap.size+1;omega) kv
 have hx1:=(hb1.block _ hlt).trans hx
 refine ⟨hrow.keep h1,hB.trans (h1.mono hP),?_,?_⟩
 ·have:=heap_setCell_same w1 (wr.heap.size+1) 5 #[x0,x1,x2,x3,x4,x5] 34 kv hx1
  rw [this]
  rfl
 ·have h2:=hk.stay (W':=w1.setCell ⟨wr.heap.size+1,5,none⟩ kv) (by simp) (fun b hb _=>Below.heap_setCell w1 ⟨wr.heap.size+1,5,none⟩ kv b (by show b≠wr.heap.size+1;omega))
  refine h2.wider (fun b hb _=>⟨by have:=hAW.size;omega,fun e=>?_⟩)
  have:=(hrow.1.lt b e).2
  have:=hAW.size
  omega
end Go.Proofs.YtdneaeokljoijaaGreatDoor.Y
namespace Go.Proofs.YtdneaeokljoijaaGreatDoor.Y
open Go.RowKit
open Go.Proofs.YtdneaeokljoijaaGreatDoor.L (T5 V VsAt t5Cells vCells cell_of_heap)
theorem closeOf_any (k:Int) (w:World):Calls Tryz.prog 54 #[.int .i64 k] w fun e w'=>e=.returned (.int .i64 (closeZ k))∧w=w':=by
 have HZ:∀ (p q r s:Bool),p=(k == 19)→q=(k == 21)→r=(k == 2)→s=(k == 23)→Calls Tryz.prog 54 #[.int .i64 k] w fun e w'=>e=.returned (.int .i64 (closeZ k))∧w=w':=by
  intro p q r s z1 z2 z3 z4
  have HV:Hid (closeZ k=if p then 20 else if q || r then 22 else if s then 24 else 0):=by
   show _=_
   unfold closeZ
   rw [z1,z2,z3,z4]
   simp
  have y1:=z1.symm
  have y2:=z2.symm
  have y3:=z3.symm
  have y4:=z4.symm
  clear z1 z2 z3 z4
  cases p <;> cases q <;> cases r <;> cases s
  all_goals
   go_enter Tryz.func54,Tryz.ntmps54
   go_wp2
   go_ret
   exact ⟨by rw [HV.out];rfl,rfl⟩
 exact HZ _ _ _ _ rfl rfl rfl rfl
theorem ends0_any (cs:Array Value) (w:World):Calls Tryz.prog 35 #[.agg cs] w fun e w'=>e=.returned (.bool false)∧Below w.heap.size w w':=by
 go_enter Tryz.func35,Tryz.ntmps35
 go_wp2
 go_ret
 exact ⟨rfl,(Below.refl _ w).alloc (Nat.le_refl _) _⟩
theorem ends1_any (k c:Int) (tx un:ByteArray) (wh fl:Bool) (w:World) (B:Nat) (h:w.heap[B]? = some (.cells #[.int .i64 c] 3 (0,0))) :
  Calls Tryz.prog 86 #[.agg #[.int .i64 k,.string tx,.string un,.bool wh,.bool fl],.pointer (some ⟨B,0,none⟩)] w fun e w'=>e=.returned (.bool (k == c))∧Below w.heap.size w w':=by
 have hlt:B<w.heap.size:=(Array.getElem?_eq_some_iff.1 h).1
 have hc:w.cell? ⟨B,0,none⟩=some (.int .i64 c):=by simp [World.cell?,h]
 clear h
 go_enter Tryz.func86,Tryz.ntmps86
 go_wp2
 go_ret
 exact ⟨rfl,(Below.refl _ w).alloc (Nat.le_refl _) _⟩
theorem closes_any (k:Int) (tx un:ByteArray) (wh fl:Bool) (w:World) :
  Calls Tryz.prog 56 #[.agg #[.int .i64 k,.string tx,.string un,.bool wh,.bool fl]] w fun e w'=>∃ B,e=.returned (.func (.func 86) #[] #[.pointer (some ⟨B,0,none⟩)])∧w.heap.size≤B∧w'.heap[B]? = some (.cells #[.int .i64 (closeZ k)] 3 (0,0))∧Below w.heap.size w w':=by
 have hco:=fun w=>closeOf_any k w
 generalize closeZ k=c at *
 have hal:∀ o o',Below w.heap.size w ((w.alloc o).alloc o'):=fun o o'=>((Below.refl _ w).alloc (Nat.le_refl _) o).alloc (by simp) o'
 have hbl:∀ o o',((w.alloc o).alloc o').heap[w.heap.size+1]? = some o':=fun o o'=>by
  have:=heap_alloc_new (w.alloc o) o'
  rwa [show (w.alloc o).heap.size=w.heap.size+1 by simp] at this
 go_enter Tryz.func56,Tryz.ntmps56
 go_wp2_with (go_at_call 54;refine (hco _).mono ?_;rintro e w1 ⟨rfl,rfl⟩)
 go_ret
 exact ⟨_,rfl,by omega,hbl _ _,hal _ _⟩
theorem Tryz.info3:(Tryz.prog.info? 3).map (fun i=>(i.zero,i.size,i.bytes))=some (some (.int .i64 0),1,8):=by kernel_rfl
def runS:List Int→List T5→List T5
 | [],l=>l
 | _::_,[]=>[]
 | c::s,t::r=>if t.k=c then runS s r else if closeZ t.k=0 then runS (c::s) r else runS (closeZ t.k::c::s) r
termination_by _ l=>l.length
theorem runS_nil (s:List Int):runS s []=[]:=by cases s <;> simp [runS]
theorem runS_some:∀ (f:Nat) (l:List T5),l.length≤f→∀ (c n:Int) (s:List Int),c≠0→runS (c::s) l=runS s (someZ f l c n).2
 | f,[],_,c,n,s,_=>by rw [runS_nil,someZ_nil,runS_nil]
 | 0,t::r,h,c,n,s,_=>by simp at h
 | f+1,t::r,h,c,n,s,hc=>by
   rw [List.length_cons] at h
   rw [runS,someZ]
   by_cases h1:t.k=c
   ·rw [if_pos h1,if_pos ⟨hc,h1⟩]
   ·rw [if_neg h1,if_neg (show ¬ (c≠0∧t.k=c) from fun e=>h1 e.2)]
    by_cases h2:closeZ t.k=0
    ·rw [if_pos h2,if_pos h2]
     exact runS_some f r (by omega) c n s hc
    ·have hl:=some_len f r (closeZ t.k) (n+1)
     rw [if_neg h2,if_neg h2,runS_some f r (by omega) (closeZ t.k) (n+1) (c::s) h2,runS_some f _ (by omega) c n s hc]
     by_cases h3:64<n+1
     ·rw [if_pos h3]
     ·rw [if_neg h3]
theorem TsAt.drop {W:World} {b off n c:Nat} {ts:List T5} (h:TsAt W (.slice (some ⟨b,off,none⟩) n c) ts) (k:Nat) (hk:k≤ts.length) (a':Addr) (ha:k<ts.length→a'=⟨b,off+k * 5,none⟩):TsAt W (.slice (some a') (n - k) (c - k)) (ts.drop k):=by
 obtain ⟨a,c',hv,h1,h2,h3⟩:=h
 have e1:a=some ⟨b,off,none⟩:=by injection hv with x y z;exact x.symm
 have e2:c'=c:=by injection hv with x y z;exact z.symm
 have e3:n=ts.length:=by injection hv with x y z
 subst e1 e2 e3
 have hl:(ts.drop k).length=ts.length - k:=List.length_drop
 refine ⟨_,c' - k,by rw [hl],by omega,by omega,fun h0=>?_⟩
 obtain ⟨b',off',ha',hlt,hc⟩:=h3 (by omega)
 cases ha'
 refine ⟨b,off+k * 5,congrArg some (ha (by omega)),hlt,fun i hi j y hy=>?_⟩
 have:=hc (k+i) (by omega) j y (by rw [← hy];simp)
 rw [show off+k * 5+i * 5+j=off+(k+i) * 5+j by omega]
 exact this
theorem behind_any (ts:List T5) (W0 W:World) (v:Value) (hv:TsAt W0 v ts) (hW0:Below W0.heap.size W0 W) (k:Int) (tx un:ByteArray) (wh fl:Bool) (hn:ts.length≤100000) :
  Calls Tryz.prog 55 #[v,.agg #[.int .i64 k,.string tx,.string un,.bool wh,.bool fl]] W fun e w'=>∃ rest,e=.returned rest∧TsAt W0 rest (runS [closeZ k] ts)∧Below W.heap.size W w':=by
 have hco:=fun w=>closeOf_any k w
 generalize closeZ k=c at *
 have HV:=hid_mk hv
 obtain ⟨a,cap,rfl,hl,hcap,hxx⟩:=hv
 go_enter Tryz.func55,Tryz.ntmps55
 go_wp2_with (go_at_call 54;refine (hco _).mono ?_;rintro e w1 ⟨rfl,rfl⟩)
 have HI:Hid (((W.alloc (.cells #[.int .i64 k,.string tx,.string un,.bool wh,.bool fl] 32)).alloc (.cells #[.int .i64 c] 3)).ownsRow W.heap.size 3 1 (.slice (some ⟨W.heap.size+1,0,none⟩) 1 1) 1 [.int .i64 c]):=by
  have:=World.ownsRow_lit (base:=W.heap.size) (e:=3) (size:=1) (W.alloc (.cells #[.int .i64 k,.string tx,.string un,.bool wh,.bool fl] 32)) #[.int .i64 c] 1 (by simp) (by decide) rfl
  rwa [show (W.alloc (.cells #[.int .i64 k,.string tx,.string un,.bool wh,.bool fl] 32)).heap.size=W.heap.size+1 by simp] at this
 have HB:Hid (Below W.heap.size W ((W.alloc (.cells #[.int .i64 k,.string tx,.string un,.bool wh,.bool fl] 32)).alloc (.cells #[.int .i64 c] 3))):=((Below.refl _ W).alloc (Nat.le_refl _) _).alloc (by simp) _
 go_loopw [5,16] (fun a5 a16 wr=>∃ (i:Nat) (ss:List Int) (c':Int),i≤ts.length∧a16=.int .i64 (i:Int)∧wr.ownsRow W.heap.size 3 1 a5 (ss.length+1) ((ss++[c']).map (Value.int .i64))∧ss.length≤i∧runS [c] ts=runS (c'::ss.reverse) (ts.drop i)∧Below W.heap.size W wr) (fun _ a16 _=>ts.length+1 - (intOf a16).toNat)
 case atStart=>exact ⟨0,[],c,Nat.zero_le _,rfl,HI.out,Nat.zero_le _,rfl,HB.out⟩
 case round =>
  obtain ⟨i,ss,c',hi,rfl,hown,hss,hE,hB⟩:=hrel
  clear HI HB hco
  by_cases hlt:i<ts.length
  ·obtain ⟨g,rcap,rfl⟩:=ownsRow_succ hown
   obtain ⟨b,off,rfl,hbw,hcell⟩:=hxx (by omega)
   have hq:=fun j y hy=>((hW0.trans (hB.mono hW0.size)).cell (p:=⟨b,off+i * 5+j,none⟩) hbw).trans (hcell i hlt j y hy)
   have hdr:ts.drop i=ts[i]'hlt::ts.drop (i+1):=List.drop_eq_getElem_cons hlt
   rw [hdr] at hE
   clear hdr
   generalize ts[i]'hlt=t at *
   obtain ⟨tk,ttx,tun,twh,tfl⟩:=t
   have q0:wr.cell? ⟨b,off+i * 5,none⟩=some (.int .i64 tk):=hq 0 _ rfl
   have q1:wr.cell? ⟨b,off+i * 5+1,none⟩=some (.string ttx):=hq 1 _ rfl
   have q2:wr.cell? ⟨b,off+i * 5+2,none⟩=some (.string tun):=hq 2 _ rfl
   have q3:wr.cell? ⟨b,off+i * 5+3,none⟩=some (.bool twh):=hq 3 _ rfl
   have q4:wr.cell? ⟨b,off+i * 5+4,none⟩=some (.bool tfl):=hq 4 _ rfl
   have hlt2:=(hown.lt g rfl).2
   have hbw2:b<wr.heap.size:=Nat.lt_of_lt_of_le hbw (Nat.le_trans hW0.size hB.size)
   have hrc:wr.cell? ⟨g,ss.length,none⟩=some (.int .i64 c'):=by
    rw [hown.cellAt ss.length (by omega)]
    simp
   have hbs:=hB.size
   have hrm:ss.length+1≤rcap∧rcap≤9223372036854775807:=by
    rcases hown.2 with ⟨h,_⟩ | ⟨_,_,_,h,_,_,h1,h2,_⟩
    ·cases h
    ·cases h
     exact ⟨h1,h2⟩
   obtain ⟨hr1,hr2⟩:=hrm
   have HBA:Hid (∀ o,Below W.heap.size W (wr.alloc o)):=fun o=>hB.alloc hbs o
   have HTD:Hid (∀ a' n' d',n'=ts.length - (i+1)→d'=cap - (i+1)→(i+1<ts.length→a'=⟨b,off+(i+1) * 5,none⟩)→TsAt W0 (.slice (some a') n' d') (ts.drop (i+1))):=by
    rintro a' n' d' rfl rfl h
    exact HV.out.drop (i+1) (by omega) a' h
   have HOWN:=hid_mk hown
   have HE:Hid (runS [c] ts=if tk=c' then runS ss.reverse (ts.drop (i+1)) else if closeZ tk=0 then runS (c'::ss.reverse) (ts.drop (i+1)) else runS (closeZ tk::c'::ss.reverse) (ts.drop (i+1))):=by
    show _=_
    rw [hE,runS]
   clear hq hcell hxx hE hown hB HV hW0
   by_cases h1:tk=c'
   ·subst h1
    have HE1:=HE.out
    rw [if_pos rfl] at HE1
    have HF:=hid_mk HE1
    clear HE HE1
    rcases List.eq_nil_or_concat ss with rfl | ⟨ss',c2,rfl⟩
    ·have HR:Hid (runS [c] ts=ts.drop (i+1)):=by
      show _=_
      rw [HF.out,List.reverse_nil,runS]
     simp only [List.length_nil,Nat.zero_add] at hrc hr1 HOWN
     simp only [List.length_nil,Nat.zero_add]
     clear HF HOWN
     go_wp2
     go_quiet (fail)
     go_wp2
     all_goals
      go_ret
      exact ⟨_,rfl,by rw [HR.out];exact HTD.out _ _ _ (by omega) (by omega) (fun h=>by first | exact addr_eq (by omega) | (exfalso;omega)),(HBA.out _).trans (below_drewN5 _ _ _)⟩
    ·have HR:Hid (runS [c] ts=runS (c2::ss'.reverse) (ts.drop (i+1))):=by
      show _=_
      rw [HF.out,List.concat_eq_append,List.reverse_append]
      rfl
     have HP:Hid (wr.ownsRow W.heap.size 3 1 (.slice (some ⟨g,0,none⟩) (ss'.length+1) rcap) (ss'.length+1) ((ss'++[c2]).map (Value.int .i64))):=by
      have:=HOWN.out
      rw [List.concat_eq_append,List.map_append] at this
      have hl2:(ss'++[c2]).length=ss'.length+1:=by simp
      rw [hl2] at this
      exact ownsRow_pop (by simp) this
     have hl2:(ss'.concat c2).length=ss'.length+1:=by simp
     rw [hl2] at hrc hr1 hss
     rw [hl2]
     clear HF HOWN hl2
     go_wp2
     go_quiet (fail)
     go_wp2
     go_roundw
     case rel=>exact ⟨i+1,ss',c2,by omega,by go_num,ownsRow_below (HP.out.alloc _) (below_drewN5 _ _ _),by omega,HR.out,(HBA.out _).trans (below_drewN5 _ _ _)⟩
     case measure=>simp [intOf];omega
   ·have z1:(tk == c')=false:=by simpa using h1
    have HE1:=HE.out
    rw [if_neg h1] at HE1
    have HF:=hid_mk HE1
    have hco:=fun w=>closeOf_any tk w
    generalize closeZ tk=e at *
    clear HE HE1 h1
    by_cases h2:e=0
    ·subst h2
     have HR:=HF.out
     rw [if_pos rfl] at HR
     have HG:=hid_mk HR
     clear HR HF
     go_wp2
     go_quiet (fail)
     go_wp2_with (go_at_call 54;refine (hco _).mono ?_;rintro e' w' ⟨rfl,rfl⟩)
     go_roundw
     case rel=>exact ⟨i+1,ss,c',by omega,by go_num,ownsRow_below (HOWN.out.alloc _) (below_drewN5 _ _ _),by omega,HG.out,(HBA.out _).trans (below_drewN5 _ _ _)⟩
     case measure=>simp [intOf];omega
    ·have z2:(e != 0)=true:=by simpa using h2
     have HG:Hid (runS [c] ts=runS (e::(ss++[c']).reverse) (ts.drop (i+1))):=by
      show _=_
      have:=HF.out
      rw [if_neg h2] at this
      rw [this,List.reverse_append]
      rfl
     clear HF h2
     go_wp2
     go_quiet (fail)
     go_wp2_with (go_at_call 54;refine (hco _).mono ?_;rintro e' w' ⟨rfl,rfl⟩;fail)
     go_at_call 54
     refine (hco _).mono ?_
     rintro e' w' ⟨rfl,rfl⟩
     have hown2:=ownsRow_below (HOWN.out.alloc (.cells #[.int .i64 tk,.string ttx,.string tun,.bool twh,.bool tfl] 32)) (below_drewN5 _ _ nq)
     have HB2:Hid (Below W.heap.size W ((wr.alloc (.cells #[.int .i64 tk,.string ttx,.string tun,.bool twh,.bool tfl] 32)).drewN nq)):=(HBA.out _).trans (below_drewN5 _ _ _)
     generalize (wr.alloc (.cells #[.int .i64 tk,.string ttx,.string tun,.bool twh,.bool tfl] 32)).drewN nq=WA at *
     obtain ⟨i0,hi0,hz0,hz1,hz2⟩:=info_parts Tryz.info3
     have hbs2:=HB2.out.size
     go_wp2_with (at_builtin;go_must (refine wpList_append_own _ rfl _ _ 42 rfl W.heap.size 3 i0 _ 1 8 Tryz.underlying42 hi0 hz0 hz1 hz2 rfl (by decide) _ _ _ rfl (hown2.alloc _) ⟨WA.heap.size,0,none⟩ 1 1 [.int .i64 e] rfl rfl (cell_one_new _ _ _) (by intro u hu;simp at hu;subst hu;rfl) (by unfold maxLen;omega) (by omega) (by simp;omega) ?_);intro v' w7 hown7 hgrow7 _;obtain ⟨g7,cap7,rfl⟩:=ownsRow_succ hown7)
     go_roundw
     case rel=>exact ⟨i+1,ss++[c'],e,by omega,by go_num,by simpa using hown7,by simp;omega,HG.out,(HB2.out.alloc hbs2 _).grown hgrow7 (by simp;omega) (fun k hk=>(hown2.lt k hk).1)⟩
     case measure=>simp [intOf];omega
  ·have hd:ts.drop i=[]:=List.drop_eq_nil_of_le (by omega)
   rw [hd,runS_nil] at hE
   clear hd hown hW0
   have HE:=hid_mk hE
   clear hE
   go_wp2
   go_ret
   exact ⟨_,rfl,by rw [HE.out];exact TsAt.nil _,hB⟩
end Go.Proofs.YtdneaeokljoijaaGreatDoor.Y
namespace Go.Proofs.YtdneaeokljoijaaGreatDoor.Y
open Go.RowKit
open Go.Proofs.YtdneaeokljoijaaGreatDoor.L (T5 V VsAt t5Cells vCells cell_of_heap)
theorem opened2 {P0 B:Nat} {W wr WA w1:World} {u8:Value} {ps:List (T5×Value×List V)} {x0 x1 x2 x3 x4 x5:Value} {kv:Value} {kids:List V} (hrow:Row (fun b=>P0≤b) P0 wr u8 ps) (hB:Below P0 W wr) (hAW:Below wr.heap.size wr WA) (hb1:Below WA.heap.size WA w1)
  (hx:WA.heap[B]? = some (.cells #[x0,x1,x2,x3,x4,x5] 34 (0,0))) (hBs:wr.heap.size≤B) (hk:VsAt (fun b=>WA.heap.size≤b) w1 kv kids) (hP:P0≤wr.heap.size) :
  Row (fun b=>P0≤b) P0 (w1.setCell ⟨B,5,none⟩ kv) u8 ps∧Below P0 W (w1.setCell ⟨B,5,none⟩ kv)∧(w1.setCell ⟨B,5,none⟩ kv).heap[B]? = some (.cells #[x0,x1,x2,x3,x4,kv] 34 (0,0))∧VsAt (fun b=>P0≤b∧u8.ownBlock≠some b) (w1.setCell ⟨B,5,none⟩ kv) kv kids:=by
 have hlt:B<WA.heap.size:=(Array.getElem?_eq_some_iff.1 hx).1
 have h1:Below wr.heap.size wr (w1.setCell ⟨B,5,none⟩ kv):=(hAW.trans (hb1.mono hAW.size)).setCell (p:=⟨B,5,none⟩) hBs kv
 have hx1:=(hb1.block _ hlt).trans hx
 refine ⟨hrow.keep h1,hB.trans (h1.mono hP),?_,?_⟩
 ·have:=heap_setCell_same w1 B 5 #[x0,x1,x2,x3,x4,x5] 34 kv hx1
  rw [this]
  rfl
 ·have h2:=hk.stay (W':=w1.setCell ⟨B,5,none⟩ kv) (by simp) (fun b hb _=>Below.heap_setCell w1 ⟨B,5,none⟩ kv b (by show b≠B;omega))
  refine h2.wider (fun b hb _=>⟨by have:=hAW.size;omega,fun e=>?_⟩)
  have:=(hrow.1.lt b e).2
  have:=hAW.size
  omega
def EndF (W:World) (fv:Value) (c:Int):Prop:=(fv=.func (.func 35) #[] #[]∧c=0)∨∃ B,fv=.func (.func 86) #[] #[.pointer (some ⟨B,0,none⟩)]∧c≠0∧W.heap[B]? = some (.cells #[.int .i64 c] 3 (0,0))
theorem tok5c {W:World} {B:Nat} {x0 x1 x2 x3 x4:Value} (h:W.heap[B]? = some (.cells #[x0,x1,x2,x3,x4] 32 (0,0))) :
  W.cell? ⟨B,0,none⟩=some x0∧W.cell? ⟨B,1,none⟩=some x1∧W.cell? ⟨B,2,none⟩=some x2∧W.cell? ⟨B,3,none⟩=some x3∧W.cell? ⟨B,4,none⟩=some x4:=by
 refine ⟨?_,?_,?_,?_,?_⟩ <;> simp [World.cell?,h]
theorem read_any (f:Nat):∀ (ts:List T5),ts.length≤f→∀ (W0:World) (v:Value),TsAt W0 v ts→∀ W,Below W0.heap.size W0 W→∀ (c n:Int) (fv:Value),EndF W fv c→0≤n→n≤64→ts.length≤100000 →
  Calls Tryz.prog 34 #[v,.int .i64 n,fv] W fun e w'=>∃ out rest,e=.returned (.tuple #[out,rest])∧VsAt (fun b=>W.heap.size≤b) w' out (someZ f ts c n).1∧TsAt W0 rest (someZ f ts c n).2∧Below W.heap.size W w':=by
 induction f using Nat.strongRecOn with
 | _ f ih =>
   intro ts hf W0 v hv W hW0 c n fv hfv hn0 hn1 hn2
   obtain ⟨i0,hi0,hz0,hz1,hz2⟩:=info_parts Tryz.info34
   have HV:=hid_mk hv
   have HI:=hid_mk ih
   obtain ⟨a,cap,rfl,hl,hcap,_⟩:=hv
   clear ih
   rcases hfv with ⟨rfl,hc0⟩ | ⟨BF,rfl,hcz,hBF⟩
   ·have HEN:Hid (∀ (tk:Int) (tx un:ByteArray) (wh fl:Bool) (w:World),Below W.heap.size W w→Calls Tryz.prog 35 #[.agg #[.int .i64 tk,.string tx,.string un,.bool wh,.bool fl]] w fun e w'=>e=.returned (.bool (decide (c≠0∧tk=c)))∧Below w.heap.size w w'):=by
     intro tk tx un wh fl w _
     have:decide (c≠0∧tk=c)=false:=by simp [hc0]
     rw [this]
     exact ends0_any _ w
    clear hc0
    go_enter Tryz.func34,Tryz.ntmps34
    go_wp2
    go_loopw [0,8] (fun a0 a8 wr=>∃ (g:Nat) (r:List T5) (ps:List (T5×Value×List V)),r.length≤g∧g≤f∧TsAt W0 a0 r∧Row (fun b=>W.heap.size≤b) W.heap.size wr a8 ps∧Below W.heap.size W wr∧someZ f ts c n=(ps.map mkV++(someZ g r c n).1,(someZ g r c n).2)∧ps.length+r.length≤ts.length) (fun a0 _ _=>sliceLen a0)
    case atStart=>exact ⟨f,ts,[],hf,Nat.le_refl _,HV.out,⟨World.ownsRow_nil _ _ _ _,fun g hg=>by simp [Value.ownBlock] at hg,fun p hp=>by cases hp⟩,Below.refl _ _,rfl,by simp⟩
    case round =>
     obtain ⟨g,r,ps,hg,hgf,hts,hrow,hB,hE,hpl⟩:=hrel
     have HE:=hid_mk hE
     clear hE HV
     have hW1:Below W0.heap.size W0 wr:=hW0.trans (hB.mono hW0.size)
     cases r with
     | nil =>
       obtain ⟨a0,c0,rfl,_⟩:=hts
       have HD:=hid_mk (someZ_nil g c n)
       have hvs:=hrow.vals
       have HR:Hid (VsAt (fun b=>W.heap.size≤b) wr u8 (someZ f ts c n).1∧(someZ f ts c n).2=[]):=by
        show _∧_
        rw [HE.out,HD.out,List.append_nil]
        exact ⟨hvs,rfl⟩
       clear hrow hvs HI HE HD HEN
       go_wp2
       go_ret2
       exact ⟨_,_,rfl,HR.out.1,by rw [HR.out.2];exact TsAt.nil _,hB⟩
     | cons t r =>
       obtain ⟨g,rfl⟩:∃ g',g=g'+1:=⟨g - 1,by rw [List.length_cons] at hg;omega⟩
       have HTS:=hid_mk hts
       obtain ⟨a0,c0,rfl,hc1,hc2,hcell⟩:=hts
       obtain ⟨b,off,rfl,hbw,hcc⟩:=hcell (by simp)
       have hq:=fun j y hy=>(hW1.cell (p:=⟨b,off+0 * 5+j,none⟩) hbw).trans (hcc 0 (by simp) j y hy)
       simp only [Nat.zero_mul,Nat.add_zero,List.getElem_cons_zero] at hq
       rw [List.length_cons] at hg hpl hc1
       obtain ⟨tk,tx,un,wh,fl⟩:=t
       have q0:=hq 0 _ rfl
       have q1:=hq 1 _ rfl
       have q2:=hq 2 _ rfl
       have q3:=hq 3 _ rfl
       have q4:=hq 4 _ rfl
       simp only [Nat.add_zero] at q0
       clear hq hcc hcell
       have hen:=fun w hw=>HEN.out tk tx un wh fl w hw
       obtain ⟨en,he⟩:∃ en,en=decide (c≠0∧tk=c):=⟨_,rfl⟩
       rw [← he] at hen
       have HQ:=hid_mk he
       clear he HEN
       have HTL:Hid (∀ a',(0<r.length→a'=⟨b,off+5,none⟩)→TsAt W0 (.slice (some a') r.length (c0 - 1)) r):=fun a' h=>TsAt.tail HTS.out a' h
       have hAl:Below wr.heap.size wr (wr.alloc (.cells #[.int .i64 tk,.string tx,.string un,.bool wh,.bool fl] 32)):=(Below.refl _ wr).alloc (Nat.le_refl _) _
       have hBA:Below W.heap.size W (wr.alloc (.cells #[.int .i64 tk,.string tx,.string un,.bool wh,.bool fl] 32)):=hB.trans (hAl.mono hB.size)
       have hbl0:=heap_alloc_new wr (.cells #[.int .i64 tk,.string tx,.string un,.bool wh,.bool fl] 32)
       have hsA:(wr.alloc (.cells #[.int .i64 tk,.string tx,.string un,.bool wh,.bool fl] 32)).heap.size=wr.heap.size+1:=by simp
       have HROW:=hid_mk hrow
       clear hrow HTS
       go_wp2_with (go_at_call 35;fail)
       all_goals
        refine (hen _ hBA).mono ?_
        rintro e' w1 ⟨rfl,b1⟩
        have hw1:Below wr.heap.size wr w1:=hAl.trans (b1.mono hAl.size)
        have hBw:Below W.heap.size W w1:=hB.trans (hw1.mono hB.size)
        have hWw:Below W0.heap.size W0 w1:=hW1.trans (hw1.mono hW1.size)
        have HRW:=hid_mk (HROW.out.keep hw1)
        have hx:w1.heap[wr.heap.size]? = some (.cells #[.int .i64 tk,.string tx,.string un,.bool wh,.bool fl] 32 (0,0)):=(b1.block _ (by omega)).trans hbl0
        have hsz:wr.heap.size<w1.heap.size:=(Array.getElem?_eq_some_iff.1 hx).1
        clear q0 q1 q2 q3 q4
        obtain ⟨q0,q1,q2,q3,q4⟩:=tok5c hx
        have HT:Hid (∃ sl,TsAt W0 sl r):=⟨_,HTL.out ⟨b,off+5,none⟩ (fun h=>rfl)⟩
        first
         | (have hc01:c0=1:=by omega
            subst hc01
            have htl:TsAt W0 (.slice (some ⟨b,off,none⟩) r.length 0) r:=HTL.out ⟨b,off,none⟩ (fun h=>by exfalso;omega)
            have HTT:=hid_mk htl
            clear htl)
         | (have htl:=HTL.out ⟨b,off+5,none⟩ (fun h=>rfl)
            have HTT:=hid_mk htl
            clear htl)
        clear b1 hen hBA hbl0 hAl hw1 HROW HTL HT hx hW1 hB
        have hbs:=hBw.size
        by_cases hen1:en=true
        ·subst hen1
         have HZ:Hid (someZ (g+1) (⟨tk,tx,un,wh,fl⟩::r) c n=([],r)):=by show _=_;rw [someZ,if_pos (of_decide_eq_true HQ.out.symm)]
         have HR:Hid (VsAt (fun b=>W.heap.size≤b) w1 u8 (someZ f ts c n).1∧(someZ f ts c n).2=r):=by
          show _∧_
          rw [HE.out,HZ.out,List.append_nil]
          exact ⟨HRW.out.vals,rfl⟩
         clear HRW HI HE HZ HQ
         go_wp2
         go_ret2
         exact ⟨_,_,rfl,HR.out.1,by rw [HR.out.2];exact HTT.out,hBw⟩
        ·have hen2:en=false:=by simpa using hen1
         subst hen2
         have HA:Hid (¬ (c≠0∧tk=c)):=of_decide_eq_false HQ.out.symm
         clear hen1 HQ
         have hco:=fun w=>closeOf_any tk w
         obtain ⟨e,he⟩:∃ e,e=closeZ tk:=⟨_,rfl⟩
         rw [← he] at hco
         have HEQ:=hid_mk he
         clear he
         go_wp2_with (go_at_call 54;fail)
         refine (hco _).mono ?_
         rintro e' w' ⟨rfl,rfl⟩
         clear hco
         by_cases h0:e=0
         ·subst h0
          have HNX:Hid (someZ f ts c n=((ps++[((⟨tk,tx,un,wh,fl⟩:T5),(Value.slice none 0 0),([]:List V))]).map mkV++(someZ g r c n).1,(someZ g r c n).2)):=by
           show _=_
           rw [HE.out,someZ,if_neg HA.out,if_pos HEQ.out.symm,List.map_append,List.append_assoc]
           rfl
          have hown:=HRW.out.1
          clear HI HE HA HEQ
          go_wp2_with (at_builtin;go_must (refine wpList_append_own_at _ rfl _ _ 22 rfl W.heap.size 34 i0 _ 6 72 Tryz.underlying22 hi0 hz0 hz1 hz2 rfl (by decide) _ _ _ rfl (hown.alloc _) ⟨w1.heap.size,0,none⟩ 1 1 [.int .i64 tk,.string tx,.string un,.bool wh,.bool fl,.slice none 0 0] rfl rfl (news6 w1 _ _ _ _ _ _) (by intro u hu;simp at hu;rcases hu with rfl | rfl | rfl | rfl | rfl | rfl <;> rfl) (by unfold maxLen;omega) (by omega) (by simp;omega) ?_);intro v' w7 hown7 hgrow7 _ hat7)
          go_roundw
          case rel=>exact ⟨g,r,_,by omega,by omega,HTT.out,HRW.out.push (t:=⟨tk,tx,un,wh,fl⟩) (VsAt.nil _ _) hown7 hgrow7 hat7 (by simp;omega),(hBw.alloc hbs _).grown hgrow7 (by simp;omega) (fun k hk=>(hown.lt k hk).1),HNX.out,by simp;omega⟩
          case measure=>simp [sliceLen]
         ·have zE:(e == 0)=false:=by simpa using h0
          have hrl:=some_len g r e (n+1)
          have HSZ:Hid (someZ f ts c n=if 64<n+1 then (ps.map mkV++(someZ g (someZ g r e (n+1)).2 c n).1,(someZ g (someZ g r e (n+1)).2 c n).2) else (ps.map mkV++(V.mk ⟨tk,tx,un,wh,fl⟩ (someZ g r e (n+1)).1::(someZ g (someZ g r e (n+1)).2 c n).1),(someZ g (someZ g r e (n+1)).2 c n).2)):=by
           show _=_
           rw [HE.out,someZ,if_neg HA.out,if_neg (by rw [← HEQ.out];exact h0),← HEQ.out]
           by_cases h6:64<n+1
           ·rw [if_pos h6,if_pos h6]
           ·rw [if_neg h6,if_neg h6]
          have HRS:Hid (runS [closeZ tk] r=(someZ g r e (n+1)).2):=by
           show _=_
           rw [runS_some g r (by omega) (closeZ tk) (n+1) [] (by rw [← HEQ.out];exact h0),runS,← HEQ.out]
          have HREC:Hid (∀ sl,TsAt W0 sl r→∀ w',Below W0.heap.size W0 w'→∀ fv,EndF w' fv e→n+1≤64→Calls Tryz.prog 34 #[sl,.int .i64 (n+1),fv] w' fun e' w''=>∃ out rest,e'=.returned (.tuple #[out,rest])∧VsAt (fun b=>w'.heap.size≤b) w'' out (someZ g r e (n+1)).1∧TsAt W0 rest (someZ g r e (n+1)).2∧Below w'.heap.size w' w'') :=
           fun sl hsl w' hw' fv hfv hn=>HI.out g (by omega) r (by omega) W0 sl hsl w' hw' e (n+1) fv hfv (by omega) hn (by omega)
          have HBH:Hid (Calls Tryz.prog 55 #[_,.agg #[.int .i64 tk,.string tx,.string un,.bool wh,.bool fl]] w1 fun e w'=>∃ rest,e=.returned rest∧TsAt W0 rest (runS [closeZ tk] r)∧Below w1.heap.size w1 w'):=behind_any r W0 w1 _ HTT.out hWw tk tx un wh fl (by omega)
          have HBH2:=HBH.out
          rw [HRS.out] at HBH2
          have HBK:=hid_mk HBH2
          clear HBH HBH2
          generalize someZ g r e (n+1)=Z at *
          obtain ⟨zk,zr⟩:=Z
          have HEQ2:=hid_mk HEQ.out
          clear HI HE HA HEQ HRS
          by_cases h6:n=64
          ·have HNX:Hid (someZ f ts c n=(ps.map mkV++(someZ g zr c n).1,(someZ g zr c n).2)):=by
            show _=_
            have:=HSZ.out
            rwa [if_pos (by omega)] at this
           clear HSZ HREC
           subst h6
           go_wp2_with (go_at_call 55;fail)
           refine HBK.out.mono ?_
           rintro e' w2 ⟨rest,rfl,htr,hb2⟩
           have HTR:=hid_mk htr
           obtain ⟨ra,rc,rfl,_⟩:=htr
           clear HBK
           go_wp2
           go_roundw
           case rel=>exact ⟨g,zr,ps,by omega,by omega,HTR.out,HRW.out.keep hb2,hBw.trans (hb2.mono hbs),HNX.out,by omega⟩
           case measure=>simp [sliceLen];omega
          ·have z6:(n == 64)=false:=by simpa using h6
           have HNX:Hid (∀ kv,someZ f ts c n=((ps++[((⟨tk,tx,un,wh,fl⟩:T5),(kv:Value),zk)]).map mkV++(someZ g zr c n).1,(someZ g zr c n).2)):=by
            intro kv
            have:=HSZ.out
            rw [if_neg (by omega)] at this
            rw [this,List.map_append,List.append_assoc]
            rfl
           clear HSZ HBK
           have hAv:Below w1.heap.size w1 (w1.alloc (.cells #[.int .i64 tk,.string tx,.string un,.bool wh,.bool fl,.slice none 0 0] 34)):=(Below.refl _ w1).alloc (Nat.le_refl _) _
           have hbv:=heap_alloc_new w1 (.cells #[.int .i64 tk,.string tx,.string un,.bool wh,.bool fl,.slice none 0 0] 34)
           go_wp2_with (go_at_call 56;fail)
           refine (closes_any tk tx un wh fl _).mono ?_
           rintro e' wc ⟨BC,rfl,hBC,hcx,hbc⟩
           have hsv:(w1.alloc (.cells #[.int .i64 tk,.string tx,.string un,.bool wh,.bool fl,.slice none 0 0] 34)).heap.size=w1.heap.size+1:=by simp
           have hxv:wc.heap[w1.heap.size]? = some (.cells #[.int .i64 tk,.string tx,.string un,.bool wh,.bool fl,.slice none 0 0] 34 (0,0)):=(hbc.block _ (by omega)).trans hbv
           have hAW:Below w1.heap.size w1 wc:=hAv.trans (hbc.mono hAv.size)
           rw [← HEQ2.out] at hcx
           have hrec:=HREC.out _ HTT.out wc (hWw.trans (hAW.mono hWw.size)) _ (.inr ⟨BC,rfl,h0,hcx⟩) (by omega)
           have HXV:=hid_mk hxv
           have hvlt:w1.heap.size<wc.heap.size:=(Array.getElem?_eq_some_iff.1 hxv).1
           clear hxv hbv hcx hbc hAv HREC hsv hBC q0 q1 q2 q3 q4 hsz hsA
           go_wp2_with (go_at_call 34;fail)
           refine hrec.mono ?_
           rintro e' wk ⟨kids,rest,rfl,hvk,htr,hbk⟩
           have x1:wk.heap[w1.heap.size]? = some (.cells #[.int .i64 tk,.string tx,.string un,.bool wh,.bool fl,.slice none 0 0] 34 (0,0)):=(hbk.block _ hvlt).trans HXV.out
           obtain ⟨y0,y1,y2,y3,y4,y5⟩:=tok6 x1
           have yf:=tok6f x1
           obtain ⟨ka,kc,rfl,_,_⟩:=hvk.slice
           obtain ⟨D1,D2,D3,D4⟩:=opened2 (P0:=W.heap.size) HRW.out hBw hAW hbk HXV.out (Nat.le_refl _) hvk hbs
           have HD1:=hid_mk D1
           have HD2:=hid_mk D2
           have HD3:=hid_mk D3
           have HD4:=hid_mk D4
           have HTR:=hid_mk htr
           obtain ⟨ra,rc,rfl,_⟩:=htr
           clear hrec x1 hvk hbk hAW HXV D1 D2 D3 D4 HRW hBw hWw
           go_upto_region 7 with fail
           generalize wk.setCell ⟨w1.heap.size,5,none⟩ (.slice ka zk.length kc)=w2 at *
           clear y0 y1 y2 y3 y4 y5 yf
           obtain ⟨y0,y1,y2,y3,y4,y5⟩:=tok6 HD3.out
           have hown:=HD1.out.1
           have hbs2:=HD2.out.size
           go_wp2_with (at_builtin;go_must (refine wpList_append_own_at _ rfl _ _ 22 rfl W.heap.size 34 i0 _ 6 72 Tryz.underlying22 hi0 hz0 hz1 hz2 rfl (by decide) _ _ _ rfl (hown.alloc _) ⟨w2.heap.size,0,none⟩ 1 1 [.int .i64 tk,.string tx,.string un,.bool wh,.bool fl,.slice ka zk.length kc] rfl rfl (news6 w2 _ _ _ _ _ _) (by intro u hu;simp at hu;rcases hu with rfl | rfl | rfl | rfl | rfl | rfl <;> rfl) (by unfold maxLen;omega) (by omega) (by simp;omega) ?_);intro v' w7 hown7 hgrow7 _ hat7)
           go_roundw
           case rel=>exact ⟨g,zr,_,by omega,by omega,HTR.out,HD1.out.push (t:=⟨tk,tx,un,wh,fl⟩) HD4.out hown7 hgrow7 hat7 (by simp;omega),(HD2.out.alloc hbs2 _).grown hgrow7 (by simp;omega) (fun k hk=>(hown.lt k hk).1),HNX.out _,by simp;omega⟩
           case measure=>simp [sliceLen];omega
   ·have HEN:Hid (∀ (tk:Int) (tx un:ByteArray) (wh fl:Bool) (w:World),Below W.heap.size W w→Calls Tryz.prog 86 #[.agg #[.int .i64 tk,.string tx,.string un,.bool wh,.bool fl],.pointer (some ⟨BF,0,none⟩)] w fun e w'=>e=.returned (.bool (decide (c≠0∧tk=c)))∧Below w.heap.size w w'):=by
     intro tk tx un wh fl w hw
     have:decide (c≠0∧tk=c)=(tk == c):=by
      rw [Bool.eq_iff_iff]
      simp [hcz]
     rw [this]
     exact ends1_any tk c tx un wh fl w BF ((hw.block BF (Array.getElem?_eq_some_iff.1 hBF).1).trans hBF)
    clear hcz hBF
    go_enter Tryz.func34,Tryz.ntmps34
    go_wp2
    go_loopw [0,8] (fun a0 a8 wr=>∃ (g:Nat) (r:List T5) (ps:List (T5×Value×List V)),r.length≤g∧g≤f∧TsAt W0 a0 r∧Row (fun b=>W.heap.size≤b) W.heap.size wr a8 ps∧Below W.heap.size W wr∧someZ f ts c n=(ps.map mkV++(someZ g r c n).1,(someZ g r c n).2)∧ps.length+r.length≤ts.length) (fun a0 _ _=>sliceLen a0)
    case atStart=>exact ⟨f,ts,[],hf,Nat.le_refl _,HV.out,⟨World.ownsRow_nil _ _ _ _,fun g hg=>by simp [Value.ownBlock] at hg,fun p hp=>by cases hp⟩,Below.refl _ _,rfl,by simp⟩
    case round =>
     obtain ⟨g,r,ps,hg,hgf,hts,hrow,hB,hE,hpl⟩:=hrel
     have HE:=hid_mk hE
     clear hE HV
     have hW1:Below W0.heap.size W0 wr:=hW0.trans (hB.mono hW0.size)
     cases r with
     | nil =>
       obtain ⟨a0,c0,rfl,_⟩:=hts
       have HD:=hid_mk (someZ_nil g c n)
       have hvs:=hrow.vals
       have HR:Hid (VsAt (fun b=>W.heap.size≤b) wr u8 (someZ f ts c n).1∧(someZ f ts c n).2=[]):=by
        show _∧_
        rw [HE.out,HD.out,List.append_nil]
        exact ⟨hvs,rfl⟩
       clear hrow hvs HI HE HD HEN
       go_wp2
       go_ret2
       exact ⟨_,_,rfl,HR.out.1,by rw [HR.out.2];exact TsAt.nil _,hB⟩
     | cons t r =>
       obtain ⟨g,rfl⟩:∃ g',g=g'+1:=⟨g - 1,by rw [List.length_cons] at hg;omega⟩
       have HTS:=hid_mk hts
       obtain ⟨a0,c0,rfl,hc1,hc2,hcell⟩:=hts
       obtain ⟨b,off,rfl,hbw,hcc⟩:=hcell (by simp)
       have hq:=fun j y hy=>(hW1.cell (p:=⟨b,off+0 * 5+j,none⟩) hbw).trans (hcc 0 (by simp) j y hy)
       simp only [Nat.zero_mul,Nat.add_zero,List.getElem_cons_zero] at hq
       rw [List.length_cons] at hg hpl hc1
       obtain ⟨tk,tx,un,wh,fl⟩:=t
       have q0:=hq 0 _ rfl
       have q1:=hq 1 _ rfl
       have q2:=hq 2 _ rfl
       have q3:=hq 3 _ rfl
       have q4:=hq 4 _ rfl
       simp only [Nat.add_zero] at q0
       clear hq hcc hcell
       have hen:=fun w hw=>HEN.out tk tx un wh fl w hw
       obtain ⟨en,he⟩:∃ en,en=decide (c≠0∧tk=c):=⟨_,rfl⟩
       rw [← he] at hen
       have HQ:=hid_mk he
       clear he HEN
       have HTL:Hid (∀ a',(0<r.length→a'=⟨b,off+5,none⟩)→TsAt W0 (.slice (some a') r.length (c0 - 1)) r):=fun a' h=>TsAt.tail HTS.out a' h
       have hAl:Below wr.heap.size wr (wr.alloc (.cells #[.int .i64 tk,.string tx,.string un,.bool wh,.bool fl] 32)):=(Below.refl _ wr).alloc (Nat.le_refl _) _
       have hBA:Below W.heap.size W (wr.alloc (.cells #[.int .i64 tk,.string tx,.string un,.bool wh,.bool fl] 32)):=hB.trans (hAl.mono hB.size)
       have hbl0:=heap_alloc_new wr (.cells #[.int .i64 tk,.string tx,.string un,.bool wh,.bool fl] 32)
       have hsA:(wr.alloc (.cells #[.int .i64 tk,.string tx,.string un,.bool wh,.bool fl] 32)).heap.size=wr.heap.size+1:=by simp
       have HROW:=hid_mk hrow
       clear hrow HTS
       go_wp2_with (go_at_call 86;fail)
       all_goals
        refine (hen _ hBA).mono ?_
        rintro e' w1 ⟨rfl,b1⟩
        have hw1:Below wr.heap.size wr w1:=hAl.trans (b1.mono hAl.size)
        have hBw:Below W.heap.size W w1:=hB.trans (hw1.mono hB.size)
        have hWw:Below W0.heap.size W0 w1:=hW1.trans (hw1.mono hW1.size)
        have HRW:=hid_mk (HROW.out.keep hw1)
        have hx:w1.heap[wr.heap.size]? = some (.cells #[.int .i64 tk,.string tx,.string un,.bool wh,.bool fl] 32 (0,0)):=(b1.block _ (by omega)).trans hbl0
        have hsz:wr.heap.size<w1.heap.size:=(Array.getElem?_eq_some_iff.1 hx).1
        clear q0 q1 q2 q3 q4
        obtain ⟨q0,q1,q2,q3,q4⟩:=tok5c hx
        have HT:Hid (∃ sl,TsAt W0 sl r):=⟨_,HTL.out ⟨b,off+5,none⟩ (fun h=>rfl)⟩
        first
         | (have hc01:c0=1:=by omega
            subst hc01
            have htl:TsAt W0 (.slice (some ⟨b,off,none⟩) r.length 0) r:=HTL.out ⟨b,off,none⟩ (fun h=>by exfalso;omega)
            have HTT:=hid_mk htl
            clear htl)
         | (have htl:=HTL.out ⟨b,off+5,none⟩ (fun h=>rfl)
            have HTT:=hid_mk htl
            clear htl)
        clear b1 hen hBA hbl0 hAl hw1 HROW HTL HT hx hW1 hB
        have hbs:=hBw.size
        by_cases hen1:en=true
        ·subst hen1
         have HZ:Hid (someZ (g+1) (⟨tk,tx,un,wh,fl⟩::r) c n=([],r)):=by show _=_;rw [someZ,if_pos (of_decide_eq_true HQ.out.symm)]
         have HR:Hid (VsAt (fun b=>W.heap.size≤b) w1 u8 (someZ f ts c n).1∧(someZ f ts c n).2=r):=by
          show _∧_
          rw [HE.out,HZ.out,List.append_nil]
          exact ⟨HRW.out.vals,rfl⟩
         clear HRW HI HE HZ HQ
         go_wp2
         go_ret2
         exact ⟨_,_,rfl,HR.out.1,by rw [HR.out.2];exact HTT.out,hBw⟩
        ·have hen2:en=false:=by simpa using hen1
         subst hen2
         have HA:Hid (¬ (c≠0∧tk=c)):=of_decide_eq_false HQ.out.symm
         clear hen1 HQ
         have hco:=fun w=>closeOf_any tk w
         obtain ⟨e,he⟩:∃ e,e=closeZ tk:=⟨_,rfl⟩
         rw [← he] at hco
         have HEQ:=hid_mk he
         clear he
         go_wp2_with (go_at_call 54;fail)
         refine (hco _).mono ?_
         rintro e' w' ⟨rfl,rfl⟩
         clear hco
         by_cases h0:e=0
         ·subst h0
          have HNX:Hid (someZ f ts c n=((ps++[((⟨tk,tx,un,wh,fl⟩:T5),(Value.slice none 0 0),([]:List V))]).map mkV++(someZ g r c n).1,(someZ g r c n).2)):=by
           show _=_
           rw [HE.out,someZ,if_neg HA.out,if_pos HEQ.out.symm,List.map_append,List.append_assoc]
           rfl
          have hown:=HRW.out.1
          clear HI HE HA HEQ
          go_wp2_with (at_builtin;go_must (refine wpList_append_own_at _ rfl _ _ 22 rfl W.heap.size 34 i0 _ 6 72 Tryz.underlying22 hi0 hz0 hz1 hz2 rfl (by decide) _ _ _ rfl (hown.alloc _) ⟨w1.heap.size,0,none⟩ 1 1 [.int .i64 tk,.string tx,.string un,.bool wh,.bool fl,.slice none 0 0] rfl rfl (news6 w1 _ _ _ _ _ _) (by intro u hu;simp at hu;rcases hu with rfl | rfl | rfl | rfl | rfl | rfl <;> rfl) (by unfold maxLen;omega) (by omega) (by simp;omega) ?_);intro v' w7 hown7 hgrow7 _ hat7)
          go_roundw
          case rel=>exact ⟨g,r,_,by omega,by omega,HTT.out,HRW.out.push (t:=⟨tk,tx,un,wh,fl⟩) (VsAt.nil _ _) hown7 hgrow7 hat7 (by simp;omega),(hBw.alloc hbs _).grown hgrow7 (by simp;omega) (fun k hk=>(hown.lt k hk).1),HNX.out,by simp;omega⟩
          case measure=>simp [sliceLen]
         ·have zE:(e == 0)=false:=by simpa using h0
          have hrl:=some_len g r e (n+1)
          have HSZ:Hid (someZ f ts c n=if 64<n+1 then (ps.map mkV++(someZ g (someZ g r e (n+1)).2 c n).1,(someZ g (someZ g r e (n+1)).2 c n).2) else (ps.map mkV++(V.mk ⟨tk,tx,un,wh,fl⟩ (someZ g r e (n+1)).1::(someZ g (someZ g r e (n+1)).2 c n).1),(someZ g (someZ g r e (n+1)).2 c n).2)):=by
           show _=_
           rw [HE.out,someZ,if_neg HA.out,if_neg (by rw [← HEQ.out];exact h0),← HEQ.out]
           by_cases h6:64<n+1
           ·rw [if_pos h6,if_pos h6]
           ·rw [if_neg h6,if_neg h6]
          have HRS:Hid (runS [closeZ tk] r=(someZ g r e (n+1)).2):=by
           show _=_
           rw [runS_some g r (by omega) (closeZ tk) (n+1) [] (by rw [← HEQ.out];exact h0),runS,← HEQ.out]
          have HREC:Hid (∀ sl,TsAt W0 sl r→∀ w',Below W0.heap.size W0 w'→∀ fv,EndF w' fv e→n+1≤64→Calls Tryz.prog 34 #[sl,.int .i64 (n+1),fv] w' fun e' w''=>∃ out rest,e'=.returned (.tuple #[out,rest])∧VsAt (fun b=>w'.heap.size≤b) w'' out (someZ g r e (n+1)).1∧TsAt W0 rest (someZ g r e (n+1)).2∧Below w'.heap.size w' w'') :=
           fun sl hsl w' hw' fv hfv hn=>HI.out g (by omega) r (by omega) W0 sl hsl w' hw' e (n+1) fv hfv (by omega) hn (by omega)
          have HBH:Hid (Calls Tryz.prog 55 #[_,.agg #[.int .i64 tk,.string tx,.string un,.bool wh,.bool fl]] w1 fun e w'=>∃ rest,e=.returned rest∧TsAt W0 rest (runS [closeZ tk] r)∧Below w1.heap.size w1 w'):=behind_any r W0 w1 _ HTT.out hWw tk tx un wh fl (by omega)
          have HBH2:=HBH.out
          rw [HRS.out] at HBH2
          have HBK:=hid_mk HBH2
          clear HBH HBH2
          generalize someZ g r e (n+1)=Z at *
          obtain ⟨zk,zr⟩:=Z
          have HEQ2:=hid_mk HEQ.out
          clear HI HE HA HEQ HRS
          by_cases h6:n=64
          ·have HNX:Hid (someZ f ts c n=(ps.map mkV++(someZ g zr c n).1,(someZ g zr c n).2)):=by
            show _=_
            have:=HSZ.out
            rwa [if_pos (by omega)] at this
           clear HSZ HREC
           subst h6
           go_wp2_with (go_at_call 55;fail)
           refine HBK.out.mono ?_
           rintro e' w2 ⟨rest,rfl,htr,hb2⟩
           have HTR:=hid_mk htr
           obtain ⟨ra,rc,rfl,_⟩:=htr
           clear HBK
           go_wp2
           go_roundw
           case rel=>exact ⟨g,zr,ps,by omega,by omega,HTR.out,HRW.out.keep hb2,hBw.trans (hb2.mono hbs),HNX.out,by omega⟩
           case measure=>simp [sliceLen];omega
          ·have z6:(n == 64)=false:=by simpa using h6
           have HNX:Hid (∀ kv,someZ f ts c n=((ps++[((⟨tk,tx,un,wh,fl⟩:T5),(kv:Value),zk)]).map mkV++(someZ g zr c n).1,(someZ g zr c n).2)):=by
            intro kv
            have:=HSZ.out
            rw [if_neg (by omega)] at this
            rw [this,List.map_append,List.append_assoc]
            rfl
           clear HSZ HBK
           have hAv:Below w1.heap.size w1 (w1.alloc (.cells #[.int .i64 tk,.string tx,.string un,.bool wh,.bool fl,.slice none 0 0] 34)):=(Below.refl _ w1).alloc (Nat.le_refl _) _
           have hbv:=heap_alloc_new w1 (.cells #[.int .i64 tk,.string tx,.string un,.bool wh,.bool fl,.slice none 0 0] 34)
           go_wp2_with (go_at_call 56;fail)
           refine (closes_any tk tx un wh fl _).mono ?_
           rintro e' wc ⟨BC,rfl,hBC,hcx,hbc⟩
           have hsv:(w1.alloc (.cells #[.int .i64 tk,.string tx,.string un,.bool wh,.bool fl,.slice none 0 0] 34)).heap.size=w1.heap.size+1:=by simp
           have hxv:wc.heap[w1.heap.size]? = some (.cells #[.int .i64 tk,.string tx,.string un,.bool wh,.bool fl,.slice none 0 0] 34 (0,0)):=(hbc.block _ (by omega)).trans hbv
           have hAW:Below w1.heap.size w1 wc:=hAv.trans (hbc.mono hAv.size)
           rw [← HEQ2.out] at hcx
           have hrec:=HREC.out _ HTT.out wc (hWw.trans (hAW.mono hWw.size)) _ (.inr ⟨BC,rfl,h0,hcx⟩) (by omega)
           have HXV:=hid_mk hxv
           have hvlt:w1.heap.size<wc.heap.size:=(Array.getElem?_eq_some_iff.1 hxv).1
           clear hxv hbv hcx hbc hAv HREC hsv hBC q0 q1 q2 q3 q4 hsz hsA
           go_wp2_with (go_at_call 34;fail)
           refine hrec.mono ?_
           rintro e' wk ⟨kids,rest,rfl,hvk,htr,hbk⟩
           have x1:wk.heap[w1.heap.size]? = some (.cells #[.int .i64 tk,.string tx,.string un,.bool wh,.bool fl,.slice none 0 0] 34 (0,0)):=(hbk.block _ hvlt).trans HXV.out
           obtain ⟨y0,y1,y2,y3,y4,y5⟩:=tok6 x1
           have yf:=tok6f x1
           obtain ⟨ka,kc,rfl,_,_⟩:=hvk.slice
           obtain ⟨D1,D2,D3,D4⟩:=opened2 (P0:=W.heap.size) HRW.out hBw hAW hbk HXV.out (Nat.le_refl _) hvk hbs
           have HD1:=hid_mk D1
           have HD2:=hid_mk D2
           have HD3:=hid_mk D3
           have HD4:=hid_mk D4
           have HTR:=hid_mk htr
           obtain ⟨ra,rc,rfl,_⟩:=htr
           clear hrec x1 hvk hbk hAW HXV D1 D2 D3 D4 HRW hBw hWw
           go_upto_region 7 with fail
           generalize wk.setCell ⟨w1.heap.size,5,none⟩ (.slice ka zk.length kc)=w2 at *
           clear y0 y1 y2 y3 y4 y5 yf
           obtain ⟨y0,y1,y2,y3,y4,y5⟩:=tok6 HD3.out
           have hown:=HD1.out.1
           have hbs2:=HD2.out.size
           go_wp2_with (at_builtin;go_must (refine wpList_append_own_at _ rfl _ _ 22 rfl W.heap.size 34 i0 _ 6 72 Tryz.underlying22 hi0 hz0 hz1 hz2 rfl (by decide) _ _ _ rfl (hown.alloc _) ⟨w2.heap.size,0,none⟩ 1 1 [.int .i64 tk,.string tx,.string un,.bool wh,.bool fl,.slice ka zk.length kc] rfl rfl (news6 w2 _ _ _ _ _ _) (by intro u hu;simp at hu;rcases hu with rfl | rfl | rfl | rfl | rfl | rfl <;> rfl) (by unfold maxLen;omega) (by omega) (by simp;omega) ?_);intro v' w7 hown7 hgrow7 _ hat7)
           go_roundw
           case rel=>exact ⟨g,zr,_,by omega,by omega,HTR.out,HD1.out.push (t:=⟨tk,tx,un,wh,fl⟩) HD4.out hown7 hgrow7 hat7 (by simp;omega),(HD2.out.alloc hbs2 _).grown hgrow7 (by simp;omega) (fun k hk=>(hown.lt k hk).1),HNX.out _,by simp;omega⟩
           case measure=>simp [sliceLen];omega
end Go.Proofs.YtdneaeokljoijaaGreatDoor.Y
namespace Go.Proofs.YtdneaeokljoijaaGreatDoor.Y
open Go.RowKit
open Go.Proofs.YtdneaeokljoijaaGreatDoor.L (T5 V VsAt t5Cells vCells cell_of_heap)
def hasZ (ks:List Int) (x:Int):Bool:=ks.contains x
theorem contains_drop (ks:List Int) (x:Int) (i:Nat) (h:i<ks.length):hasZ (ks.drop i) x=(x == ks.getD i 0 || hasZ (ks.drop (i+1)) x):=by
 unfold hasZ
 rw [List.drop_eq_getElem_cons h,List.contains_cons]
 congr 2
 simp [List.getD,h]
def nextZ (ks:List Int):List V→Nat
 | []=>0
 | x::r=>if hasZ ks x.tok.k then 0 else nextZ ks r+1
theorem nextZ_le (ks:List Int):∀ l,nextZ ks l≤l.length
 | []=>Nat.le_refl _
 | x::r=>by
   rw [nextZ]
   split
   ·simp
   ·have:=nextZ_le ks r
    simp only [List.length_cons]
    omega
end Go.Proofs.YtdneaeokljoijaaGreatDoor.Y
namespace Go.Proofs.YtdneaeokljoijaaGreatDoor.Y
open Go.RowKit
open Go.Proofs.YtdneaeokljoijaaGreatDoor.L (T5 V VsAt t5Cells vCells cell_of_heap)
theorem row_lit (w:World) (ks:List Int) (hk:ks.length≤100000):RowAt .i64 (w.alloc (.cells (ks.map (Value.int .i64)).toArray 3)) (.slice (some ⟨w.heap.size,0,none⟩) ks.length ks.length) ks:=by
 have h:=World.ownsRow_lit (base:=w.heap.size) (e:=3) (size:=1) w (ks.map (Value.int .i64)).toArray ks.length (Nat.le_refl _) (by unfold maxLen;omega) (by simp)
 exact RowAt.own (by simpa using h)
theorem VsAt.dropA {P:Nat→Prop} {W:World} {b off n cap:Nat} {vs:List V} (h:VsAt P W (.slice (some ⟨b,off,none⟩) n cap) vs) (k:Nat) (hk:k≤vs.length) (a':Addr) (n' c':Nat) (hn:n'=n - k) (hc:c'=cap - k) (ha:k<vs.length→a'=⟨b,off+k * 6,none⟩):VsAt P W (.slice (some a') n' c') (vs.drop k):=by
 subst hn hc
 exact h.drop k hk (some a') (fun h=>⟨b,off,rfl,congrArg some (ha h)⟩)
theorem VsAt.dropO {P:Nat→Prop} {W:World} {b off n cap:Nat} {vs:List V} (h:VsAt P W (.slice (some ⟨b,off,none⟩) n cap) vs) (k:Nat) (hk:k≤vs.length) {a':Option Addr} {n' c':Nat} (hn:n'=n - k) (hc:c'=cap - k) (ha:k<vs.length→a'=some ⟨b,off+k * 6,none⟩):VsAt P W (.slice a' n' c') (vs.drop k):=by
 subst hn hc
 exact h.drop k hk a' (fun h=>⟨b,off,rfl,ha h⟩)
def spaceV (x:V):Bool:=hasZ [13] x.tok.k
def aheadZ (vs:List V):List V:=(vs.reverse.dropWhile spaceV).reverse
theorem aheadZ_nil:aheadZ []=[]:=rfl
theorem aheadZ_snoc (r:List V) (x:V):aheadZ (r++[x])=if spaceV x then aheadZ r else r++[x]:=by
 unfold aheadZ
 rw [List.reverse_append,List.reverse_singleton,List.singleton_append,List.dropWhile_cons]
 split
 ·rfl
 ·simp
theorem aheadZ_le (vs:List V):(aheadZ vs).length≤vs.length:=by
 unfold aheadZ
 have:=(List.dropWhile_sublist spaceV (l:=vs.reverse)).length_le
 simpa using this
end Go.Proofs.YtdneaeokljoijaaGreatDoor.Y
namespace Go.Proofs.YtdneaeokljoijaaGreatDoor.Y
open Go.RowKit
open Go.Proofs.YtdneaeokljoijaaGreatDoor.L (T5 V VsAt t5Cells vCells cell_of_heap)
theorem wpList_append_same {P:Program} (w:World) {ops:Array Oper} {rest:List Oper} {o:Oper} {a:Act} {Q:Exit→Act→World→Prop} (hgd:o.guard=none) (s x:Operand) (t:TypeId)
  (ho:o.op=.call { callee:=.builtin .append,args:=#[s,x],argTypes:=#[t,t] }) (v u:Value) (hs:a.eval s=v) (hx:a.eval x=u) (hr:(Builtin.append_ #[t,t] o.type #[v,u]).run P w=.ok v w) (h:wpList P ops Q rest (a.put o.dst v) w):wpList P ops Q (o::rest) a w:=by
 refine wpList_plain hgd fun K hK=>?_
 unfold Oper.wp execOp
 simp only [ho,resolve,invoke,builtin,Sem.run_bind,Sem.run_pure,Result.andThen_ok,List.map_toArray,List.map_cons,List.map_nil,hs,hx,hr]
 exact hK _ _ h
theorem run_append_empty {w:World} {base size n:Nat} {t t' e:TypeId} {i:TypeInfo} {v:Value} {xs:List Value} (ht:Tryz.prog.underlying t=some (.slice e)) (hi:Tryz.prog.info? e=some i) (hown:w.ownsRow base e size v n xs) (x:Option Addr) (c:Nat) :
  (Builtin.append_ #[t,t] t' #[v,.slice x 0 c]).run Tryz.prog w=.ok v w:=by
 obtain ⟨hl,h⟩:=hown
 rcases h with ⟨rfl,hn⟩ | ⟨g,cap,cur,rfl,_,hg,hnc,hcm,hsz,hx⟩
 ·cases x <;> simp [Builtin.append_,run_underlying ht,sizeOf,typeInfo,hi,Builtin.lenOf,Builtin.firstCells,loadCells,loadCellsFrom]
 ·cases x <;> simp [Builtin.append_,run_underlying ht,sizeOf,typeInfo,hi,Builtin.lenOf,Builtin.firstCells,loadCells,loadCellsFrom,storeCells,hnc]
theorem Row.cat {P:Nat→Prop} {B:Nat} {w w':World} {out v':Value} {ps qs:List (T5×Value×List V)} (h:Row P B w out ps) (hk:∀ q∈qs,VsAt (fun b=>P b∧out.ownBlock≠some b) w q.2.1 q.2.2)
  (hown:w'.ownsRow B 34 6 v' (ps.length+qs.length) ((ps.flatMap fun p=>vCells p.1 p.2.1)++(qs.flatMap fun p=>vCells p.1 p.2.1))) (hg:w.grownBy w' out.ownBlock) (hat:v'.ownBlock=out.ownBlock∨v'.ownBlock=some w.heap.size) (hP:P w.heap.size):Row P B w' v' (ps++qs):=by
 have keep:∀ {x:Value} {xs:List V},VsAt (fun b=>P b∧out.ownBlock≠some b) w x xs→VsAt (fun b=>P b∧v'.ownBlock≠some b) w' x xs:=by
  intro x xs hx
  have h1:VsAt (fun b=>(P b∧out.ownBlock≠some b)∧v'.ownBlock≠some b) w x xs:=hx.wider (fun b hb hlt=>⟨hb,by
   rcases hat with e | e
   ·rw [e];exact hb.2
   ·rw [e]
    intro e2
    have:=Option.some.inj e2
    omega⟩)
  have h2:=h1.stay (W':=w') hg.size (fun b hb hlt=>hg.block b hlt (fun e=>hb.1.2 e.symm))
  exact h2.wider (fun b hb _=>⟨hb.1.1,hb.2⟩)
 refine ⟨?_,?_,?_⟩
 ·rw [List.length_append,List.flatMap_append]
  exact hown
 ·intro g hgo
  rcases hat with e | e
  ·exact h.2.1 g (e.symm.trans hgo)
  ·rw [e] at hgo
   cases hgo
   exact hP
 ·intro p hp
  rcases List.mem_append.1 hp with hp | hp
  ·exact keep (h.2.2 p hp)
  ·exact keep (hk p hp)
theorem flat6_len (ps:List (T5×Value×List V)):(ps.flatMap fun p=>vCells p.1 p.2.1).length=ps.length * 6:=by
 induction ps with
 | nil=>rfl
 | cons t r ih =>
   rw [List.flatMap_cons,List.length_append,ih,List.length_cons]
   simp [vCells]
   omega
theorem VsAt.parts {P:Nat→Prop} {W:World} {a:Option Addr} {n cap:Nat} {vs:List V} (h:VsAt P W (.slice a n cap) vs):∃ qs:List (T5×Value×List V),qs.map mkV=vs∧(∀ q∈qs,VsAt P W q.2.1 q.2.2)∧(∀ u∈qs.flatMap fun p=>vCells p.1 p.2.1,u.oneCell'=true) ∧
  (0<n→∃ b off,a=some ⟨b,off,none⟩∧b<W.heap.size∧P b∧∀ j u,(qs.flatMap fun p=>vCells p.1 p.2.1)[j]? = some u→W.cell? ((⟨b,off,none⟩:Addr).add j)=some u):=by
 generalize hv:Value.slice a n cap=v at h
 cases h with
 | mk a' cap' vs b off kv h1 h2 ha hc hr =>
   cases hv
   have hlen:((List.range vs.length).attach.map fun i=>(((vs[i.1]'(List.mem_range.1 i.2)).tok,kv i.1,(vs[i.1]'(List.mem_range.1 i.2)).kids):T5×Value×List V)).length=vs.length:=by simp
   have hget:∀ i (hi:i<vs.length),((List.range vs.length).attach.map fun i=>(((vs[i.1]'(List.mem_range.1 i.2)).tok,kv i.1,(vs[i.1]'(List.mem_range.1 i.2)).kids):T5×Value×List V))[i]'(by rw [hlen];exact hi)=((vs[i]'hi).tok,kv i,(vs[i]'hi).kids):=fun i hi=>by simp
   generalize (List.range vs.length).attach.map (fun i=>(((vs[i.1]'(List.mem_range.1 i.2)).tok,kv i.1,(vs[i.1]'(List.mem_range.1 i.2)).kids):T5×Value×List V))=qs at *
   refine ⟨qs,?_,?_,?_,?_⟩
   ·refine List.ext_getElem (by simp [hlen]) (fun i h1 h2=>?_)
    rw [List.getElem_map,hget i h2]
    cases vs[i]'h2
    rfl
   ·intro q hq
    obtain ⟨i,hi,rfl⟩:=List.getElem_of_mem hq
    rw [hget i (by omega)]
    exact hr i (by omega)
   ·intro u hu
    obtain ⟨q,hq,hu⟩:=List.mem_flatMap.1 hu
    obtain ⟨i,hi,rfl⟩:=List.getElem_of_mem hq
    rw [hget i (by omega)] at hu
    obtain ⟨x,c,e,_,_⟩:=(hr i (by omega)).slice
    simp [vCells] at hu
    rcases hu with rfl | rfl | rfl | rfl | rfl | rfl
    all_goals first | rfl | (rw [e];rfl)
   ·intro h0
    obtain ⟨ea,hb,hp⟩:=ha h0
    refine ⟨b,off,ea,hb,hp,fun j u hu=>?_⟩
    have hlt:=(List.getElem?_eq_some_iff.1 hu).1
    rw [flat6_len,hlen] at hlt
    have e:j=j / 6 * 6+j % 6:=by omega
    have hk:j / 6<vs.length:=by omega
    rw [e,flat_at qs (j / 6) (j % 6) (by omega) (by omega),hget (j / 6) hk] at hu
    have:=hc (j / 6) hk (j % 6) u hu
    rw [Addr.add_mid,show off+j=off+j / 6 * 6+j % 6 by omega]
    exact this
theorem wpList_append_row {ops:Array Oper} {rest:List Oper} {o:Oper} {a:Act} {Q:Exit→Act→World→Prop} {w:World} (hgd:o.guard=none) (s x:Operand) (ho:o.op=.call { callee:=.builtin .append,args:=#[s,x],argTypes:=#[22,22] })
  {P:Nat→Prop} {B:Nat} {v u:Value} {ps:List (T5×Value×List V)} {vs:List V} (hs:a.eval s=v) (hx:a.eval x=u) (hrow:Row P B w v ps) (hu:VsAt (fun b=>P b∧v.ownBlock≠some b) w u vs) (hn:ps.length+vs.length≤1000000) (hB:B≤w.heap.size) (hP:P w.heap.size)
  (h:∀ v' w' qs,Row P B w' v' (ps++qs)→qs.map mkV=vs→w.grownBy w' v.ownBlock→wpList Tryz.prog ops Q rest (a.put o.dst v') w'):wpList Tryz.prog ops Q (o::rest) a w:=by
 obtain ⟨i0,hi0,hz0,hz1,hz2⟩:=info_parts Tryz.info34
 obtain ⟨ua,uc,rfl,_,_⟩:=hu.slice
 obtain ⟨qs,hq1,hq2,hq3,hq4⟩:=VsAt.parts hu
 have hql:qs.length=vs.length:=by rw [← hq1,List.length_map]
 by_cases h0:0<vs.length
 ·obtain ⟨b,off,rfl,_,_,hcell⟩:=hq4 h0
  refine wpList_append_own_at w hgd s x 22 ho B 34 i0 _ 6 72 Tryz.underlying22 hi0 hz0 hz1 hz2 rfl (by decide) v ps.length _ hs hrow.1 ⟨b,off,none⟩ vs.length uc _ hx (by rw [flat6_len,hql]) hcell hq3 (by unfold maxLen;omega) (by omega) hB ?_
  intro v' w' hown hg _ hat
  exact h v' w' qs (hrow.cat hq2 (by rw [hql];exact hown) hg hat hP) hq1 hg
 ·have hv0:vs=[]:=List.length_eq_zero_iff.1 (by omega)
  subst hv0
  have hq0:qs=[]:=by simpa using hq1
  subst hq0
  refine wpList_append_same w hgd s x 22 ho v _ hs hx (run_append_empty Tryz.underlying22 hi0 hrow.1 ua uc) ?_
  exact h v w [] (by simpa using hrow) rfl ⟨rfl,rfl,rfl,Nat.le_refl _,fun _ _ _=>rfl⟩
theorem bgrown {w0 w w':World} {row:Option Nat} (h:Below w0.heap.size w0 w) (hg:w.grownBy w' row) (hr:∀ k,row=some k→w0.heap.size≤k):Below w0.heap.size w0 w':=h.grown hg h.size hr
end Go.Proofs.YtdneaeokljoijaaGreatDoor.Y
