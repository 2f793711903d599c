/- selector.spread: the walk. -/
import Derived.Test.YtdneaeokljoijaaGreatDoorLId
import Derived.Deep.RegionLaw
import Derived.Test.YtdneaeokljoijaaGreatDoorLPf
set_option maxRecDepth 100000
set_option maxHeartbeats 8000000
namespace Go.Proofs.YtdneaeokljoijaaGreatDoor.L
open Go.RowKit
structure S3 where
 a:Int
 b:Int
 c:Int
def S3.v (s:S3):Value:=.agg #[.int .i64 s.a,.int .i64 s.b,.int .i64 s.c]
def S3.ok (s:S3):Prop:=(0≤s.a∧s.a≤65535)∧(0≤s.b∧s.b≤65535)∧(0≤s.c∧s.c≤65535)
def z3:S3:=⟨0,0,0⟩
def addS (x y:S3):S3:=⟨min (x.a+y.a) 65535,min (x.b+y.b) 65535,min (x.c+y.c) 65535⟩
def lessS (x y:S3):Bool:=if (x.a != y.a)=true then decide (x.a<y.a) else if (x.b != y.b)=true then decide (x.b<y.b) else decide (x.c<y.c)
def wgB (k:Int):Bool:=k == 5 || k == 6
def sglZ (s:S6):S3:=if (s.k == 3)=true then ⟨1,0,0⟩ else if (s.k == 2 || s.k == 4 || s.k == 8 || s.k == 9 || s.k == 10 || s.k == 11)=true then ⟨0,1,0⟩ else if (s.k == 1 && !(s.nm.toList == [42]))=true then ⟨0,0,1⟩ else z3
theorem addS_ok {x y:S3} (hx:x.ok) (hy:y.ok):(addS x y).ok:=by
 obtain ⟨a1,a2,a3⟩:=hx
 obtain ⟨b1,b2,b3⟩:=hy
 refine ⟨?_,?_,?_⟩ <;> simp only [addS] <;> omega
theorem sglZ_ok (s:S6):(sglZ s).ok:=by
 unfold sglZ
 repeat' split
 all_goals simp [S3.ok,z3]
theorem weighed_any (W:World) (k:Int):Calls Tryz.prog 77 #[.int .i64 k] W fun e w'=>e=.returned (.bool (wgB k))∧w'=W:=by
 have HE:Hid (wgB k=(k == 5 || k == 6)):=rfl
 generalize wgB k=r at *
 cases h5:(k == 5)
 ·have HR:Hid (r=(k == 6)):=by rw [Hid,HE.out,h5];rfl
  clear HE
  go_enter Tryz.func77,Tryz.ntmps77
  go_wp2
  go_ret
  exact ⟨by rw [HR.out];rfl,rfl⟩
 ·have HR:Hid (r=true):=by rw [Hid,HE.out,h5];rfl
  clear HE
  go_enter Tryz.func77,Tryz.ntmps77
  go_wp2
  go_ret
  exact ⟨by rw [HR.out];rfl,rfl⟩
theorem less_any (W:World) (x y:S3):Calls Tryz.prog 80 #[x.v,y.v] W fun e w'=>e=.returned (.bool (lessS x y))∧Below W.heap.size W w':=by
 obtain ⟨xa,xb,xc⟩:=x
 obtain ⟨ya,yb,yc⟩:=y
 have HE:Hid (lessS ⟨xa,xb,xc⟩ ⟨ya,yb,yc⟩=if (xa != ya)=true then decide (xa<ya) else if (xb != yb)=true then decide (xb<yb) else decide (xc<yc)):=rfl
 have HB:Hid (Below W.heap.size W ((W.alloc (.cells #[.int .i64 xa,.int .i64 xb,.int .i64 xc] 39)).alloc (.cells #[.int .i64 ya,.int .i64 yb,.int .i64 yc] 39))):=((Below.refl _ _).alloc (Nat.le_refl _) _).alloc (by simp) _
 unfold S3.v
 dsimp only
 generalize lessS ⟨xa,xb,xc⟩ ⟨ya,yb,yc⟩=r at *
 cases ha:(xa != ya)
 ·cases hb:(xb != yb)
  ·have HR:Hid (r=decide (xc<yc)):=by rw [Hid,HE.out,ha,hb];rfl
   clear HE
   go_enter Tryz.func80,Tryz.ntmps80
   go_wp2
   go_ret
   exact ⟨by rw [HR.out];rfl,HB.out⟩
  ·have HR:Hid (r=decide (xb<yb)):=by rw [Hid,HE.out,ha,hb];rfl
   clear HE
   go_enter Tryz.func80,Tryz.ntmps80
   go_wp2
   go_ret
   exact ⟨by rw [HR.out];rfl,HB.out⟩
 ·have HR:Hid (r=decide (xa<ya)):=by rw [Hid,HE.out,ha];rfl
  clear HE
  go_enter Tryz.func80,Tryz.ntmps80
  go_wp2
  go_ret
  exact ⟨by rw [HR.out];rfl,HB.out⟩
theorem cells3s {W:World} {b:Nat} {x0 x1 x2:Value} {T:TypeId} (h:W.heap[b]? = some (.cells #[x0,x1,x2] T (0,0))):(W.cell? ⟨b,0,none⟩=some x0∧W.cell? ⟨b,1,none⟩=some x1∧W.cell? ⟨b,2,none⟩=some x2)∧W.frozen? ⟨b,0,none⟩=false∧W.frozen? ⟨b,1,none⟩=false∧W.frozen? ⟨b,2,none⟩=false :=
 ⟨⟨cellAt h 0,cellAt h 1,cellAt h 2⟩,by simp [World.frozen?,h],by simp [World.frozen?,h],by simp [World.frozen?,h]⟩
theorem below_set3 {B:Nat} {W w:World} (h:Below B W w) {o:Nat} (ho:B≤o) (x y z:Value):Below B W (((w.setCell ⟨o,0,none⟩ x).setCell ⟨o,1,none⟩ y).setCell ⟨o,2,none⟩ z):=((h.setCell (p:=⟨o,0,none⟩) ho x).setCell (p:=⟨o,1,none⟩) ho y).setCell (p:=⟨o,2,none⟩) ho z
theorem plus_any (W:World) {x y:S3} (hx:x.ok) (hy:y.ok):Calls Tryz.prog 78 #[x.v,y.v] W fun e w'=>e=.returned (addS x y).v∧Below W.heap.size W w':=by
 obtain ⟨xa,xb,xc⟩:=x
 obtain ⟨ya,yb,yc⟩:=y
 obtain ⟨⟨p1,p2⟩,⟨p3,p4⟩,p5,p6⟩:=hx
 obtain ⟨⟨q1,q2⟩,⟨q3,q4⟩,q5,q6⟩:=hy
 dsimp only at p1 p2 p3 p4 p5 p6 q1 q2 q3 q4 q5 q6
 have HB:Hid (Below W.heap.size W (((W.alloc (.cells #[.int .i64 xa,.int .i64 xb,.int .i64 xc] 39)).alloc (.cells #[.int .i64 ya,.int .i64 yb,.int .i64 yc] 39)).alloc (.cells #[.int .i64 0,.int .i64 0,.int .i64 0] 39))):=(((Below.refl _ _).alloc (Nat.le_refl _) _).alloc (by simp) _).alloc (by simp;omega) _
 unfold S3.v addS
 dsimp only
 have m1:∀ z:Int,65535<z→min z 65535=65535:=fun z h=>by omega
 have m2:∀ z:Int,¬ 65535<z→min z 65535=z:=fun z h=>by omega
 by_cases ha:65535<xa+ya
 all_goals by_cases hb:65535<xb+yb
 all_goals by_cases hc:65535<xc+yc
 all_goals
  first
   | rw [m1 _ ha]
   | rw [m2 _ ha]
  first
   | rw [m1 _ hb]
   | rw [m2 _ hb]
  first
   | rw [m1 _ hc]
   | rw [m2 _ hc]
  clear m1 m2
  go_enter Tryz.func78,Tryz.ntmps78
  go_wp2
  exact bodyPost_ret (by simp [results,Tryz.results78,go_sem] <;> omega) rfl ⟨rfl,(((Below.refl _ _).alloc (Nat.le_refl _) _).alloc (by simp) _).alloc (by simp;omega) _⟩
theorem single_any (W:World) (s:S6) (la:Option Addr) (ln lc:Nat):Calls Tryz.prog 79 #[.agg #[.int .i64 s.k,.string s.nm,.int .i64 s.op,.string s.v,.int .i64 s.a,.int .i64 s.b,.slice la ln lc]] W fun e w'=>e=.returned (sglZ s).v∧Below W.heap.size W w':=by
 obtain ⟨k,nm,op,v,a,b⟩:=s
 have HB:Hid (∀ x y z,Below W.heap.size W ((W.alloc (.cells #[.int .i64 k,.string nm,.int .i64 op,.string v,.int .i64 a,.int .i64 b,.slice la ln lc] 46)).alloc (.cells #[.int .i64 x,.int .i64 y,.int .i64 z] 39))):=fun _ _ _=>((Below.refl _ _).alloc (Nat.le_refl _) _).alloc (by simp) _
 have HE:Hid (sglZ ⟨k,nm,op,v,a,b⟩=if (k == 3)=true then ⟨1,0,0⟩ else if (k == 2 || k == 4 || k == 8 || k == 9 || k == 10 || k == 11)=true then ⟨0,1,0⟩ else if (k == 1 && !(nm.toList == [42]))=true then ⟨0,0,1⟩ else z3):=rfl
 dsimp only
 generalize sglZ ⟨k,nm,op,v,a,b⟩=R at *
 cases h3:(k == 3) with
 | true =>
   have HR:Hid (R=⟨1,0,0⟩):=by rw [Hid,HE.out];simp [h3]
   rw [HR.out]
   unfold S3.v
   dsimp only
   clear HE HR
   go_enter Tryz.func79,Tryz.ntmps79
   go_wp2
   exact bodyPost_ret (by simp [results,Tryz.results79,go_sem]) rfl ⟨rfl,HB.out _ _ _⟩
 | false =>
 cases h2:(k == 2) with
 | true =>
   have HR:Hid (R=⟨0,1,0⟩):=by rw [Hid,HE.out];simp [h3,h2]
   rw [HR.out]
   unfold S3.v
   dsimp only
   clear HE HR
   go_enter Tryz.func79,Tryz.ntmps79
   go_wp2
   exact bodyPost_ret (by simp [results,Tryz.results79,go_sem]) rfl ⟨rfl,HB.out _ _ _⟩
 | false =>
 cases h4:(k == 4) with
 | true =>
   have HR:Hid (R=⟨0,1,0⟩):=by rw [Hid,HE.out];simp [h3,h2,h4]
   rw [HR.out]
   unfold S3.v
   dsimp only
   clear HE HR
   go_enter Tryz.func79,Tryz.ntmps79
   go_wp2
   exact bodyPost_ret (by simp [results,Tryz.results79,go_sem]) rfl ⟨rfl,HB.out _ _ _⟩
 | false =>
 cases h8:(k == 8) with
 | true =>
   have HR:Hid (R=⟨0,1,0⟩):=by rw [Hid,HE.out];simp [h3,h2,h4,h8]
   rw [HR.out]
   unfold S3.v
   dsimp only
   clear HE HR
   go_enter Tryz.func79,Tryz.ntmps79
   go_wp2
   exact bodyPost_ret (by simp [results,Tryz.results79,go_sem]) rfl ⟨rfl,HB.out _ _ _⟩
 | false =>
 cases h9:(k == 9) with
 | true =>
   have HR:Hid (R=⟨0,1,0⟩):=by rw [Hid,HE.out];simp [h3,h2,h4,h8,h9]
   rw [HR.out]
   unfold S3.v
   dsimp only
   clear HE HR
   go_enter Tryz.func79,Tryz.ntmps79
   go_wp2
   exact bodyPost_ret (by simp [results,Tryz.results79,go_sem]) rfl ⟨rfl,HB.out _ _ _⟩
 | false =>
 cases h10:(k == 10) with
 | true =>
   have HR:Hid (R=⟨0,1,0⟩):=by rw [Hid,HE.out];simp [h3,h2,h4,h8,h9,h10]
   rw [HR.out]
   unfold S3.v
   dsimp only
   clear HE HR
   go_enter Tryz.func79,Tryz.ntmps79
   go_wp2
   exact bodyPost_ret (by simp [results,Tryz.results79,go_sem]) rfl ⟨rfl,HB.out _ _ _⟩
 | false =>
 cases h11:(k == 11) with
 | true =>
   have HR:Hid (R=⟨0,1,0⟩):=by rw [Hid,HE.out];simp [h3,h2,h4,h8,h9,h10,h11]
   rw [HR.out]
   unfold S3.v
   dsimp only
   clear HE HR
   go_enter Tryz.func79,Tryz.ntmps79
   go_wp2
   exact bodyPost_ret (by simp [results,Tryz.results79,go_sem]) rfl ⟨rfl,HB.out _ _ _⟩
 | false =>
 cases h1:(k == 1) with
 | false =>
   have HR:Hid (R=z3):=by rw [Hid,HE.out];simp [h3,h2,h4,h8,h9,h10,h11,h1]
   rw [HR.out]
   unfold S3.v z3
   dsimp only
   clear HE HR
   go_enter Tryz.func79,Tryz.ntmps79
   go_wp2
   exact bodyPost_ret (by simp [results,Tryz.results79,go_sem]) rfl ⟨rfl,HB.out _ _ _⟩
 | true =>
 cases hs:(nm.toList == [42]) with
 | true =>
   have HR:Hid (R=z3):=by rw [Hid,HE.out];simp [h3,h2,h4,h8,h9,h10,h11,h1,hs]
   rw [HR.out]
   unfold S3.v z3
   dsimp only
   clear HE HR
   have hn:(nm.toList != [42])=false:=by rw [bne,hs];rfl
   go_enter Tryz.func79,Tryz.ntmps79
   go_wp2
   exact bodyPost_ret (by simp [results,Tryz.results79,go_sem]) rfl ⟨rfl,HB.out _ _ _⟩
 | false =>
   have HR:Hid (R=⟨0,0,1⟩):=by rw [Hid,HE.out];simp [h3,h2,h4,h8,h9,h10,h11,h1,hs]
   rw [HR.out]
   unfold S3.v
   dsimp only
   clear HE HR
   have hn:(nm.toList != [42])=true:=by rw [bne,hs];rfl
   go_enter Tryz.func79,Tryz.ntmps79
   go_wp2
   exact bodyPost_ret (by simp [results,Tryz.results79,go_sem]) rfl ⟨rfl,HB.out _ _ _⟩
def smF (f:List Cx→S3) (x:S6×List Cx):S3:=if wgB x.1.k=true then f x.2 else sglZ x.1
def ptF (f:List Cx→S3) (acc:S3) (p:List (S6×List Cx)):S3:=p.foldl (fun m x=>addS m (smF f x)) acc
def ofF (f:List Cx→S3) (c:Cx):S3:=c.parts.foldl (ptF f) z3
def upS (m x:S3):S3:=if lessS m x=true then x else m
def mostF (f:List Cx→S3) (l:List Cx):S3:=l.foldl (fun m c=>upS m (ofF f c)) z3
def mostD:Nat→List Cx→S3
 | 0,_=>z3
 | d+1,l=>mostF (mostD d) l
mutual
def dpC:Cx→Nat
 | .mk ps _=>dpPs ps
def dpPs:List (List (S6×List Cx))→Nat
 | []=>0
 | p::r=>max (dpP p) (dpPs r)
def dpP:List (S6×List Cx)→Nat
 | []=>0
 | x::r=>max (dpX x) (dpP r)
def dpX:S6×List Cx→Nat
 | (_,l)=>dpL l+1
def dpL:List Cx→Nat
 | []=>0
 | c::r=>max (dpC c) (dpL r)
end
theorem dpL_mem:∀ {l:List Cx} {c:Cx},c∈l→dpC c≤dpL l
 | a::r,c,h=>by
   rw [dpL]
   rcases List.mem_cons.1 h with rfl | h
   ·omega
   ·have:=dpL_mem h
    omega
theorem dpPs_mem:∀ {l:List (List (S6×List Cx))} {c:List (S6×List Cx)},c∈l→dpP c≤dpPs l
 | a::r,c,h=>by
   rw [dpPs]
   rcases List.mem_cons.1 h with rfl | h
   ·omega
   ·have:=dpPs_mem h
    omega
theorem dpP_mem:∀ {l:List (S6×List Cx)} {c:S6×List Cx},c∈l→dpL c.2<dpP l
 | a::r,c,h=>by
   rw [dpP]
   rcases List.mem_cons.1 h with rfl | h
   ·obtain ⟨s,l⟩:=c
    rw [dpX]
    simp only []
    omega
   ·have:=dpP_mem h
    omega
theorem dpC_parts (c:Cx):dpC c=dpPs c.parts:=by
 cases c with
 | mk p k=>rw [dpC];rfl
theorem foldl_congr' {α β:Type} {f g:β→α→β}:∀ {l:List α} {b:β},(∀ b a,a∈l→f b a=g b a)→l.foldl f b=l.foldl g b
 | [],_,_=>rfl
 | a::r,b,h=>by
   rw [List.foldl_cons,List.foldl_cons,h b a (by simp),foldl_congr' fun b x hx=>h b x (by simp [hx])]
theorem mostF_congr {f g:List Cx→S3} {l:List Cx} (h:∀ c∈l,∀ p∈c.parts,∀ x∈p,f x.2=g x.2):mostF f l=mostF g l:=by
 unfold mostF
 refine foldl_congr' fun m c hc=>?_
 have e:ofF f c=ofF g c:=by
  unfold ofF
  refine foldl_congr' fun m p hp=>?_
  unfold ptF
  refine foldl_congr' fun m x hx=>?_
  unfold smF
  rw [h c hc p hp x hx]
 rw [e]
theorem dp_in {l:List Cx} {c:Cx} (hc:c∈l) {p:List (S6×List Cx)} (hp:p∈c.parts) {x:S6×List Cx} (hx:x∈p):dpL x.2<dpL l:=by
 have h1:=dpL_mem hc
 have h2:=dpC_parts c
 have h3:=dpPs_mem hp
 have h4:=dpP_mem hx
 omega
theorem mostD_same:∀ (d e:Nat) (l:List Cx),dpL l<d→dpL l<e→mostD d l=mostD e l
 | 0,_,_,h,_=>by omega
 | _+1,0,_,_,h=>by omega
 | d+1,e+1,l,hd,he=>by
   unfold mostD
   exact mostF_congr fun c hc p hp x hx=>by
    have:=dp_in hc hp hx
    exact mostD_same d e x.2 (by omega) (by omega)
def mostZ (l:List Cx):S3:=mostD (dpL l+1) l
theorem mostZ_step (l:List Cx):mostZ l=mostF mostZ l:=by
 conv=>lhs;unfold mostZ mostD
 exact mostF_congr fun c hc p hp x hx=>by
  have:=dp_in hc hp hx
  unfold mostZ
  exact mostD_same _ _ x.2 (by omega) (by omega)
theorem z3_ok:z3.ok:=by simp [S3.ok,z3]
theorem ptF_ok {f:List Cx→S3}:∀ {p:List (S6×List Cx)} {acc:S3},acc.ok→(∀ x∈p,(f x.2).ok)→(ptF f acc p).ok
 | [],_,h,_=>h
 | x::r,acc,h,hf=>by
   unfold ptF
   rw [List.foldl_cons]
   refine ptF_ok (p:=r) (addS_ok h ?_) fun y hy=>hf y (by simp [hy])
   unfold smF
   split
   ·exact hf x (by simp)
   ·exact sglZ_ok _
theorem parts_ok {f:List Cx→S3}:∀ {ps:List (List (S6×List Cx))} {acc:S3},acc.ok→(∀ p∈ps,∀ x∈p,(f x.2).ok)→(ps.foldl (ptF f) acc).ok
 | [],_,h,_=>h
 | p::r,acc,h,hf=>by
   rw [List.foldl_cons]
   exact parts_ok (ps:=r) (ptF_ok h (hf p (by simp))) fun q hq=>hf q (by simp [hq])
theorem ofF_ok {f:List Cx→S3} {c:Cx} (h:∀ p∈c.parts,∀ x∈p,(f x.2).ok):(ofF f c).ok:=parts_ok z3_ok h
theorem mostL_ok {f:List Cx→S3}:∀ {l:List Cx} {m:S3},m.ok→(∀ c∈l,∀ p∈c.parts,∀ x∈p,(f x.2).ok)→(l.foldl (fun m c=>upS m (ofF f c)) m).ok
 | [],_,h,_=>h
 | c::r,m,h,hf=>by
   rw [List.foldl_cons]
   refine mostL_ok (l:=r) ?_ fun d hd=>hf d (by simp [hd])
   unfold upS
   split
   ·exact ofF_ok (hf c (by simp))
   ·exact h
theorem mostD_ok:∀ (d:Nat) (l:List Cx),(mostD d l).ok
 | 0,_=>z3_ok
 | d+1,_=>by unfold mostD;exact mostL_ok z3_ok fun _ _ _ _ x _=>mostD_ok d x.2
theorem mostZ_ok (l:List Cx):(mostZ l).ok:=mostD_ok _ _
def wgP (p:List (S6×List Cx)):List (List Cx):=(p.filter fun x=>wgB x.1.k).map Prod.snd
def wgC (c:Cx):List (List Cx):=c.parts.flatMap wgP
def wgL (l:List Cx):List (List Cx):=l.flatMap wgC
def SpAt (W:World) (v:Value) (l:List S3):Prop:=∃ g off,Sl W v l.length g off∧∀ i (h:i<l.length),W.cell? ⟨g,off+i * 3,none⟩=some (.int .i64 (l[i]'h).a)∧W.cell? ⟨g,off+i * 3+1,none⟩=some (.int .i64 (l[i]'h).b)∧W.cell? ⟨g,off+i * 3+2,none⟩=some (.int .i64 (l[i]'h).c)
theorem SpAt.keep {W W':World} {v:Value} {l:List S3} (h:SpAt W v l) (hb:Below W.heap.size W W'):SpAt W' v l:=by
 obtain ⟨g,off,h1,h2⟩:=h
 refine ⟨g,off,h1.keep hb,fun i hi=>?_⟩
 rw [h1.cell hb (by omega),h1.cell hb (by omega),h1.cell hb (by omega)]
 exact h2 i hi
def SB (w:World) (b:Nat) (s:S3):Prop:=w.heap[b]? = some (.cells #[.int .i64 s.a,.int .i64 s.b,.int .i64 s.c] 39 (0,0))
theorem SB.set {w:World} {b:Nat} {s:S3} (h:SB w b s) (x:S3):SB (((w.setCell ⟨b,0,none⟩ (.int .i64 x.a)).setCell ⟨b,1,none⟩ (.int .i64 x.b)).setCell ⟨b,2,none⟩ (.int .i64 x.c)) b x:=by
 have h1:=set_at 0 (.int .i64 x.a) (0,0) h
 have h2:=set_at 1 (.int .i64 x.b) (0,0) h1
 have h3:=set_at 2 (.int .i64 x.c) (0,0) h2
 unfold SB
 rw [h3]
 rfl
theorem set3_ne {w:World} {b k:Nat} {x y z:Value} (h:k≠b):(((w.setCell ⟨b,0,none⟩ x).setCell ⟨b,1,none⟩ y).setCell ⟨b,2,none⟩ z).heap[k]? = w.heap[k]? :=
 (Below.heap_setCell _ _ _ _ h).trans ((Below.heap_setCell _ _ _ _ h).trans (Below.heap_setCell _ _ _ _ h))
def Sum (w3:World) (sb:Nat) (x:S3) (w':World):Prop:=SB w' sb x∧w'.os=w3.os∧w'.tape=w3.tape∧w'.output=w3.output∧w3.heap.size≤w'.heap.size∧∀ k,k<w3.heap.size→k≠sb→w'.heap[k]? = w3.heap[k]?
theorem Sum.of {w3 w5:World} {sb:Nat} {s x:S3} (h:SB w3 sb s) (hb:Below w3.heap.size w3 w5):Sum w3 sb x (((w5.setCell ⟨sb,0,none⟩ (.int .i64 x.a)).setCell ⟨sb,1,none⟩ (.int .i64 x.b)).setCell ⟨sb,2,none⟩ (.int .i64 x.c)):=by
 have h5:SB w5 sb s:=(hb.block sb (Array.getElem?_eq_some_iff.1 h).1).trans h
 exact ⟨h5.set x,hb.os,hb.tape,hb.output,by simpa using hb.size,fun k hk hn=>(set3_ne hn).trans (hb.block k hk)⟩
theorem SB.cells {w w':World} {b:Nat} {s:S3} (h:SB w b s) (hb:Below w.heap.size w w'):(w'.cell? ⟨b,0,none⟩=some (.int .i64 s.a)∧w'.cell? ⟨b,1,none⟩=some (.int .i64 s.b)∧w'.cell? ⟨b,2,none⟩=some (.int .i64 s.c))∧w'.frozen? ⟨b,0,none⟩=false∧w'.frozen? ⟨b,1,none⟩=false∧w'.frozen? ⟨b,2,none⟩=false :=
 cells3s ((hb.block b (Array.getElem?_eq_some_iff.1 h).1).trans h)
theorem SpAt.first {W:World} {ia:Option Addr} {n c:Nat} {y:S3} {r:List S3} (h:SpAt W (.slice ia n c) (y::r)):n=r.length+1∧n≤c∧c≤9223372036854775807∧∃ g off,ia=some ⟨g,off,none⟩∧g<W.heap.size∧W.cell? ⟨g,off,none⟩=some (.int .i64 y.a)∧W.cell? ⟨g,off+1,none⟩=some (.int .i64 y.b)∧W.cell? ⟨g,off+2,none⟩=some (.int .i64 y.c)∧∀ ia',(0<r.length→ia'=some ⟨g,off+3,none⟩)→SpAt W (.slice ia' (n - 1) (c - 1)) r:=by
 obtain ⟨g,off,⟨a,cap,e,h1,h2,h3⟩,h4⟩:=h
 cases e
 obtain ⟨e1,hg⟩:=h3 (by simp)
 have c0:=h4 0 (by simp)
 simp only [Nat.zero_mul,Nat.add_zero,List.getElem_cons_zero] at c0
 refine ⟨by simp,by simpa using h1,h2,g,off,e1,hg,c0.1,c0.2.1,c0.2.2,fun ia' hia=>⟨g,off+3,⟨ia',c - 1,by simp,by simp at h1;omega,by omega,fun h0=>⟨hia h0,hg⟩⟩,fun i hi=>?_⟩⟩
 have:=h4 (i+1) (by simpa using hi)
 rw [show off+3+i * 3=off+(i+1) * 3 by omega]
 simpa using this
def wgPs (ps:List (List (S6×List Cx))):List (List Cx):=ps.flatMap wgP
def GrK (W:World) (m:S3) (w:World):Prop:=SB w (W.heap.size+1) m∧SB w W.heap.size z3∧Below W.heap.size W w
theorem GrK.then {W w w':World} {m:S3} (h:GrK W m w) (hb:Below w.heap.size w w'):GrK W m w' :=
 ⟨(hb.block _ (Array.getElem?_eq_some_iff.1 h.1).1).trans h.1,(hb.block _ (Array.getElem?_eq_some_iff.1 h.2.1).1).trans h.2.1,h.2.2.trans (hb.mono h.2.2.size)⟩
theorem GrK.sum {W w w':World} {m x:S3} {sb:Nat} (h:GrK W m w) (hs:Sum w sb x w') (h1:W.heap.size+1<sb):GrK W m w':=by
 obtain ⟨_,e1,e2,e3,e4,e5⟩:=hs
 refine ⟨(e5 _ (Array.getElem?_eq_some_iff.1 h.1).1 (by omega)).trans h.1,(e5 _ (Array.getElem?_eq_some_iff.1 h.2.1).1 (by omega)).trans h.2.1,⟨e1.trans h.2.2.os,e2.trans h.2.2.tape,e3.trans h.2.2.output,Nat.le_trans h.2.2.size e4,fun k hk=>(e5 k (Nat.lt_of_lt_of_le hk h.2.2.size) (by omega)).trans (h.2.2.block k hk)⟩⟩
theorem gr_plus {W:World} {acc y:S3} (ha:acc.ok) (hy:y.ok):∀ w',Below W.heap.size W w'→Calls Tryz.prog 78 #[.agg #[.int .i64 acc.a,.int .i64 acc.b,.int .i64 acc.c],.agg #[.int .i64 y.a,.int .i64 y.b,.int .i64 y.c]] w' fun e w''=>e=.returned (.agg #[.int .i64 (addS acc y).a,.int .i64 (addS acc y).b,.int .i64 (addS acc y).c])∧Below W.heap.size W w'':=fun w' hb =>
 (plus_any w' ha hy).mono fun _ _ q=>⟨q.1,hb.trans (q.2.mono hb.size)⟩
theorem wgP_drop {p:List (S6×List Cx)} {t:Nat} (h:t<p.length):wgP (p.drop t)=(if wgB (p[t]'h).1.k=true then [(p[t]'h).2] else [])++wgP (p.drop (t+1)):=by
 rw [List.drop_eq_getElem_cons h]
 generalize p[t]'h=x
 generalize p.drop (t+1)=r
 unfold wgP
 by_cases hw:wgB x.1.k=true
 ·simp [hw]
 ·simp [hw]
theorem ptF_take {f:List Cx→S3} {acc:S3} {p:List (S6×List Cx)} {t:Nat} (h:t<p.length):ptF f acc (p.take (t+1))=addS (ptF f acc (p.take t)) (smF f (p[t]'h)):=by
 unfold ptF
 rw [List.take_add_one,List.getElem?_eq_getElem h,Option.toList_some,List.foldl_append]
 rfl
structure Gr3 (W:World) (sb:Nat) (m acc:S3) (p:List (S6×List Cx)) (R2:List S3) (t:Nat) (iv:Value) (w:World):Prop where
 sp:SpAt W iv ((wgP (p.drop t)).map mostZ++R2)
 sum:SB w sb (ptF mostZ acc (p.take t))
 k:GrK W m w
theorem gr3_step {W w2 w':World} {sb:Nat} {m acc:S3} {p:List (S6×List Cx)} {R2:List S3} {t:Nat} {iv iv':Value} (h:Gr3 W sb m acc p R2 t iv w2) (ht:t<p.length) (hsb:W.heap.size+1<sb) (hs:Sum w2 sb (addS (ptF mostZ acc (p.take t)) (smF mostZ (p[t]'ht))) w') (hsp:SpAt W iv' ((wgP (p.drop (t+1))).map mostZ++R2)):Gr3 W sb m acc p R2 (t+1) iv' w' :=
 ⟨hsp,by rw [ptF_take ht];exact hs.1,h.k.sum hs hsb⟩
theorem Gr3.then {W w w':World} {sb:Nat} {m acc:S3} {p:List (S6×List Cx)} {R2:List S3} {t:Nat} {iv:Value} (h:Gr3 W sb m acc p R2 t iv w) (hb:Below w.heap.size w w'):Gr3 W sb m acc p R2 t iv w' :=
 ⟨h.sp,(hb.block _ (Array.getElem?_eq_some_iff.1 h.sum).1).trans h.sum,h.k.then hb⟩
theorem greatest_any {W:World} {v iv:Value} {l:List Cx} {rest:List S3} (h:ClAt W v l) (hi:SpAt W iv ((wgL l).map mostZ++rest)) :
  Calls Tryz.prog 49 #[v,iv] W fun e w'=>e=.returned (mostZ l).v∧Below W.heap.size W w':=by
 obtain ⟨b,off,⟨a,cap,rfl,hc1,hc2,hsa⟩,hat⟩:=h.at
 obtain ⟨ig,io,⟨ia,ic,rfl,hi1,hi2,hi3⟩,hi4⟩:=hi
 obtain ⟨W1,hW1⟩:∃ W1,W1=(W.alloc (.cells #[.int .i64 0,.int .i64 0,.int .i64 0] 39)).alloc (.cells #[.int .i64 0,.int .i64 0,.int .i64 0] 39):=⟨_,rfl⟩
 have hB1:Below W.heap.size W W1:=by rw [hW1];exact ((Below.refl _ _).alloc (Nat.le_refl _) _).alloc (by simp) _
 have hK1:GrK W z3 W1:=by
  refine ⟨?_,?_,hB1⟩
  ·have e:W.heap.size+1=(W.alloc (.cells #[.int .i64 0,.int .i64 0,.int .i64 0] 39)).heap.size:=by simp
   unfold SB
   rw [hW1,e]
   exact heap_alloc_last _ _
  ·unfold SB
   rw [hW1,Below.heap_alloc _ _ _ (by simp)]
   exact heap_alloc_last W _
 have HI0:Hid (SpAt W (.slice ia ((wgL l).map mostZ++rest).length ic) ((wgL (l.drop 0)).map mostZ++rest)):=⟨ig,io,⟨ia,ic,rfl,hi1,hi2,hi3⟩,hi4⟩
 have HAT:=hid_mk hat
 have HSA:=hid_mk hsa
 have HM0:Hid (GrK W ((l.take 0).foldl (fun m c=>upS m (ofF mostZ c)) z3) W1):=hK1
 have HEND:Hid (mostZ l=(l.take l.length).foldl (fun m c=>upS m (ofF mostZ c)) z3):=by rw [Hid,List.take_length];exact mostZ_step l
 obtain ⟨N,hN⟩:∃ N,N=l.length:=⟨_,rfl⟩
 obtain ⟨I,hI⟩:∃ I,I=((wgL l).map mostZ++rest).length:=⟨_,rfl⟩
 rw [← hI] at HI0 ⊢
 rw [← hN] at hc1 HEND ⊢
 have HN:=hid_mk hN
 have hN9:N≤9223372036854775807:=by omega
 have HW1:=hid_mk hW1
 generalize mostZ l=R at *
 clear h hat hsa hi1 hi3 hi4 hN hI hW1 hB1 hK1
 go_enter Tryz.func49,Tryz.ntmps49
 go_wp2_with (fail)
 rw [← HW1.out]
 clear HW1
 go_loopw [1,15] (fun a1 a15 wq=>∃ (i:Nat) (ja:Option Addr) (jn jc:Nat),i≤N∧a15=.int .i64 (i:Int)∧a1=.slice ja jn jc∧Hid (SpAt W (.slice ja jn jc) ((wgL (l.drop i)).map mostZ++rest))∧Hid (GrK W ((l.take i).foldl (fun m c=>upS m (ofF mostZ c)) z3) wq)) (fun _ a15 _=>N+1 - (intOf a15).toNat)
 case atStart=>exact ⟨0,_,_,_,Nat.zero_le _,rfl,rfl,HI0,HM0⟩
 case round =>
  obtain ⟨i,ja,jn,jc,hi,rfl,rfl,HSP,HK⟩:=hrel
  clear HI0 HM0
  by_cases hil:i<N
  ·have hil':i<l.length:=by have:=HN.out;omega
   obtain ⟨rfl,hbw⟩:=HSA.out (by omega)
   obtain ⟨pv,cv,bc,oc,bp,op,qv,bq,oq,lv,q1,q2,hcx⟩:=HAT.out i hil'
   have HST:Hid ((l.take (i+1)).foldl (fun m c=>upS m (ofF mostZ c)) z3=upS ((l.take i).foldl (fun m c=>upS m (ofF mostZ c)) z3) (ofF mostZ (l[i]'hil'))):=by
    rw [Hid,List.take_add_one,List.getElem?_eq_getElem hil',Option.toList_some,List.foldl_append]
    rfl
   have HDR:Hid (wgL (l.drop i)=wgPs ((l[i]'hil').parts.drop 0)++wgL (l.drop (i+1))):=by
    rw [Hid,List.drop_eq_getElem_cons hil',List.drop_zero]
    rfl
   generalize l[i]'hil'=c at *
   obtain ⟨R1,hR1⟩:∃ R1,R1=(wgL (l.drop (i+1))).map mostZ++rest:=⟨_,rfl⟩
   have HSP1:Hid (SpAt W (.slice ja jn jc) ((wgPs (c.parts.drop 0)).map mostZ++R1)):=by
    have h1:=HSP.out
    rw [HDR.out,List.map_append,List.append_assoc,← hR1] at h1
    exact h1
   have HR1:=hid_mk hR1
   obtain ⟨mi,hmi⟩:∃ mi,mi=(l.take i).foldl (fun m c=>upS m (ofF mostZ c)) z3:=⟨_,rfl⟩
   rw [← hmi] at HK HST
   obtain ⟨pa,pc,rfl,hp1,hp2,hpa⟩:=hcx.ps
   obtain ⟨ca,cc,rfl,_⟩:=hcx.cs
   have q1':=(HK.out.2.2.cell (p:=⟨b,off+i * 2,none⟩) hbw).trans q1
   have q2':=(HK.out.2.2.cell (p:=⟨b,off+i * 2+1,none⟩) hbw).trans q2
   obtain ⟨M,hM⟩:∃ M,M=c.parts.length:=⟨_,rfl⟩
   obtain ⟨K,hK⟩:∃ K,K=c.combs.length:=⟨_,rfl⟩
   have HPA:=hid_mk hpa
   have HCX:=hid_mk hcx
   rw [← hM] at hp1 q1'
   rw [← hK] at q2'
   have HM:=hid_mk hM
   have hM9:M≤9223372036854775807:=by omega
   obtain ⟨w1,hw1⟩:∃ w1,w1=(wr.alloc (.cells #[.slice pa M pc,.slice ca K cc] 44)).alloc (.cells #[.int .i64 0,.int .i64 0,.int .i64 0] 39):=⟨_,rfl⟩
   have hB1:Below wr.heap.size wr w1:=by rw [hw1];exact ((Below.refl _ _).alloc (Nat.le_refl _) _).alloc (by simp) _
   have x1:w1.heap[wr.heap.size]? = some (.cells #[.slice pa M pc,.slice ca K cc] 44 (0,0)):=by
    rw [hw1,Below.heap_alloc _ _ _ (by simp)]
    exact heap_alloc_last wr _
   have x2:SB w1 (wr.heap.size+1) z3:=by
    have e:wr.heap.size+1=(wr.alloc (.cells #[.slice pa M pc,.slice ca K cc] 44)).heap.size:=by simp
    unfold SB
    rw [hw1,e]
    exact heap_alloc_last _ _
   have k0:w1.cell? ⟨wr.heap.size,0,none⟩=some (.slice pa M pc):=cellAt x1 0
   have HK1:=hid_mk (HK.out.then hB1)
   have hsb:W.heap.size+1<wr.heap.size+1:=by
    have:=(Array.getElem?_eq_some_iff.1 HK.out.1).1
    omega
   have HS1:Hid (SB w1 (wr.heap.size+1) ((c.parts.take 0).foldl (ptF mostZ) z3)):=x2
   have HW1:=hid_mk hw1
   clear q1 q2 hcx hpa hM hK hw1 hB1 x1 x2 hR1 hmi HSP HDR HK
   go_upto_region 6 with (fail)
   rw [← HW1.out]
   clear HW1 q1' q2'
   generalize wr.heap.size+1=sb at *
   go_wp2
   clear k0
   go_loopw [1,22] (fun a1 a22 wq=>∃ (j:Nat) (ja:Option Addr) (jn jc:Nat),j≤M∧a22=.int .i64 (j:Int)∧a1=.slice ja jn jc∧Hid (SpAt W (.slice ja jn jc) ((wgPs (c.parts.drop j)).map mostZ++R1))∧Hid (SB wq sb ((c.parts.take j).foldl (ptF mostZ) z3))∧Hid (GrK W mi wq)) (fun _ a22 _=>M+1 - (intOf a22).toNat)
   case atStart=>exact ⟨0,_,_,_,Nat.zero_le _,rfl,rfl,HSP1,HS1,HK1⟩
   case round =>
    obtain ⟨j,ja,jn,jc,hj,rfl,rfl,HSP,HS,HK⟩:=hrel
    clear HSP1 HS1 HK1
    by_cases hjl:j<M
    ·have hjl':j<c.parts.length:=by have:=HM.out;omega
     obtain ⟨rfl,hbp⟩:=HPA.out (by omega)
     have p0:=(HK.out.2.2.cell (p:=⟨bp,op+j,none⟩) hbp).trans (HCX.out.pc j hjl')
     obtain ⟨ta,tc,hqv,ht1,ht2,hta⟩:=HCX.out.qs j hjl'
     rw [hqv] at p0
     have HQC:=hid_mk (HCX.out.qc j hjl')
     have HLS:Hid (∀ t,t<(c.parts[j]'hjl').length→∃ la ln lc,lv j t=.slice la ln lc):=fun t ht=>by
      obtain ⟨_,_,⟨la,lc,e,_⟩,_⟩:=(HCX.out.ls j hjl' t ht).at
      exact ⟨la,_,lc,e⟩
     have HDR2:Hid (wgPs (c.parts.drop j)=wgP ((c.parts[j]'hjl').drop 0)++wgPs (c.parts.drop (j+1))):=by
      rw [Hid,List.drop_eq_getElem_cons hjl',List.drop_zero]
      rfl
     have HFT:Hid ((c.parts.take (j+1)).foldl (ptF mostZ) z3=ptF mostZ ((c.parts.take j).foldl (ptF mostZ) z3) (c.parts[j]'hjl')):=by
      rw [Hid,List.take_add_one,List.getElem?_eq_getElem hjl',Option.toList_some,List.foldl_append]
      rfl
     have HACC:Hid ((c.parts.take j).foldl (ptF mostZ) z3).ok:=parts_ok z3_ok fun _ _ x _=>mostZ_ok x.2
     generalize c.parts[j]'hjl'=p at *
     obtain ⟨R2,hR2⟩:∃ R2,R2=(wgPs (c.parts.drop (j+1))).map mostZ++R1:=⟨_,rfl⟩
     obtain ⟨acc,hacc⟩:∃ acc,acc=(c.parts.take j).foldl (ptF mostZ) z3:=⟨_,rfl⟩
     rw [← hacc] at HACC HFT HS
     have HG0:Hid (Gr3 W sb mi acc p R2 0 (.slice ja jn jc) wr):=by
      refine ⟨?_,HS.out,HK.out⟩
      have h1:=HSP.out
      rw [HDR2.out,List.map_append,List.append_assoc,← hR2] at h1
      exact h1
     obtain ⟨L,hL⟩:∃ L,L=p.length:=⟨_,rfl⟩
     rw [← hL] at p0 ht1
     have HTA:=hid_mk hta
     have HL:=hid_mk hL
     have HR2:=hid_mk hR2
     have hL9:L≤9223372036854775807:=by omega
     clear hta hL hR2 hacc HSP HS HK HDR2 hqv HAT HSA HEND
     go_wp2
     clear p0
     go_loopw [1,28] (fun a1 a28 wq=>∃ (t:Nat) (ja:Option Addr) (jn jc:Nat),t≤L∧a28=.int .i64 (t:Int)∧a1=.slice ja jn jc∧Hid (Gr3 W sb mi acc p R2 t (.slice ja jn jc) wq)) (fun _ a28 _=>L+1 - (intOf a28).toNat)
     case atStart=>exact ⟨0,_,_,_,Nat.zero_le _,rfl,rfl,HG0⟩
     case round =>
      obtain ⟨t,ja,jn,jc,ht,rfl,rfl,HG⟩:=hrel
      clear HG0
      by_cases htl:t<L
      ·have htl':t<p.length:=by have:=HL.out;omega
       obtain ⟨rfl,hbq⟩:=HTA.out (by have:=HL.out;omega)
       obtain ⟨la,ln,lc,hlv⟩:=HLS.out t htl'
       have hq:=HQC.out t htl'
       rw [hlv] at hq
       have hkc:∀ o,wr.cell? ⟨bq j,o,none⟩=W.cell? ⟨bq j,o,none⟩:=fun o=>HG.out.k.2.2.cell (p:=⟨bq j,o,none⟩) hbq
       have c0:=(hkc _).trans (hq 0 _ rfl)
       have c1:=(hkc _).trans (hq 1 _ rfl)
       have c2:=(hkc _).trans (hq 2 _ rfl)
       have c3:=(hkc _).trans (hq 3 _ rfl)
       have c4:=(hkc _).trans (hq 4 _ rfl)
       have c5:=(hkc _).trans (hq 5 _ rfl)
       have c6:=(hkc _).trans (hq 6 _ rfl)
       rw [Nat.add_zero] at c0
       have HWD:Hid (wgP (p.drop t)=(if wgB (p[t]'htl').1.k=true then [(p[t]'htl').2] else [])++wgP (p.drop (t+1))):=wgP_drop htl'
       have HPT:Hid (ptF mostZ acc (p.take (t+1))=addS (ptF mostZ acc (p.take t)) (smF mostZ (p[t]'htl'))):=ptF_take htl'
       have HOK:Hid (ptF mostZ acc (p.take t)).ok:=ptF_ok HACC.out fun x _=>mostZ_ok x.2
       generalize p[t]'htl'=x at *
       obtain ⟨s,xl⟩:=x
       dsimp only at c0 c1 c2 c3 c4 c5 c6 HWD HPT
       obtain ⟨w2,hw2⟩:∃ w2,w2=wr.alloc (.cells #[.int .i64 s.k,.string s.nm,.int .i64 s.op,.string s.v,.int .i64 s.a,.int .i64 s.b,.slice la ln lc] 46):=⟨_,rfl⟩
       have x1:w2.heap[wr.heap.size]? = some (.cells #[.int .i64 s.k,.string s.nm,.int .i64 s.op,.string s.v,.int .i64 s.a,.int .i64 s.b,.slice la ln lc] 46 (0,0)):=by
        rw [hw2]
        exact heap_alloc_last wr _
       have hB2:Below wr.heap.size wr w2:=by rw [hw2];exact (Below.refl _ _).alloc (Nat.le_refl _) _
       have HG2:=hid_mk (HG.out.then hB2)
       have d0:w2.cell? ⟨wr.heap.size,0,none⟩=some (.int .i64 s.k):=cellAt x1 0
       have HX1:=hid_mk x1
       have HW2:=hid_mk hw2
       have hszw:wr.heap.size<w2.heap.size:=(Array.getElem?_eq_some_iff.1 x1).1
       have HGS:Hid (SB w2 sb (ptF mostZ acc (p.take t))):=HG2.out.sum
       generalize ptF mostZ acc (p.take t)=ac at *
       have hdl:(t:Int)<(L:Int):=by omega
       clear hq hkc hlv HG x1 hw2 hB2 HQC HLS
       go_upto_region 12 with (fail)
       rw [← HW2.out]
       clear HW2 c0 c1 c2 c3 c4 c5 c6
       go_wp2_with (go_at_call 77;fail)
       refine (weighed_any _ _).mono ?_
       rintro e wz ⟨rfl,hz⟩
       obtain rfl:w2=wz:=hz.symm
       clear hz
       cases hw:wgB s.k with
       | true =>
         have HSPT:Hid (SpAt W (.slice ja jn jc) (mostZ xl::((wgP (p.drop (t+1))).map mostZ++R2))):=by
          have h1:=HG2.out.sp
          rw [HWD.out,if_pos hw] at h1
          exact h1
         obtain ⟨e1,hn1,hn2,g,off,rfl,hgW,y0,y1,y2,hnx⟩:=HSPT.out.first
         have HNX:=hid_mk hnx
         have HPT2:Hid (ptF mostZ acc (p.take (t+1))=addS ac (mostZ xl)):=by
          rw [Hid,HPT.out]
          unfold smF
          rw [if_pos hw]
         have HPL0:=gr_plus (W:=w2) HOK.out (mostZ_ok xl)
         generalize mostZ xl=y at *
         generalize addS ac y=sm at *
         have HPL:=hid_mk HPL0
         have HCL:Hid (∀ w',Below w2.heap.size w2 w'→(w'.cell? ⟨sb,0,none⟩=some (.int .i64 ac.a)∧w'.cell? ⟨sb,1,none⟩=some (.int .i64 ac.b)∧w'.cell? ⟨sb,2,none⟩=some (.int .i64 ac.c))∧w'.frozen? ⟨sb,0,none⟩=false∧w'.frozen? ⟨sb,1,none⟩=false∧w'.frozen? ⟨sb,2,none⟩=false):=fun w' hb=>SB.cells HGS.out hb
         have HSU:Hid (∀ w',Below w2.heap.size w2 w'→Sum w2 sb sm (((w'.setCell ⟨sb,0,none⟩ (.int .i64 sm.a)).setCell ⟨sb,1,none⟩ (.int .i64 sm.b)).setCell ⟨sb,2,none⟩ (.int .i64 sm.c))):=fun w' hb=>Sum.of HGS.out hb
         have gr:Below w2.heap.size w2 w2:=Below.refl _ _
         have gd:Below w2.heap.size w2 w2.drew:=gr.drew
         obtain ⟨⟨s0,s1,s2⟩,f0,f1,f2⟩:=HCL.out w2 gr
         have y0':=(HG2.out.k.2.2.cell (p:=⟨g,off,none⟩) hgW).trans y0
         have y1':=(HG2.out.k.2.2.cell (p:=⟨g,off+1,none⟩) hgW).trans y1
         have y2':=(HG2.out.k.2.2.cell (p:=⟨g,off+2,none⟩) hgW).trans y2
         have hjn:0<jn:=by omega
         have HE1:=hid_mk e1
         have HG3:Hid (∀ w' ia',Sum w2 sb sm w'→(0<((wgP (p.drop (t+1))).map mostZ++R2).length→ia'=some ⟨g,off+3,none⟩)→Gr3 W sb mi acc p R2 (t+1) (.slice ia' (jn - 1) (jc - 1)) w'):=fun w' ia' hs hia=>by
          refine ⟨HNX.out ia' hia,?_,HG2.out.k.sum hs hsb⟩
          rw [HPT2.out]
          exact hs.1
         clear y0 y1 y2 hnx HPL0 HPT HPT2 HWD HSPT e1 hw HOK HX1 HNX HFT HACC HTA HPA HCX HST d0
         go_upto_region 13 with (fail)
         go_region_law (go_simp;go_at_call 78;refine (HPL.out _ ?_).mono ?_;assumption;rintro e w5 ⟨rfl,hb5⟩;obtain ⟨⟨t0,t1,t2⟩,k0,k1,k2⟩:=HCL.out w5 hb5;have HS5:=hid_mk (HSU.out w5 hb5);clear hb5)
         all_goals
          obtain ⟨W6,hW6⟩:∃ W6,W6=((w5.setCell ⟨sb,0,none⟩ (.int .i64 sm.a)).setCell ⟨sb,1,none⟩ (.int .i64 sm.b)).setCell ⟨sb,2,none⟩ (.int .i64 sm.c):=⟨_,rfl⟩
          rw [← hW6] at HS5 ⊢
          clear hW6 t0 t1 t2 k0 k1 k2 HCL HPL HSU s0 s1 s2 f0 f1 f2 y0' y1' y2' gr gd
          go_wp2
          exact ⟨⟨t+1,_,_,_,by omega,by go_num,rfl,HG3.out _ _ HS5.out fun h=>by rw [if_neg (by have:=HE1.out;omega)]⟩,by simp only [intOf];omega⟩
       | false =>
         have HSPT:Hid (SpAt W (.slice ja jn jc) ((wgP (p.drop (t+1))).map mostZ++R2)):=by
          have h1:=HG2.out.sp
          rw [HWD.out,if_neg (by rw [hw];decide)] at h1
          exact h1
         have HPT2:Hid (ptF mostZ acc (p.take (t+1))=addS ac (sglZ s)):=by
          rw [Hid,HPT.out]
          unfold smF
          rw [if_neg (by rw [hw];decide)]
         have HPL0:=gr_plus (W:=w2) HOK.out (sglZ_ok s)
         have HSI0:∀ w',Below w2.heap.size w2 w'→Calls Tryz.prog 79 #[.agg #[.int .i64 s.k,.string s.nm,.int .i64 s.op,.string s.v,.int .i64 s.a,.int .i64 s.b,.slice la ln lc]] w' fun e w''=>e=.returned (.agg #[.int .i64 (sglZ s).a,.int .i64 (sglZ s).b,.int .i64 (sglZ s).c])∧Below w2.heap.size w2 w'':=fun w' hb=>(single_any w' s la ln lc).mono fun _ _ q=>⟨q.1,hb.trans (q.2.mono hb.size)⟩
         generalize sglZ s=y at *
         generalize addS ac y=sm at *
         have HPL:=hid_mk HPL0
         have HSI:=hid_mk HSI0
         have HCL:Hid (∀ w',Below w2.heap.size w2 w'→(w'.cell? ⟨sb,0,none⟩=some (.int .i64 ac.a)∧w'.cell? ⟨sb,1,none⟩=some (.int .i64 ac.b)∧w'.cell? ⟨sb,2,none⟩=some (.int .i64 ac.c))∧w'.frozen? ⟨sb,0,none⟩=false∧w'.frozen? ⟨sb,1,none⟩=false∧w'.frozen? ⟨sb,2,none⟩=false):=fun w' hb=>SB.cells HGS.out hb
         have HSU:Hid (∀ w',Below w2.heap.size w2 w'→Sum w2 sb sm (((w'.setCell ⟨sb,0,none⟩ (.int .i64 sm.a)).setCell ⟨sb,1,none⟩ (.int .i64 sm.b)).setCell ⟨sb,2,none⟩ (.int .i64 sm.c))):=fun w' hb=>Sum.of HGS.out hb
         have gr:Below w2.heap.size w2 w2:=Below.refl _ _
         have gd:Below w2.heap.size w2 w2.drew:=gr.drew
         obtain ⟨⟨s0,s1,s2⟩,f0,f1,f2⟩:=HCL.out w2 gr
         have d1:w2.cell? ⟨wr.heap.size,1,none⟩=some (.string s.nm):=cellAt HX1.out 1
         have d2:w2.cell? ⟨wr.heap.size,2,none⟩=some (.int .i64 s.op):=cellAt HX1.out 2
         have d3:w2.cell? ⟨wr.heap.size,3,none⟩=some (.string s.v):=cellAt HX1.out 3
         have d4:w2.cell? ⟨wr.heap.size,4,none⟩=some (.int .i64 s.a):=cellAt HX1.out 4
         have d5:w2.cell? ⟨wr.heap.size,5,none⟩=some (.int .i64 s.b):=cellAt HX1.out 5
         have d6:w2.cell? ⟨wr.heap.size,6,none⟩=some (.slice la ln lc):=cellAt HX1.out 6
         have HG3:Hid (∀ w',Sum w2 sb sm w'→Gr3 W sb mi acc p R2 (t+1) (.slice ja jn jc) w'):=fun w' hs=>by
          refine ⟨HSPT.out,?_,HG2.out.k.sum hs hsb⟩
          rw [HPT2.out]
          exact hs.1
         clear HPL0 HSI0 HPT HPT2 HWD HSPT hw HOK HX1 HFT HACC HTA HPA HCX HST
         go_upto_region 15 with (fail)
         go_region_law (first
          | (go_simp;go_at_call 79;refine (HSI.out _ ?_).mono ?_;assumption;rintro e w4 ⟨rfl,hb4⟩;obtain ⟨⟨r0,r1,r2⟩,_⟩:=HCL.out w4 hb4)
          | (go_simp;go_at_call 78;refine (HPL.out _ ?_).mono ?_;assumption;rintro e w5 ⟨rfl,hb5⟩;obtain ⟨⟨t0,t1,t2⟩,k0,k1,k2⟩:=HCL.out w5 hb5;have HS5:=hid_mk (HSU.out w5 hb5);clear hb5))
         all_goals
          obtain ⟨W6,hW6⟩:∃ W6,W6=((w5.setCell ⟨sb,0,none⟩ (.int .i64 sm.a)).setCell ⟨sb,1,none⟩ (.int .i64 sm.b)).setCell ⟨sb,2,none⟩ (.int .i64 sm.c):=⟨_,rfl⟩
          rw [← hW6] at HS5 ⊢
          clear hW6 t0 t1 t2 k0 k1 k2 HCL HPL HSU HSI s0 s1 s2 f0 f1 f2 gr gd d0 d1 d2 d3 d4 d5 d6
          go_wp2
          exact ⟨⟨t+1,_,_,_,by omega,by go_num,rfl,HG3.out _ HS5.out⟩,by simp only [intOf];omega⟩
      ·have hte:L=t:=by omega
       subst hte
       have HSN:Hid (SB wr sb ((c.parts.take (j+1)).foldl (ptF mostZ) z3)):=by
        have h1:=HG.out.sum
        rw [HL.out,List.take_length,← HFT.out] at h1
        exact h1
       have HSPN:Hid (SpAt W (.slice ja jn jc) ((wgPs (c.parts.drop (j+1))).map mostZ++R1)):=by
        have h1:=HG.out.sp
        rw [HL.out,List.drop_length] at h1
        rw [Hid,← HR2.out]
        exact h1
       have HKN:=hid_mk HG.out.k
       clear HG HFT HACC HQC HLS HCX HPA HTA
       go_wp2
       exact ⟨⟨j+1,_,_,_,by omega,by go_num,rfl,HSPN,HSN,HKN⟩,by simp only [intOf];omega⟩
    ·have hje:M=j:=by omega
     subst hje
     have HSF:Hid (SB wr sb (ofF mostZ c)):=by
      have h1:=HS.out
      rw [HM.out,List.take_length] at h1
      exact h1
     have HSPN:Hid (SpAt W (.slice ja jn jc) ((wgL (l.drop (i+1))).map mostZ++rest)):=by
      have h1:=HSP.out
      rw [HM.out,List.drop_length] at h1
      rw [Hid,← HR1.out]
      exact h1
     obtain ⟨⟨s0,s1,s2⟩,_⟩:=cells3s HSF.out
     obtain ⟨⟨o0,o1,o2⟩,g0,g1,g2⟩:=cells3s HK.out.1
     have hle:=less_any wr mi (ofF mostZ c)
     generalize ofF mostZ c=su at *
     unfold S3.v at hle
     cases hls:lessS mi su with
     | false =>
       have HKN:Hid (∀ w',Below wr.heap.size wr w'→GrK W ((l.take (i+1)).foldl (fun m c=>upS m (ofF mostZ c)) z3) w'):=fun w' hb=>by
        rw [HST.out,upS,if_neg (by rw [hls];decide)]
        exact HK.out.then hb
       rw [hls] at hle
       clear HAT HSA HEND HSP HK HS HSF HST hls HCX HPA
       go_wp2_with (go_at_call 80;fail)
       refine hle.mono ?_
       rintro e w2 ⟨rfl,hb2⟩
       have HKZ:=hid_mk (HKN.out w2 hb2)
       clear hle hb2 HKN
       go_wp2
       exact ⟨⟨i+1,_,_,_,by omega,by go_num,rfl,HSPN,HKZ⟩,by simp only [intOf];omega⟩
     | true =>
       have HKN:Hid (∀ w',Below wr.heap.size wr w'→GrK W ((l.take (i+1)).foldl (fun m c=>upS m (ofF mostZ c)) z3) (((w'.setCell ⟨W.heap.size+1,0,none⟩ (.int .i64 su.a)).setCell ⟨W.heap.size+1,1,none⟩ (.int .i64 su.b)).setCell ⟨W.heap.size+1,2,none⟩ (.int .i64 su.c))∧SB w' sb su∧SB w' (W.heap.size+1) mi):=fun w' hb=>by
        rw [HST.out,upS,if_pos hls]
        have hk:=HK.out.then hb
        exact ⟨⟨hk.1.set su,(set3_ne (by omega)).trans hk.2.1,below_set3 hk.2.2 (by omega) _ _ _⟩,(hb.block _ (Array.getElem?_eq_some_iff.1 HSF.out).1).trans HSF.out,hk.1⟩
       rw [hls] at hle
       clear HAT HSA HEND HSP HK HS HSF HST hls HCX HPA
       go_wp2_with (go_at_call 80;fail)
       refine hle.mono ?_
       rintro e w2 ⟨rfl,hb2⟩
       obtain ⟨hkz,hs2,ho2⟩:=HKN.out w2 hb2
       obtain ⟨⟨t0,t1,t2⟩,_⟩:=cells3s hs2
       obtain ⟨⟨u0,u1,u2⟩,v0,v1,v2⟩:=cells3s ho2
       have HKZ:=hid_mk hkz
       clear hle hb2 HKN hkz hs2 ho2 s0 s1 s2 o0 o1 o2 g0 g1 g2
       go_wp2
       exact ⟨⟨i+1,_,_,_,by omega,by go_num,rfl,HSPN,HKZ⟩,by simp only [intOf];omega⟩
  ·have hie:i=N:=by omega
   subst hie
   obtain ⟨⟨k0,k1,k2⟩,f0,f1,f2⟩:=cells3s HK.out.2.1
   obtain ⟨⟨o0,o1,o2⟩,_⟩:=cells3s HK.out.1
   have HR:Hid (R=(l.take i).foldl (fun m c=>upS m (ofF mostZ c)) z3):=HEND.out
   have HB:=hid_mk HK.out.2.2
   generalize (l.take i).foldl (fun m c=>upS m (ofF mostZ c)) z3=mm at *
   clear HAT HSA HEND HSP HK hil
   go_wp2
   rw [HR.out]
   exact bodyPost_ret (by simp [results,Tryz.results49,go_sem,k0,k1,k2];rfl) rfl ⟨rfl,below_set3 HB.out (Nat.le_refl _) _ _ _⟩
theorem mem_wgL {l L:List Cx} (h:L∈wgL l):dpL L<dpL l:=by
 obtain ⟨c,hc,h⟩:=List.mem_flatMap.1 h
 obtain ⟨p,hp,h⟩:=List.mem_flatMap.1 h
 obtain ⟨x,hx,rfl⟩:=List.mem_map.1 h
 exact dp_in hc hp (List.mem_filter.1 hx).1
def szD:Nat→List Cx→Nat
 | 0,_=>1
 | d+1,l=>1+((wgL l).map (szD d)).sum
theorem map_congr' {α β:Type} {f g:α→β} {l:List α} (h:∀ x∈l,f x=g x):l.map f=l.map g:=List.map_congr_left h
theorem szD_same:∀ (d e:Nat) (l:List Cx),dpL l<d→dpL l<e→szD d l=szD e l
 | 0,_,_,h,_=>by omega
 | _+1,0,_,_,h=>by omega
 | d+1,e+1,l,hd,he=>by
   unfold szD
   rw [map_congr' (g:=szD e) fun L hL=>by
    have:=mem_wgL hL
    exact szD_same d e L (by omega) (by omega)]
def szZ (l:List Cx):Nat:=szD (dpL l+1) l
theorem szZ_step (l:List Cx):szZ l=1+((wgL l).map szZ).sum:=by
 conv=>lhs;unfold szZ szD
 rw [map_congr' (g:=szZ) fun L hL=>by
  have:=mem_wgL hL
  unfold szZ
  exact szD_same _ _ L (by omega) (by omega)]
theorem szZ_pos (l:List Cx):1≤szZ l:=by rw [szZ_step];omega
theorem sum_len:∀ l:List (List Cx),l.length≤(l.map szZ).sum
 | []=>Nat.le_refl _
 | a::r=>by
   have:=sum_len r
   have:=szZ_pos a
   simp only [List.length_cons,List.map_cons,List.sum_cons]
   omega
theorem queue_step {al:List (List Cx)} {i:Nat} (h:i<al.length):i+((al.drop i).map szZ).sum=(i+1)+(((al++wgL (al[i]'h)).drop (i+1)).map szZ).sum:=by
 rw [List.drop_append_of_le_length (by omega),List.drop_eq_getElem_cons h,List.map_cons,List.sum_cons,List.map_append,List.sum_append,szZ_step]
 omega
inductive F2 {α β:Type} (r:α→β→Prop):List α→List β→Prop
 | nil:F2 r [] []
 | cons {a:α} {b:β} {l:List α} {m:List β} (h:r a b) (t:F2 r l m):F2 r (a::l) (b::m)
theorem F2.len {α β:Type} {r:α→β→Prop} {l:List α} {m:List β} (h:F2 r l m):l.length=m.length:=by
 induction h with
 | nil=>rfl
 | cons _ _ ih=>simp [ih]
theorem F2.get {α β:Type} {r:α→β→Prop} {l:List α} {m:List β} (h:F2 r l m):∀ i (h1:i<l.length) (h2:i<m.length),r (l[i]'h1) (m[i]'h2):=by
 induction h with
 | nil=>intro i h1;exact absurd h1 (by simp)
 | cons h _ ih =>
   intro i h1 h2
   cases i with
   | zero=>exact h
   | succ i=>exact ih i (by simpa using h1) (by simpa using h2)
theorem F2.of {α β:Type} {r:α→β→Prop}:∀ {l:List α} {m:List β},l.length=m.length→(∀ i (h1:i<l.length) (h2:i<m.length),r (l[i]'h1) (m[i]'h2))→F2 r l m
 | [],[],_,_=>.nil
 | a::l,b::m,h,hr=>.cons (hr 0 (by simp) (by simp)) (F2.of (by simpa using h) fun i h1 h2=>hr (i+1) (Nat.succ_lt_succ h1) (Nat.succ_lt_succ h2))
theorem F2.mono {α β:Type} {r s:α→β→Prop} {l:List α} {m:List β} (h:F2 r l m) (hr:∀ a b,r a b→s a b):F2 s l m:=by
 induction h with
 | nil=>exact .nil
 | cons h _ ih=>exact .cons (hr _ _ h) ih
theorem F2.append {α β:Type} {r:α→β→Prop} {l l':List α} {m m':List β} (h:F2 r l m) (h':F2 r l' m'):F2 r (l++l') (m++m'):=by
 induction h with
 | nil=>exact h'
 | cons h _ ih=>exact .cons h ih
theorem F2.flat {α β γ δ:Type} {r:α→β→Prop} {s:γ→δ→Prop} {f:α→List γ} {g:β→List δ} {l:List α} {m:List β} (h:F2 r l m) (hf:∀ a b,r a b→F2 s (f a) (g b)):F2 s (l.flatMap f) (m.flatMap g):=by
 induction h with
 | nil=>exact .nil
 | cons h _ ih=>rw [List.flatMap_cons,List.flatMap_cons];exact (hf _ _ h).append ih
def LsAt (W:World) (a:Addr) (L:List Cx):Prop:=∃ g o u,a=⟨g,o,none⟩∧g<W.heap.size∧W.cell? ⟨g,o+6,none⟩=some u∧ClAt W u L
theorem sel_one {W:World} {p:List (Int×Addr)} {q:List (S6×List Cx)} (h:F2 (fun x y=>x.1=y.1.k∧LsAt W x.2 y.2) p q):F2 (LsAt W) (selP wgB p) (wgP q):=by
 unfold selP wgP
 induction h with
 | nil=>exact .nil
 | cons h _ ih =>
   rw [List.filter_cons,List.filter_cons,h.1]
   split
   ·exact .cons h.2 ih
   ·exact ih
theorem ClAt.see {W:World} {v:Value} {l:List Cx} (h:ClAt W v l):∃ l',SeeAt W v l'∧F2 (LsAt W) (selL wgB l') (wgL l):=by
 cases h with
 | mk v l b off pv cv bc oc bp op qv bq oq lv hs hc h1 h2 h3 h4 h5 h6 hr =>
   refine ⟨l.mapIdx fun i c=>c.parts.mapIdx fun j p=>p.mapIdx fun t x=>(x.1.k,⟨bq i j,oq i j+t * 7,none⟩),⟨b,off,by simpa using hs,fun i hi=>?_⟩,?_⟩
   ·have hi':i<l.length:=by simpa using hi
    obtain ⟨ca,cc,e,_⟩:=h1 i hi'
    refine ⟨pv i,cv i,bp i,op i,(hc i hi').1,(hc i hi').2,⟨ca,_,cc,e⟩,by simpa using h3 i hi',fun j hj=>?_⟩
    have hj':j<(l[i]'hi').parts.length:=by simpa using hj
    refine ⟨qv i j,bq i j,oq i j,h4 i hi' j hj',by simpa using h5 i hi' j hj',fun t ht=>?_⟩
    have ht':t<((l[i]'hi').parts[j]'hj').length:=by simpa using ht
    refine ⟨by simp,?_⟩
    have:=h6 i hi' j hj' t ht' 0 _ rfl
    rw [Nat.add_zero] at this
    simpa using this
   ·unfold selL wgL
    refine F2.flat (r:=fun x c=>F2 (F2 fun x y=>x.1=y.1.k∧LsAt W x.2 y.2) x c.parts) (F2.of (by simp) fun i hi hi'=>?_) fun x c hx=>?_
    ·rw [List.getElem_mapIdx]
     refine F2.of (by simp) fun j hj hj'=>?_
     rw [List.getElem_mapIdx]
     refine F2.of (by simp) fun t ht ht'=>?_
     rw [List.getElem_mapIdx]
     refine ⟨rfl,bq i j,oq i j+t * 7,lv i j t,rfl,?_,h6 i hi' j hj' t ht' 6 _ rfl,hr i hi' j hj' t ht'⟩
     obtain ⟨_,_,_,_,_,e⟩:=h5 i hi' j hj'
     exact (e (by omega)).2
    ·exact F2.flat hx fun p q hp=>sel_one hp
theorem within_cl {W:World} {v:Value} {l:List Cx} (h:ClAt W v l) (hbig:(wgL l).length≤1000000) :
  Calls Tryz.prog 27 #[v,.func (.func 77) #[] #[]] W fun e w'=>∃ v' A,e=.returned v'∧PsAt W.heap.size w' v' A∧F2 (LsAt W) A (wgL l)∧Below W.heap.size W w':=by
 obtain ⟨l',hs,hf⟩:=h.see
 refine (within_83 (f:=wgB) (fun w k=>weighed_any w k) hs (by rw [hf.len];exact hbig)).mono ?_
 rintro e w' ⟨v',rfl,hp,hb⟩
 exact ⟨v',_,rfl,hp,hf,hb⟩
theorem info23:∃ i z,Tryz.prog.info? 26=some i∧i.zero=some z∧i.size=1∧i.bytes=24∧z.cells.size=1:=⟨_,_,by rfl,by rfl,by rfl,by rfl,by rfl⟩
theorem SeeAt.keep {W W':World} {v:Value} {l:List (List (List (Int×Addr)))} (h:SeeAt W v l) (hb:Below W.heap.size W W'):SeeAt W' v l:=by
 obtain ⟨b,off,hs,hat⟩:=h
 refine ⟨b,off,hs.keep hb,fun i hi=>?_⟩
 obtain ⟨pv,cv,bp,op,q1,q2,q3,q4,q5⟩:=hat i hi
 refine ⟨pv,cv,bp,op,(hs.cell hb (by omega) _).trans q1,(hs.cell hb (by omega) _).trans q2,q3,q4.keep hb,fun j hj=>?_⟩
 obtain ⟨qv,bq,oq,r1,r2,r3⟩:=q5 j hj
 exact ⟨qv,bq,oq,(q4.cell hb (by omega) _).trans r1,r2.keep hb,fun t ht=>⟨(r3 t ht).1,(r2.cell hb (by omega) _).trans (r3 t ht).2⟩⟩
theorem within_in {W w:World} {v:Value} {l:List Cx} (h:ClAt W v l) (hw:Below W.heap.size W w) (hbig:(wgL l).length≤1000000) :
  Calls Tryz.prog 27 #[v,.func (.func 77) #[] #[]] w fun e w'=>∃ v' A,e=.returned v'∧PsAt w.heap.size w' v' A∧F2 (LsAt W) A (wgL l)∧Below w.heap.size w w':=by
 obtain ⟨l',hs,hf⟩:=h.see
 refine (within_83 (f:=wgB) (fun w k=>weighed_any w k) (hs.keep hw) (by rw [hf.len];exact hbig)).mono ?_
 rintro e w' ⟨v',rfl,hp,hb⟩
 exact ⟨v',_,rfl,hp,hf,hb⟩
theorem own_by {w wa w2:World} {B n s m s':Nat} {T U:TypeId} {v v':Value} {xs ys:List Value} (h:w.ownsRow B T s v n xs) (k:w.ownsRow B U s' v' m ys) (hT:T≠U) (ha:Below w.heap.size w wa) (hg:wa.grownBy w2 v'.ownBlock):w2.ownsRow B T s v n xs :=
 own_stayT h fun g c hc _=>by
  have hl:=(Array.getElem?_eq_some_iff.1 hc).1
  rw [hg.block g (Nat.lt_of_lt_of_le hl ha.size) (fun e=>?_),ha.block g hl]
  obtain ⟨_,d,hd⟩:=own_at k e.symm
  exact hT (ty_ne hc hd)
theorem own_n {w:World} {B n s m c:Nat} {T:TypeId} {a:Option Addr} {xs:List Value} (h:w.ownsRow B T s (.slice a m c) n xs):m=n:=by
 rcases h.2 with ⟨e,rfl⟩ | ⟨g,cap,cur,e,_⟩
 ·cases e;rfl
 ·cases e;rfl
theorem own_new (W:World) (e:TypeId) (x:Value):(W.alloc (.cells #[x] e)).ownsRow W.heap.size e 1 (.slice (some ⟨W.heap.size,0,none⟩) 1 1) 1 [x] :=
 ⟨by simp,.inr ⟨W.heap.size,1,#[x],rfl,Nat.le_refl _,heap_alloc_last W _,Nat.le_refl _,by decide,by simp,by simp⟩⟩
def AsAt (W w:World) (v:Value) (al:List (List Cx)):Prop:=∃ us,w.ownsRow W.heap.size 26 1 v al.length us∧F2 (fun u L=>ClAt W u L) us al
def InAt (W w:World) (v:Value) (ins:List Nat):Prop:=w.ownsRow W.heap.size 3 1 v ins.length (ins.map fun (n:Nat)=>Value.int .i64 (n:Int))
structure Que (l:List Cx) (al:List (List Cx)) (ins:List Nat) (i:Nat):Prop where
 len:ins.length=i
 le:i≤al.length
 sum:i+((al.drop i).map szZ).sum=szZ l
 first:al[0]? = some l
 ok:∀ k (h:k<ins.length) (h':k<al.length),k<ins[k]'h∧ins[k]'h≤al.length∧∃ rest,al.drop (ins[k]'h)=wgL (al[k]'h')++rest
theorem Que.start (l:List Cx):Que l [l] [] 0:=⟨rfl,Nat.zero_le _,by simp,rfl,fun k h=>absurd h (by simp)⟩
theorem Que.big {l:List Cx} {al:List (List Cx)} {ins:List Nat} {i:Nat} (h:Que l al ins i):al.length≤szZ l:=by
 have h1:=sum_len (al.drop i)
 have h2:=h.sum
 have h3:=h.le
 rw [List.length_drop] at h1
 omega
theorem Que.next {l:List Cx} {al:List (List Cx)} {ins:List Nat} {i:Nat} (h:Que l al ins i) (hi:i<al.length):Que l (al++wgL (al[i]'hi)) (ins++[al.length]) (i+1):=by
 refine ⟨by simp [h.len],by simp;omega,by rw [← queue_step hi];exact h.sum,?_,fun k h1 h2=>?_⟩
 ·rw [List.getElem?_append_left (by omega)]
  exact h.first
 ·by_cases hk:k<ins.length
  ·have hk':k<al.length:=by have:=h.len;omega
   obtain ⟨q1,q2,rest,q3⟩:=h.ok k hk hk'
   rw [List.getElem_append_left hk,List.getElem_append_left hk']
   refine ⟨q1,by simp;omega,rest++wgL (al[i]'hi),?_⟩
   rw [List.drop_append_of_le_length q2,q3,List.append_assoc]
  ·have hke:k=i:=by
    have:=h.len
    simp at h1
    omega
   subst hke
   have e:(ins++[al.length])[k]'h1=al.length:=by
    rw [List.getElem_append_right (by omega)]
    simp
   rw [e,List.getElem_append_left hi]
   exact ⟨hi,by simp,[],by simp⟩
structure Sp3 (W:World) (al X:List (List Cx)) (pv iv:Value) (A:List Addr) (ins:List Nat) (t:Nat) (av:Value) (w:World):Prop where
 all:AsAt W w av (al++X.take t)
 inn:InAt W w iv ins
 ps:w.ownsRow W.heap.size 77 1 pv A.length (A.map fun a=>Value.pointer (some a))
 bel:Below W.heap.size W w
theorem Sp3.next {W w w3:World} {al X:List (List Cx)} {pv iv av v3 u:Value} {A:List Addr} {ins:List Nat} {t:Nat} {us:List Value} (h:Sp3 W al X pv iv A ins t av w) (ht:t<X.length) (hu:ClAt W u (X[t]'ht))
  (ho:w.ownsRow W.heap.size 26 1 av (al++X.take t).length us) (hf:F2 (fun u L=>ClAt W u L) us (al++X.take t)) (hg:(w.alloc (.cells #[u] 26)).grownBy w3 av.ownBlock) (ho3:w3.ownsRow W.heap.size 26 1 v3 ((al++X.take t).length+1) (us++[u])):Sp3 W al X pv iv A ins (t+1) v3 w3:=by
 have ha:Below w.heap.size w (w.alloc (.cells #[u] 26)):=(Below.refl _ _).alloc (Nat.le_refl _) _
 have e:al++X.take (t+1)=(al++X.take t)++[X[t]'ht]:=by rw [List.take_add_one,List.getElem?_eq_getElem ht,Option.toList_some,List.append_assoc]
 refine ⟨⟨us++[u],?_,?_⟩,own_by h.inn ho (by decide) ha hg,own_by h.ps ho (by decide) ha hg,?_⟩
 ·rw [e,List.length_append (bs:=[X[t]'ht])]
  exact ho3
 ·rw [e]
  exact hf.append (.cons hu .nil)
 ·exact (h.bel.alloc h.bel.size _).grown hg (h.bel.alloc h.bel.size _).size fun k hk=>(own_at ho hk).1
theorem own_low {w w':World} {B n s:Nat} {T:TypeId} {v:Value} {xs:List Value} (h:w.ownsRow B T s v n xs) (hb:Below w.heap.size w w'):w'.ownsRow B T s v n xs:=own_stayT h fun g _ hc _=>hb.block g (Array.getElem?_eq_some_iff.1 hc).1
theorem spread_any {W:World} {v:Value} {l:List Cx} (h:ClAt W v l) (hsz:szZ l≤1000000) :
  Calls Tryz.prog 48 #[v] W fun e w'=>∃ av iv al ins,e=.returned (.tuple #[av,iv])∧AsAt W w' av al∧InAt W w' iv ins∧Que l al ins al.length∧Below W.heap.size W w':=by
 obtain ⟨i0,z0,hi0,hz0,hz1,hz2,hz3⟩:=info23
 obtain ⟨i1,y0,hi1,hy0,hy1,hy2,hy3⟩:=info3
 obtain ⟨a,ll,cap,rfl⟩:∃ a n c,v=.slice a n c:=by
  obtain ⟨_,_,⟨a,cap,e,_⟩,_⟩:=h.at
  exact ⟨_,_,_,e⟩
 obtain ⟨W1,hW1⟩:∃ W1,W1=W.alloc (.cells #[.slice a ll cap] 26):=⟨_,rfl⟩
 have HA0:Hid (∃ al ins,AsAt W W1 (.slice (some ⟨W.heap.size,0,none⟩) 1 1) al∧InAt W W1 (.slice none 0 0) ins∧Que l al ins 0):=by
  refine ⟨[l],[],⟨[.slice a ll cap],?_,.cons h .nil⟩,⟨rfl,.inl ⟨rfl,rfl⟩⟩,Que.start l⟩
  rw [hW1]
  exact own_new W 26 _
 have HB0:Hid (Below W.heap.size W W1):=by rw [Hid,hW1];exact (Below.refl _ _).alloc (Nat.le_refl _) _
 have HSZ:=hid_mk hsz
 have HW1:=hid_mk hW1
 clear h hW1 hsz
 go_enter Tryz.func48,Tryz.ntmps48
 go_upto_region 3 with (fail)
 rw [← HW1.out]
 clear HW1
 go_wp2
 go_loopw [4,5,6] (fun a4 a5 a6 wq=>∃ (i:Nat) (aa:Option Addr) (an ac:Nat) (ia:Option Addr) (im ic:Nat),i≤1000000∧a6=.int .i64 (i:Int)∧a4=.slice aa an ac∧a5=.slice ia im ic∧Hid (∃ al ins,AsAt W wq (.slice aa an ac) al∧InAt W wq (.slice ia im ic) ins∧Que l al ins i)∧Hid (Below W.heap.size W wq)) (fun _ _ a6 _=>1000001 - (intOf a6).toNat)
 case atStart=>exact ⟨0,_,_,_,_,_,_,Nat.zero_le _,rfl,rfl,rfl,HA0,HB0⟩
 case round =>
  obtain ⟨i,aa,an,ac,ia,im,ic,hi,rfl,rfl,rfl,HA,HB⟩:=hrel
  clear HA0 HB0
  obtain ⟨al,ins,⟨us,hus,hf⟩,hin,hq⟩:=HA.out
  have hbig:=Nat.le_trans hq.big HSZ.out
  have hle:=hq.le
  have hnl:an=al.length:=own_n hus
  by_cases hil:i<an
  ·have hil':i<al.length:=by omega
   have hHin:(wr.alloc (.cells #[.int .i64 (an:Int)] 3)).ownsRow W.heap.size 3 1 (.slice ia im ic) ins.length (ins.map fun (n:Nat)=>Value.int .i64 (n:Int)):=own_stayT hin fun g c hc _=>Below.heap_alloc _ _ _ (Array.getElem?_eq_some_iff.1 hc).1
   have HNX:Hid (∀ w3 v3,(wr.alloc (.cells #[.int .i64 (an:Int)] 3)).grownBy w3 (Value.slice ia im ic).ownBlock→w3.ownsRow W.heap.size 3 1 v3 (ins.length+1) ((ins.map fun (n:Nat)=>Value.int .i64 (n:Int))++[.int .i64 (an:Int)])→InAt W w3 v3 (ins++[al.length])∧w3.ownsRow W.heap.size 26 1 (.slice aa an ac) al.length us∧Below W.heap.size W w3):=fun w3 v3 hgr ho=>by
    have ha:Below wr.heap.size wr (wr.alloc (.cells #[.int .i64 (an:Int)] 3)):=(Below.refl _ _).alloc (Nat.le_refl _) _
    refine ⟨?_,own_by hus hin (by decide) ha hgr,?_⟩
    ·unfold InAt
     rw [List.length_append,List.map_append,← hnl]
     exact ho
    ·have hB2:Below W.heap.size W (wr.alloc (.cells #[.int .i64 (an:Int)] 3)):=HB.out.alloc HB.out.size _
     exact hB2.grown hgr hB2.size fun k hk=>(own_at hin hk).1
   have HOS:Hid (∀ u∈[Value.int .i64 (an:Int)],u.oneCell'=true):=by
    intro u hu
    rw [List.mem_singleton.1 hu]
    rfl
   have HON:Hid (∀ j u,[Value.int .i64 (an:Int)][j]? = some u→(wr.alloc (.cells #[.int .i64 (an:Int)] 3)).cell? (Addr.add ⟨wr.heap.size,0,none⟩ j)=some u):=one_news
   have hszA:W.heap.size≤(wr.alloc (.cells #[.int .i64 (an:Int)] 3)).heap.size:=by have:=HB.out.size;simp;omega
   have hil1:ins.length≤1000000:=by have:=hq.len;omega
   have HF:=hid_mk hf
   have HQ:=hid_mk hq
   have HLN:=hid_mk hnl
   have hdl:(i:Int)<(an:Int):=by omega
   rw [← hnl] at hbig hle
   clear HA hf hus hin hq hnl
   go_wp2_with (at_builtin;with_reducible refine wpList_append_own _ rfl _ _ 42 rfl W.heap.size 3 i1 y0 1 8 Tryz.underlying42 hi1 hy0 hy1 hy2 hy3 (by decide) (.slice ia im ic) ins.length (ins.map fun (n:Nat)=>Value.int .i64 (n:Int)) rfl hHin ⟨wr.heap.size,0,none⟩ 1 1 [.int .i64 (an:Int)] rfl rfl HON.out HOS.out ?c1 ?c2 ?c3 ?_)
   case c1=>unfold maxLen;omega
   case c2=>omega
   case c3=>exact hszA
   intro v3 w3 ho3 hgr3 _
   obtain ⟨hin3,hus3,hB3⟩:=HNX.out w3 v3 hgr3 ho3
   obtain ⟨ea,en,ec,rfl⟩:=own_sl ho3
   obtain ⟨ag,agc,x,e1,hag,_,hc1,hc2,hx,cx⟩:=own_cell hus3 hil'
   have hxi:i<us.length:=by have:=HF.out.len;omega
   rw [List.getElem?_eq_getElem hxi] at hx
   have hcl:=HF.out.get i hxi hil'
   rw [Option.some.inj hx] at hcl
   obtain ⟨xa,xn,xc,rfl⟩:∃ a n c,x=.slice a n c:=by
    obtain ⟨_,_,⟨a,cap,e,_⟩,_⟩:=hcl.at
    exact ⟨_,_,_,e⟩
   have HX2:Hid ((wgL (al[i]'hil')).length+al.length≤1000000):=by
    have h1:=(HQ.out.next hil').big
    rw [List.length_append] at h1
    have:=HSZ.out
    rw [Hid]
    omega
   have hcall:=within_in hcl hB3 (by have:=HX2.out;omega)
   obtain ⟨rfl,rfl⟩:aa=some ⟨ag,0,none⟩∧ac=agc:=by
    cases e1
    exact ⟨rfl,rfl⟩
   rw [← HLN.out] at hc1
   have HI3:=hid_mk hin3
   have HU3:=hid_mk hus3
   have HB3:=hid_mk hB3
   clear HNX hHin ho3 hgr3 hin3 hus3 hB3 e1 hx HOS HON hcl hszA
   have HQN:=hid_mk (HQ.out.next hil')
   generalize al[i]'hil'=L at *
   clear HQ
   go_wp2_with (go_at_call 27;fail)
   refine hcall.mono ?_
   rintro e w4 ⟨v4,A,rfl,hps,hls,hb4⟩
   obtain ⟨pa,pn,pc,rfl⟩:=own_sl hps
   have hpn:pn=A.length:=own_n hps
   have HPC:Hid (∀ (k:Nat) (w:World),w.ownsRow W.heap.size 77 1 (.slice pa pn pc) A.length (A.map fun a=>Value.pointer (some a))→k<pn→∃ g x,pa=some ⟨g,0,none⟩∧pn≤pc∧pc≤9223372036854775807∧A[k]? = some x∧w.cell? ⟨g,k,none⟩=some (.pointer (some x))):=fun k w hp hk=>by
    obtain ⟨g,c,x,e1,e2,_,q1,q2,e5,e6⟩:=own_cell hp (show k<A.length by omega)
    cases e1
    rw [List.getElem?_map] at e5
    cases hx:A[k]? with
    | none=>rw [hx] at e5;cases e5
    | some y =>
      rw [hx] at e5
      cases e5
      exact ⟨g,y,rfl,q1,q2,rfl,e6⟩
   have HG0:Hid (Sp3 W al (wgL L) (.slice pa pn pc) (.slice ea en ec) A (ins++[al.length]) 0 (.slice (some ⟨ag,0,none⟩) an ac) w4):=by
    refine ⟨⟨us,?_,?_⟩,own_low HI3.out hb4,own_from hps HB3.out.size,HB3.out.trans (hb4.mono HB3.out.size)⟩
    ·rw [List.take_zero,List.append_nil]
     exact own_low HU3.out hb4
    ·rw [List.take_zero,List.append_nil]
     exact HF.out
   have HLS:=hid_mk hls
   have HPN:Hid (pn=(wgL L).length):=hpn.trans hls.len
   have hpn9:pn+an≤1000000:=by
    have h1:=HX2.out
    have h2:=HPN.out
    have h3:=HLN.out
    omega
   generalize wgL L=X at *
   clear hcall hps hls hb4 hpn HI3 HU3 HB3 HF cx hag
   go_wp2
   go_loopw [4,28] (fun a4 a28 wq=>∃ (t:Nat) (aa:Option Addr) (am ac:Nat),t≤pn∧a28=.int .i64 (t:Int)∧a4=.slice aa am ac∧Hid (Sp3 W al X (.slice pa pn pc) (.slice ea en ec) A (ins++[al.length]) t (.slice aa am ac) wq)) (fun _ a28 _=>pn+1 - (intOf a28).toNat)
   case atStart=>exact ⟨0,_,_,_,Nat.zero_le _,rfl,rfl,HG0⟩
   case round =>
    obtain ⟨t,ba,bn,bc,ht,rfl,rfl,HG⟩:=hrel
    clear HG0
    by_cases htl:t<pn
    ·obtain ⟨pg,x,rfl,hpc1,hpc2,hx,hcx⟩:=HPC.out t wr HG.out.ps htl
     have htA:t<A.length:=(List.getElem?_eq_some_iff.1 hx).1
     have htX:t<X.length:=by have:=HPN.out;omega
     rw [List.getElem?_eq_getElem htA] at hx
     obtain ⟨xg,xo,u,hxe,hxg,hu,hucl⟩:=HLS.out.get t htA htX
     rw [Option.some.inj hx] at hxe
     subst hxe
     obtain ⟨ua,un,uc,rfl⟩:∃ a n c,u=.slice a n c:=by
      obtain ⟨_,_,⟨a,cap,e,_⟩,_⟩:=hucl.at
      exact ⟨_,_,_,e⟩
     have hu':=(HG.out.bel.cell (p:=⟨xg,xo+6,none⟩) hxg).trans hu
     obtain ⟨vs,hvs,hvf⟩:=HG.out.all
     have hnn:(al++X.take t).length+1≤1000000:=by
      have h1:=HPN.out
      have h2:=HLN.out
      rw [List.length_append,List.length_take]
      omega
     have hown:(wr.alloc (.cells #[.slice ua un uc] 26)).ownsRow W.heap.size 26 1 (.slice ba bn bc) (al++X.take t).length vs:=own_stayT hvs fun g c hc _=>Below.heap_alloc _ _ _ (Array.getElem?_eq_some_iff.1 hc).1
     have HNX:Hid (∀ w3 v3,(wr.alloc (.cells #[.slice ua un uc] 26)).grownBy w3 (Value.slice ba bn bc).ownBlock→w3.ownsRow W.heap.size 26 1 v3 ((al++X.take t).length+1) (vs++[.slice ua un uc])→Sp3 W al X (.slice (some ⟨pg,0,none⟩) pn pc) (.slice ea en ec) A (ins++[al.length]) (t+1) v3 w3):=fun w3 v3 hg ho=>HG.out.next htX hucl hvs hvf hg ho
     have HOS:Hid (∀ z∈[Value.slice ua un uc],z.oneCell'=true):=by
      intro z hz
      rw [List.mem_singleton.1 hz]
      rfl
     have HON:Hid (∀ j z,[Value.slice ua un uc][j]? = some z→(wr.alloc (.cells #[.slice ua un uc] 26)).cell? (Addr.add ⟨wr.heap.size,0,none⟩ j)=some z):=one_news
     have hszA:W.heap.size≤(wr.alloc (.cells #[.slice ua un uc] 26)).heap.size:=by have:=HG.out.bel.size;simp;omega
     generalize (al++X.take t).length=nn at *
     have hdt:(t:Int)<(pn:Int):=by omega
     clear hvs hvf hu hucl hx HG HLS HPC HQN
     go_wp2_with (at_builtin;with_reducible refine wpList_append_own _ rfl _ _ 93 rfl W.heap.size 26 i0 z0 1 24 Tryz.underlying93 hi0 hz0 hz1 hz2 hz3 (by decide) (.slice ba bn bc) nn vs rfl hown ⟨wr.heap.size,0,none⟩ 1 1 [.slice ua un uc] rfl rfl HON.out HOS.out ?c1 ?c2 ?c3 ?_)
     case c1=>unfold maxLen;omega
     case c2=>omega
     case c3=>exact hszA
     intro v5 w5 ho5 hgr5 _
     have HG5:=hid_mk (HNX.out w5 v5 hgr5 ho5)
     obtain ⟨fa,fn,fc,rfl⟩:=own_sl ho5
     clear ho5 hgr5 HNX hown hu' hcx HON HOS hszA
     go_wp2
     exact ⟨⟨t+1,_,_,_,by omega,by go_num,rfl,HG5⟩,by simp only [intOf];omega⟩
    ·have hte:t=pn:=by omega
     subst hte
     have HAN:Hid (∃ al ins,AsAt W wr (.slice ba bn bc) al∧InAt W wr (.slice ea en ec) ins∧Que l al ins (i+1)):=by
      refine ⟨_,_,?_,HG.out.inn,HQN.out⟩
      have h1:=HG.out.all
      rw [HPN.out,List.take_length] at h1
      exact h1
     have HBN:=hid_mk HG.out.bel
     clear HG HQN HLS HPC htl
     go_wp2
     exact ⟨⟨i+1,_,_,_,_,_,_,by omega,by go_num,rfl,rfl,HAN,HBN⟩,by simp only [intOf];omega⟩
  ·have hie:i=an:=by omega
   have HFIN:Hid (∃ al ins,AsAt W wr (.slice aa an ac) al∧InAt W wr (.slice ia im ic) ins∧Que l al ins al.length):=by
    refine ⟨al,ins,⟨us,hus,hf⟩,hin,?_⟩
    rw [← hnl,← hie]
    exact hq
   clear HA hf hus hin hq hnl hbig hle hil
   subst hie
   go_wp2
   go_ret2
   obtain ⟨al,ins,h1,h2,h3⟩:=HFIN.out
   exact ⟨_,_,al,ins,rfl,h1,h2,h3,HB.out⟩
end Go.Proofs.YtdneaeokljoijaaGreatDoor.L
