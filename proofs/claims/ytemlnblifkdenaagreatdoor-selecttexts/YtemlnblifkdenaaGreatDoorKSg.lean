/- The table of signs, as it is laid. -/
import Derived.Test.YtemlnblifkdenaaGreatDoorNWholeN
import Derived.Test.YtemlnblifkdenaaGreatDoorLTl
import Derived.Deep.RegionLaw
import Derived.Test.YtemlnblifkdenaaGreatDoorLWi
import Derived.Test.YtemlnblifkdenaaGreatDoorLPa
import Derived.Test.YtemlnblifkdenaaGreatDoorRTx
import Derived.ProofKit
import Derived.OpenShut
import Derived.LaidMore
import Derived.Lib.LaidTab
import Derived.FnData
set_option maxRecDepth 100000
set_option maxHeartbeats 8000000
namespace Go.Proofs.YtemlnblifkdenaaGreatDoor.L
open Go.RowKit
theorem rsame_yes {W:World} {v1:Value} {l:List Cx} (h1:ClAt W v1 l):∀ v2,ClAt W v2 l→∀ w,Below W.heap.size W w→Calls Tryz.prog 7 #[v1,v2] w fun e w'=>e=.returned (.bool true)∧Below w.heap.size w w':=by
 induction h1 with
 | mk v1 l b off pv cv bc oc bp op qv bq oq lv hs hc h1 h2 h3 h4 h5 h6 hr ih =>
   intro v2 hv2 w hW
   cases hv2 with
   | mk v2 l b' off' pv' cv' bc' oc' bp' op' qv' bq' oq' lv' hs' hc' h1' h2' h3' h4' h5' h6' hr' =>
   have hk1:=fun i (hi:i<l.length)=>(⟨(h1 i hi).keep hW,fun t ht=>((h1 i hi).cell hW (by omega) _).trans (h2 i hi t ht)⟩:Sl w (cv i) (l[i]'hi).combs.length (bc i) (oc i)∧∀ t (ht:t<(l[i]'hi).combs.length),w.cell? ⟨bc i,oc i+t,none⟩=some (.int .i64 ((l[i]'hi).combs[t]'ht)))
   have hk2:=fun i (hi:i<l.length)=>(⟨(h1' i hi).keep hW,fun t ht=>((h1' i hi).cell hW (by omega) _).trans (h2' i hi t ht)⟩:Sl w (cv' i) (l[i]'hi).combs.length (bc' i) (oc' i)∧∀ t (ht:t<(l[i]'hi).combs.length),w.cell? ⟨bc' i,oc' i+t,none⟩=some (.int .i64 ((l[i]'hi).combs[t]'ht)))
   have HI:Hid (∀ w',Below w.heap.size w w'→∀ i (hi:i<l.length),Calls Tryz.prog 17 #[cv i,cv' i] w' fun e w''=>e=.returned (.bool true)∧Below w.heap.size w w''):=fun w' hw' i hi=>by
    have k1:=hk1 i hi
    have k2:=hk2 i hi
    refine (ints_yes (ks:=(l[i]'hi).combs) ⟨_,_,k1.1.keep hw',fun t ht=>(k1.1.cell hw' (by omega) _).trans (k1.2 t ht)⟩ ⟨_,_,k2.1.keep hw',fun t ht=>(k2.1.cell hw' (by omega) _).trans (k2.2 t ht)⟩).mono fun e w'' h=>⟨h.1,hw'.trans (h.2.mono hw'.size)⟩
   have HS:Hid (∀ w',Below w.heap.size w w'→∀ i (hi:i<l.length) j,j<(l[i]'hi).parts.length→Calls Tryz.prog 18 #[qv i j,qv' i j] w' fun e w''=>e=.returned (.bool true)∧Below w.heap.size w w''):=fun w' hw' i hi j hj=>by
    refine (same_yes (R1:=fun u L=>∀ v2,ClAt W v2 L→∀ w,Below W.heap.size W w→Calls Tryz.prog 7 #[u,v2] w fun e w'=>e=.returned (.bool true)∧Below w.heap.size w w') (R2:=ClAt W) (p:=(l[i]'hi).parts[j]'hj) ⟨bq i j,oq i j,h5 i hi j hj,lv i j,h6 i hi j hj,fun t ht=>⟨?_,ih i hi j hj t ht⟩⟩ ⟨bq' i j,oq' i j,h5' i hi j hj,lv' i j,h6' i hi j hj,fun t ht=>⟨?_,hr' i hi j hj t ht⟩⟩ (fun u1 u2 L a b w hw=>a u2 b w hw) w' (hW.trans (hw'.mono hW.size))).mono fun e w'' h=>⟨h.1,hw'.trans (h.2.mono hw'.size)⟩
    ·obtain ⟨_,_,⟨la,lc,e,_⟩,_⟩:=(hr i hi j hj t ht).at
     exact ⟨_,_,_,e⟩
    ·obtain ⟨_,_,⟨la,lc,e,_⟩,_⟩:=(hr' i hi j hj t ht).at
     exact ⟨_,_,_,e⟩
   have HC:Hid (∀ w',Below w.heap.size w w'→∀ i (hi:i<l.length),(w'.cell? ⟨b,off+i * 2,none⟩=some (pv i)∧w'.cell? ⟨b,off+i * 2+1,none⟩=some (cv i))∧w'.cell? ⟨b',off'+i * 2,none⟩=some (pv' i)∧w'.cell? ⟨b',off'+i * 2+1,none⟩=some (cv' i)):=fun w' hw' i hi=>by
    have hB:=hW.trans (hw'.mono hW.size)
    rw [hs.cell hB (by omega),hs.cell hB (by omega),hs'.cell hB (by omega),hs'.cell hB (by omega)]
    exact ⟨hc i hi,hc' i hi⟩
   have HP:Hid (∀ w',Below w.heap.size w w'→∀ i (hi:i<l.length) j,j<(l[i]'hi).parts.length→w'.cell? ⟨bp i,op i+j,none⟩=some (qv i j)∧w'.cell? ⟨bp' i,op' i+j,none⟩=some (qv' i j)):=fun w' hw' i hi j hj=>by
    have hB:=hW.trans (hw'.mono hW.size)
    rw [(h3 i hi).cell hB (by omega),(h3' i hi).cell hB (by omega)]
    exact ⟨h4 i hi j hj,h4' i hi j hj⟩
   have HQ:Hid (∀ i (hi:i<l.length) j (hj:j<(l[i]'hi).parts.length),(∃ a c,qv i j=.slice a ((l[i]'hi).parts[j]'hj).length c)∧∃ a c,qv' i j=.slice a ((l[i]'hi).parts[j]'hj).length c):=fun i hi j hj=>by
    obtain ⟨a,c,e,_⟩:=h5 i hi j hj
    obtain ⟨a',c',e',_⟩:=h5' i hi j hj
    exact ⟨⟨a,c,e⟩,a',c',e'⟩
   have H3:Hid (∀ i (hi:i<l.length),(∃ a c,pv i=.slice a (l[i]'hi).parts.length c∧(l[i]'hi).parts.length≤c∧c≤9223372036854775807∧(0<(l[i]'hi).parts.length→a=some ⟨bp i,op i,none⟩))∧(∃ a c,pv' i=.slice a (l[i]'hi).parts.length c∧(l[i]'hi).parts.length≤c∧c≤9223372036854775807∧(0<(l[i]'hi).parts.length→a=some ⟨bp' i,op' i,none⟩))∧(∃ a n c,cv i=.slice a n c)∧∃ a n c,cv' i=.slice a n c):=fun i hi=>by
    obtain ⟨a,c,e,q1,q2,q3⟩:=h3 i hi
    obtain ⟨a',c',e',q1',q2',q3'⟩:=h3' i hi
    obtain ⟨ca,cc,ce,_⟩:=h1 i hi
    obtain ⟨ca',cc',ce',_⟩:=h1' i hi
    exact ⟨⟨a,c,e,q1,q2,fun h=>(q3 h).1⟩,⟨a',c',e',q1',q2',fun h=>(q3' h).1⟩,⟨_,_,_,ce⟩,_,_,_,ce'⟩
   obtain ⟨a,cap,rfl,hcn,hcm,hsa⟩:=hs
   obtain ⟨a',cap',rfl,hcn',hcm',hsa'⟩:=hs'
   have HSA:Hid (0<l.length→a=some ⟨b,off,none⟩∧a'=some ⟨b',off',none⟩):=fun h=>⟨(hsa h).1,(hsa' h).1⟩
   have hln:l.length≤9223372036854775807:=by omega
   clear hc h1 h2 h3 h4 h5 h6 hr ih hsa hc' h1' h2' h3' h4' h5' h6' hr' hsa' hk1 hk2 hW
   go_enter Tryz.func7,Tryz.ntmps7
   go_wp2
   go_loopw [14] (fun a14 wq=>∃ i:Nat,i≤l.length∧a14=.int .i64 (i:Int)∧Hid (Below w.heap.size w wq)) (fun a14 _=>l.length+1 - (intOf a14).toNat)
   case atStart=>exact ⟨0,Nat.zero_le _,rfl,hid_mk (Below.refl _ _)⟩
   case round =>
    obtain ⟨i,hi,rfl,HBi⟩:=hrel
    by_cases hil:i<l.length
    ·obtain ⟨rfl,rfl⟩:=HSA.out (by omega)
     obtain ⟨⟨pa,pc,e1,hp1,hp2,hp3⟩,⟨qa,qc,e2,hq1,hq2,hq3⟩,⟨ca,cn,cc,e3⟩,da,dn,dc,e4⟩:=H3.out i hil
     have HCi:Hid (∀ w',Below w.heap.size w w'→_):=fun w' hw'=>HC.out w' hw' i hil
     have HPi:Hid (∀ w',Below w.heap.size w w'→∀ j,j<(l[i]'hil).parts.length→_):=fun w' hw' j hj=>HP.out w' hw' i hil j hj
     have HIi:Hid (∀ w',Below w.heap.size w w'→_):=fun w' hw'=>HI.out w' hw' i hil
     have HSi:Hid (∀ w',Below w.heap.size w w'→∀ j,j<(l[i]'hil).parts.length→_):=fun w' hw' j hj=>HS.out w' hw' i hil j hj
     have HQi:Hid (∀ j (hj:j<(l[i]'hil).parts.length),(∃ a n c,qv i j=.slice a n c)∧∃ a n c,qv' i j=.slice a n c):=fun j hj=>by
      obtain ⟨⟨a,c,e⟩,a',c',e'⟩:=HQ.out i hil j hj
      exact ⟨⟨_,_,_,e⟩,_,_,_,e'⟩
     rw [e1,e2,e3,e4] at HCi
     rw [e3,e4] at HIi
     generalize (l[i]'hil).parts.length=pn at *
     have HP3:=hid_mk hp3
     have HQ3:=hid_mk hq3
     have gd:Below w.heap.size w wr:=HBi.out
     have ge:Below w.heap.size w wr.drew:=HBi.out.drew
     have hpn:pn≤9223372036854775807:=by omega
     clear e1 e2 e3 e4 HC HP HI HS HQ H3 hp3 hq3 HSA
     go_upto_region 6 with (fail)
     go_region_held3 (fun w'=>(w'.cell? ⟨b,off+i * 2,none⟩=some (.slice pa pn pc)∧w'.cell? ⟨b,off+i * 2+1,none⟩=some (.slice ca cn cc))∧w'.cell? ⟨b',off'+i * 2,none⟩=some (.slice qa pn qc)∧w'.cell? ⟨b',off'+i * 2+1,none⟩=some (.slice da dn dc))
      (first | with_reducible exact HCi.out _ gd | with_reducible exact HCi.out _ ge | with_reducible exact HCi.out _ ga)
      (first
        | (go_at_call 17;with_reducible refine (HIi.out _ ge).mono ?_;rintro e wa ⟨rfl,ga⟩))
     have HBa:=hid_mk ga
     have hca:=HCi.out wa ga
     obtain ⟨⟨x0,x1⟩,x2,x3⟩:=hca
     clear gd ge ga HIi HBi
     go_wp2
     clear x0 x1 x2 x3
     go_loopw [50] (fun a50 wq=>∃ j:Nat,j≤pn∧a50=.int .i64 (j:Int)∧Hid (Below w.heap.size w wq)) (fun a50 _=>pn+1 - (intOf a50).toNat)
     case atStart=>exact ⟨0,Nat.zero_le _,rfl,HBa⟩
     case round =>
      obtain ⟨j,hj,rfl,HBj⟩:=hrel
      by_cases hjl:j<pn
      ·have e5:=HP3.out (by omega)
       have e6:=HQ3.out (by omega)
       subst e5 e6
       obtain ⟨⟨ra,rn,rc,e7⟩,sa,sn,sc,e8⟩:=HQi.out j hjl
       have HSS:Hid (∀ w',Below w.heap.size w w'→((w'.cell? ⟨b,off+i * 2,none⟩=some (.slice (some ⟨bp i,op i,none⟩) pn pc))∧w'.cell? ⟨b',off'+i * 2,none⟩=some (.slice (some ⟨bp' i,op' i,none⟩) pn qc))∧w'.cell? ⟨bp i,op i+j,none⟩=some (.slice ra rn rc)∧w'.cell? ⟨bp' i,op' i+j,none⟩=some (.slice sa sn sc)):=fun w' hw'=>by
        obtain ⟨⟨c0,_⟩,c2,_⟩:=HCi.out w' hw'
        have:=HPi.out w' hw' j hjl
        rw [e7,e8] at this
        exact ⟨⟨c0,c2⟩,this⟩
       have HSj:Hid (∀ w',Below w.heap.size w w'→_):=fun w' hw'=>HSi.out w' hw' j hjl
       rw [e7,e8] at HSj
       have gd:Below w.heap.size w wr:=HBj.out
       have ge:Below w.heap.size w wr.drew:=HBj.out.drew
       clear e7 e8 HCi HPi HSi HQi HP3 HQ3 HBa HBj
       go_upto_region 11 with (fail)
       go_region_held3 (fun w'=>((w'.cell? ⟨b,off+i * 2,none⟩=some (.slice (some ⟨bp i,op i,none⟩) pn pc))∧w'.cell? ⟨b',off'+i * 2,none⟩=some (.slice (some ⟨bp' i,op' i,none⟩) pn qc))∧w'.cell? ⟨bp i,op i+j,none⟩=some (.slice ra rn rc)∧w'.cell? ⟨bp' i,op' i+j,none⟩=some (.slice sa sn sc))
        (first | with_reducible exact HSS.out _ gd | with_reducible exact HSS.out _ ge | with_reducible exact HSS.out _ gb)
        (first
          | (go_at_call 18;with_reducible refine (HSj.out _ ge).mono ?_;rintro e wb ⟨rfl,gb⟩))
       have HBb:=hid_mk gb
       clear gd ge gb HSS HSj
       go_wp2
       exact ⟨⟨j+1,hjl,by go_num,HBb⟩,by simp only [intOf];omega⟩
      ·obtain rfl:j=pn:=by omega
       clear HCi HPi HSi HQi HP3 HQ3
       go_wp2
       exact ⟨⟨i+1,hil,by go_num,HBj⟩,by simp only [intOf];omega⟩
    ·obtain rfl:i=l.length:=by omega
     clear HC HP HI HS HQ H3 HSA
     go_wp2
     go_ret
     exact ⟨rfl,HBi.out⟩
structure S3 where
 a:Int
 b:Int
 c:Int
def S3.v (s:S3):Value:=.agg #[.int .i64 s.a,.int .i64 s.b,.int .i64 s.c]
def S3.ok (s:S3):Prop:=(0≤s.a∧s.a≤65535)∧(0≤s.b∧s.b≤65535)∧(0≤s.c∧s.c≤65535)
def z3:S3:=⟨0,0,0⟩
def addS (x y:S3):S3:=⟨min (x.a+y.a) 65535,min (x.b+y.b) 65535,min (x.c+y.c) 65535⟩
def lessS (x y:S3):Bool:=if (x.a != y.a)=true then decide (x.a<y.a) else if (x.b != y.b)=true then decide (x.b<y.b) else decide (x.c<y.c)
def wgB (k:Int):Bool:=k == 5 || k == 6
def sglZ (s:S6):S3:=if (s.k == 3)=true then ⟨1,0,0⟩ else if (s.k == 2 || s.k == 4 || s.k == 8 || s.k == 9 || s.k == 10 || s.k == 11)=true then ⟨0,1,0⟩ else if (s.k == 1 && !(s.nm.toList == [42]))=true then ⟨0,0,1⟩ else z3
theorem addS_ok {x y:S3} (hx:x.ok) (hy:y.ok):(addS x y).ok:=by
 obtain ⟨a1,a2,a3⟩:=hx
 obtain ⟨b1,b2,b3⟩:=hy
 refine ⟨?_,?_,?_⟩ <;> simp only [addS] <;> omega
theorem sglZ_ok (s:S6):(sglZ s).ok:=by
 unfold sglZ
 repeat' split
 all_goals simp [S3.ok,z3]
theorem weighed_any (W:World) (k:Int):Calls Tryz.prog 94 #[.int .i64 k] W fun e w'=>e=.returned (.bool (wgB k))∧w'=W:=by
 have HE:Hid (wgB k=(k == 5 || k == 6)):=rfl
 generalize wgB k=r at *
 cases h5:(k == 5)
 ·have HR:Hid (r=(k == 6)):=by rw [Hid,HE.out,h5];rfl
  clear HE
  go_enter Tryz.func94,Tryz.ntmps94
  go_wp2
  go_ret
  exact ⟨by rw [HR.out];rfl,rfl⟩
 ·have HR:Hid (r=true):=by rw [Hid,HE.out,h5];rfl
  clear HE
  go_enter Tryz.func94,Tryz.ntmps94
  go_wp2
  go_ret
  exact ⟨by rw [HR.out];rfl,rfl⟩
theorem less_any (W:World) (x y:S3):Calls Tryz.prog 97 #[x.v,y.v] W fun e w'=>e=.returned (.bool (lessS x y))∧Below W.heap.size W w':=by
 obtain ⟨xa,xb,xc⟩:=x
 obtain ⟨ya,yb,yc⟩:=y
 have HE:Hid (lessS ⟨xa,xb,xc⟩ ⟨ya,yb,yc⟩=if (xa != ya)=true then decide (xa<ya) else if (xb != yb)=true then decide (xb<yb) else decide (xc<yc)):=rfl
 have HB:Hid (Below W.heap.size W ((W.alloc (.cells #[.int .i64 xa,.int .i64 xb,.int .i64 xc] 32)).alloc (.cells #[.int .i64 ya,.int .i64 yb,.int .i64 yc] 32))):=((Below.refl _ _).alloc (Nat.le_refl _) _).alloc (by simp) _
 unfold S3.v
 dsimp only
 generalize lessS ⟨xa,xb,xc⟩ ⟨ya,yb,yc⟩=r at *
 cases ha:(xa != ya)
 ·cases hb:(xb != yb)
  ·have HR:Hid (r=decide (xc<yc)):=by rw [Hid,HE.out,ha,hb];rfl
   clear HE
   go_enter Tryz.func97,Tryz.ntmps97
   go_wp2
   go_ret
   exact ⟨by rw [HR.out];rfl,HB.out⟩
  ·have HR:Hid (r=decide (xb<yb)):=by rw [Hid,HE.out,ha,hb];rfl
   clear HE
   go_enter Tryz.func97,Tryz.ntmps97
   go_wp2
   go_ret
   exact ⟨by rw [HR.out];rfl,HB.out⟩
 ·have HR:Hid (r=decide (xa<ya)):=by rw [Hid,HE.out,ha];rfl
  clear HE
  go_enter Tryz.func97,Tryz.ntmps97
  go_wp2
  go_ret
  exact ⟨by rw [HR.out];rfl,HB.out⟩
theorem cells3s {W:World} {b:Nat} {x0 x1 x2:Value} {T:TypeId} (h:W.heap[b]? = some (.cells #[x0,x1,x2] T (0,0))):(W.cell? ⟨b,0,none⟩=some x0∧W.cell? ⟨b,1,none⟩=some x1∧W.cell? ⟨b,2,none⟩=some x2)∧W.frozen? ⟨b,0,none⟩=false∧W.frozen? ⟨b,1,none⟩=false∧W.frozen? ⟨b,2,none⟩=false :=
 ⟨⟨cellAt h 0,cellAt h 1,cellAt h 2⟩,by simp [World.frozen?,h],by simp [World.frozen?,h],by simp [World.frozen?,h]⟩
theorem below_set3 {B:Nat} {W w:World} (h:Below B W w) {o:Nat} (ho:B≤o) (x y z:Value):Below B W (((w.setCell ⟨o,0,none⟩ x).setCell ⟨o,1,none⟩ y).setCell ⟨o,2,none⟩ z):=((h.setCell (p:=⟨o,0,none⟩) ho x).setCell (p:=⟨o,1,none⟩) ho y).setCell (p:=⟨o,2,none⟩) ho z
theorem plus_any (W:World) {x y:S3} (hx:x.ok) (hy:y.ok):Calls Tryz.prog 95 #[x.v,y.v] W fun e w'=>e=.returned (addS x y).v∧Below W.heap.size W w':=by
 obtain ⟨xa,xb,xc⟩:=x
 obtain ⟨ya,yb,yc⟩:=y
 obtain ⟨⟨p1,p2⟩,⟨p3,p4⟩,p5,p6⟩:=hx
 obtain ⟨⟨q1,q2⟩,⟨q3,q4⟩,q5,q6⟩:=hy
 dsimp only at p1 p2 p3 p4 p5 p6 q1 q2 q3 q4 q5 q6
 have HB:Hid (Below W.heap.size W (((W.alloc (.cells #[.int .i64 xa,.int .i64 xb,.int .i64 xc] 32)).alloc (.cells #[.int .i64 ya,.int .i64 yb,.int .i64 yc] 32)).alloc (.cells #[.int .i64 0,.int .i64 0,.int .i64 0] 32))):=(((Below.refl _ _).alloc (Nat.le_refl _) _).alloc (by simp) _).alloc (by simp;omega) _
 unfold S3.v addS
 dsimp only
 have m1:∀ z:Int,65535<z→min z 65535=65535:=fun z h=>by omega
 have m2:∀ z:Int,¬ 65535<z→min z 65535=z:=fun z h=>by omega
 by_cases ha:65535<xa+ya
 all_goals by_cases hb:65535<xb+yb
 all_goals by_cases hc:65535<xc+yc
 all_goals
  first
   | rw [m1 _ ha]
   | rw [m2 _ ha]
  first
   | rw [m1 _ hb]
   | rw [m2 _ hb]
  first
   | rw [m1 _ hc]
   | rw [m2 _ hc]
  clear m1 m2
  go_enter Tryz.func95,Tryz.ntmps95
  go_wp2
  exact bodyPost_ret (by simp [results,Tryz.results95,go_sem] <;> omega) rfl ⟨rfl,(((Below.refl _ _).alloc (Nat.le_refl _) _).alloc (by simp) _).alloc (by simp;omega) _⟩
theorem single_any (W:World) (s:S6) (la:Option Addr) (ln lc:Nat):Calls Tryz.prog 96 #[.agg #[.int .i64 s.k,.string s.nm,.int .i64 s.op,.string s.v,.int .i64 s.a,.int .i64 s.b,.slice la ln lc]] W fun e w'=>e=.returned (sglZ s).v∧Below W.heap.size W w':=by
 obtain ⟨k,nm,op,v,a,b⟩:=s
 have HB:Hid (∀ x y z,Below W.heap.size W ((W.alloc (.cells #[.int .i64 k,.string nm,.int .i64 op,.string v,.int .i64 a,.int .i64 b,.slice la ln lc] 39)).alloc (.cells #[.int .i64 x,.int .i64 y,.int .i64 z] 32))):=fun _ _ _=>((Below.refl _ _).alloc (Nat.le_refl _) _).alloc (by simp) _
 have HE:Hid (sglZ ⟨k,nm,op,v,a,b⟩=if (k == 3)=true then ⟨1,0,0⟩ else if (k == 2 || k == 4 || k == 8 || k == 9 || k == 10 || k == 11)=true then ⟨0,1,0⟩ else if (k == 1 && !(nm.toList == [42]))=true then ⟨0,0,1⟩ else z3):=rfl
 dsimp only
 generalize sglZ ⟨k,nm,op,v,a,b⟩=R at *
 cases h3:(k == 3) with
 | true =>
   have HR:Hid (R=⟨1,0,0⟩):=by rw [Hid,HE.out];simp [h3]
   rw [HR.out]
   unfold S3.v
   dsimp only
   clear HE HR
   go_enter Tryz.func96,Tryz.ntmps96
   go_wp2
   exact bodyPost_ret (by simp [results,Tryz.results96,go_sem]) rfl ⟨rfl,HB.out _ _ _⟩
 | false =>
 cases h2:(k == 2) with
 | true =>
   have HR:Hid (R=⟨0,1,0⟩):=by rw [Hid,HE.out];simp [h3,h2]
   rw [HR.out]
   unfold S3.v
   dsimp only
   clear HE HR
   go_enter Tryz.func96,Tryz.ntmps96
   go_wp2
   exact bodyPost_ret (by simp [results,Tryz.results96,go_sem]) rfl ⟨rfl,HB.out _ _ _⟩
 | false =>
 cases h4:(k == 4) with
 | true =>
   have HR:Hid (R=⟨0,1,0⟩):=by rw [Hid,HE.out];simp [h3,h2,h4]
   rw [HR.out]
   unfold S3.v
   dsimp only
   clear HE HR
   go_enter Tryz.func96,Tryz.ntmps96
   go_wp2
   exact bodyPost_ret (by simp [results,Tryz.results96,go_sem]) rfl ⟨rfl,HB.out _ _ _⟩
 | false =>
 cases h8:(k == 8) with
 | true =>
   have HR:Hid (R=⟨0,1,0⟩):=by rw [Hid,HE.out];simp [h3,h2,h4,h8]
   rw [HR.out]
   unfold S3.v
   dsimp only
   clear HE HR
   go_enter Tryz.func96,Tryz.ntmps96
   go_wp2
   exact bodyPost_ret (by simp [results,Tryz.results96,go_sem]) rfl ⟨rfl,HB.out _ _ _⟩
 | false =>
 cases h9:(k == 9) with
 | true =>
   have HR:Hid (R=⟨0,1,0⟩):=by rw [Hid,HE.out];simp [h3,h2,h4,h8,h9]
   rw [HR.out]
   unfold S3.v
   dsimp only
   clear HE HR
   go_enter Tryz.func96,Tryz.ntmps96
   go_wp2
   exact bodyPost_ret (by simp [results,Tryz.results96,go_sem]) rfl ⟨rfl,HB.out _ _ _⟩
 | false =>
 cases h10:(k == 10) with
 | true =>
   have HR:Hid (R=⟨0,1,0⟩):=by rw [Hid,HE.out];simp [h3,h2,h4,h8,h9,h10]
   rw [HR.out]
   unfold S3.v
   dsimp only
   clear HE HR
   go_enter Tryz.func96,Tryz.ntmps96
   go_wp2
   exact bodyPost_ret (by simp [results,Tryz.results96,go_sem]) rfl ⟨rfl,HB.out _ _ _⟩
 | false =>
 cases h11:(k == 11) with
 | true =>
   have HR:Hid (R=⟨0,1,0⟩):=by rw [Hid,HE.out];simp [h3,h2,h4,h8,h9,h10,h11]
   rw [HR.out]
   unfold S3.v
   dsimp only
   clear HE HR
   go_enter Tryz.func96,Tryz.ntmps96
   go_wp2
   exact bodyPost_ret (by simp [results,Tryz.results96,go_sem]) rfl ⟨rfl,HB.out _ _ _⟩
 | false =>
 cases h1:(k == 1) with
 | false =>
   have HR:Hid (R=z3):=by rw [Hid,HE.out];simp [h3,h2,h4,h8,h9,h10,h11,h1]
   rw [HR.out]
   unfold S3.v z3
   dsimp only
   clear HE HR
   go_enter Tryz.func96,Tryz.ntmps96
   go_wp2
   exact bodyPost_ret (by simp [results,Tryz.results96,go_sem]) rfl ⟨rfl,HB.out _ _ _⟩
 | true =>
 cases hs:(nm.toList == [42]) with
 | true =>
   have HR:Hid (R=z3):=by rw [Hid,HE.out];simp [h3,h2,h4,h8,h9,h10,h11,h1,hs]
   rw [HR.out]
   unfold S3.v z3
   dsimp only
   clear HE HR
   have hn:(nm.toList != [42])=false:=by rw [bne,hs];rfl
   go_enter Tryz.func96,Tryz.ntmps96
   go_wp2
   exact bodyPost_ret (by simp [results,Tryz.results96,go_sem]) rfl ⟨rfl,HB.out _ _ _⟩
 | false =>
   have HR:Hid (R=⟨0,0,1⟩):=by rw [Hid,HE.out];simp [h3,h2,h4,h8,h9,h10,h11,h1,hs]
   rw [HR.out]
   unfold S3.v
   dsimp only
   clear HE HR
   have hn:(nm.toList != [42])=true:=by rw [bne,hs];rfl
   go_enter Tryz.func96,Tryz.ntmps96
   go_wp2
   exact bodyPost_ret (by simp [results,Tryz.results96,go_sem]) rfl ⟨rfl,HB.out _ _ _⟩
def smF (f:List Cx→S3) (x:S6×List Cx):S3:=if wgB x.1.k=true then f x.2 else sglZ x.1
def ptF (f:List Cx→S3) (acc:S3) (p:List (S6×List Cx)):S3:=p.foldl (fun m x=>addS m (smF f x)) acc
def ofF (f:List Cx→S3) (c:Cx):S3:=c.parts.foldl (ptF f) z3
def upS (m x:S3):S3:=if lessS m x=true then x else m
def mostF (f:List Cx→S3) (l:List Cx):S3:=l.foldl (fun m c=>upS m (ofF f c)) z3
def mostD:Nat→List Cx→S3
 | 0,_=>z3
 | d+1,l=>mostF (mostD d) l
mutual
def dpC:Cx→Nat
 | .mk ps _=>dpPs ps
def dpPs:List (List (S6×List Cx))→Nat
 | []=>0
 | p::r=>max (dpP p) (dpPs r)
def dpP:List (S6×List Cx)→Nat
 | []=>0
 | x::r=>max (dpX x) (dpP r)
def dpX:S6×List Cx→Nat
 | (_,l)=>dpL l+1
def dpL:List Cx→Nat
 | []=>0
 | c::r=>max (dpC c) (dpL r)
end
theorem dpL_mem:∀ {l:List Cx} {c:Cx},c∈l→dpC c≤dpL l
 | a::r,c,h=>by
   rw [dpL]
   rcases List.mem_cons.1 h with rfl | h
   ·omega
   ·have:=dpL_mem h
    omega
theorem dpPs_mem:∀ {l:List (List (S6×List Cx))} {c:List (S6×List Cx)},c∈l→dpP c≤dpPs l
 | a::r,c,h=>by
   rw [dpPs]
   rcases List.mem_cons.1 h with rfl | h
   ·omega
   ·have:=dpPs_mem h
    omega
theorem dpP_mem:∀ {l:List (S6×List Cx)} {c:S6×List Cx},c∈l→dpL c.2<dpP l
 | a::r,c,h=>by
   rw [dpP]
   rcases List.mem_cons.1 h with rfl | h
   ·obtain ⟨s,l⟩:=c
    rw [dpX]
    simp only []
    omega
   ·have:=dpP_mem h
    omega
theorem dpC_parts (c:Cx):dpC c=dpPs c.parts:=by
 cases c with
 | mk p k=>rw [dpC];rfl
theorem foldl_congr' {α β:Type} {f g:β→α→β}:∀ {l:List α} {b:β},(∀ b a,a∈l→f b a=g b a)→l.foldl f b=l.foldl g b
 | [],_,_=>rfl
 | a::r,b,h=>by
   rw [List.foldl_cons,List.foldl_cons,h b a (by simp),foldl_congr' fun b x hx=>h b x (by simp [hx])]
theorem mostF_congr {f g:List Cx→S3} {l:List Cx} (h:∀ c∈l,∀ p∈c.parts,∀ x∈p,f x.2=g x.2):mostF f l=mostF g l:=by
 unfold mostF
 refine foldl_congr' fun m c hc=>?_
 have e:ofF f c=ofF g c:=by
  unfold ofF
  refine foldl_congr' fun m p hp=>?_
  unfold ptF
  refine foldl_congr' fun m x hx=>?_
  unfold smF
  rw [h c hc p hp x hx]
 rw [e]
theorem dp_in {l:List Cx} {c:Cx} (hc:c∈l) {p:List (S6×List Cx)} (hp:p∈c.parts) {x:S6×List Cx} (hx:x∈p):dpL x.2<dpL l:=by
 have h1:=dpL_mem hc
 have h2:=dpC_parts c
 have h3:=dpPs_mem hp
 have h4:=dpP_mem hx
 omega
theorem mostD_same:∀ (d e:Nat) (l:List Cx),dpL l<d→dpL l<e→mostD d l=mostD e l
 | 0,_,_,h,_=>by omega
 | _+1,0,_,_,h=>by omega
 | d+1,e+1,l,hd,he=>by
   unfold mostD
   exact mostF_congr fun c hc p hp x hx=>by
    have:=dp_in hc hp hx
    exact mostD_same d e x.2 (by omega) (by omega)
def mostZ (l:List Cx):S3:=mostD (dpL l+1) l
theorem mostZ_step (l:List Cx):mostZ l=mostF mostZ l:=by
 conv=>lhs;unfold mostZ mostD
 exact mostF_congr fun c hc p hp x hx=>by
  have:=dp_in hc hp hx
  unfold mostZ
  exact mostD_same _ _ x.2 (by omega) (by omega)
theorem z3_ok:z3.ok:=by simp [S3.ok,z3]
theorem ptF_ok {f:List Cx→S3}:∀ {p:List (S6×List Cx)} {acc:S3},acc.ok→(∀ x∈p,(f x.2).ok)→(ptF f acc p).ok
 | [],_,h,_=>h
 | x::r,acc,h,hf=>by
   unfold ptF
   rw [List.foldl_cons]
   refine ptF_ok (p:=r) (addS_ok h ?_) fun y hy=>hf y (by simp [hy])
   unfold smF
   split
   ·exact hf x (by simp)
   ·exact sglZ_ok _
theorem parts_ok {f:List Cx→S3}:∀ {ps:List (List (S6×List Cx))} {acc:S3},acc.ok→(∀ p∈ps,∀ x∈p,(f x.2).ok)→(ps.foldl (ptF f) acc).ok
 | [],_,h,_=>h
 | p::r,acc,h,hf=>by
   rw [List.foldl_cons]
   exact parts_ok (ps:=r) (ptF_ok h (hf p (by simp))) fun q hq=>hf q (by simp [hq])
theorem ofF_ok {f:List Cx→S3} {c:Cx} (h:∀ p∈c.parts,∀ x∈p,(f x.2).ok):(ofF f c).ok:=parts_ok z3_ok h
theorem mostL_ok {f:List Cx→S3}:∀ {l:List Cx} {m:S3},m.ok→(∀ c∈l,∀ p∈c.parts,∀ x∈p,(f x.2).ok)→(l.foldl (fun m c=>upS m (ofF f c)) m).ok
 | [],_,h,_=>h
 | c::r,m,h,hf=>by
   rw [List.foldl_cons]
   refine mostL_ok (l:=r) ?_ fun d hd=>hf d (by simp [hd])
   unfold upS
   split
   ·exact ofF_ok (hf c (by simp))
   ·exact h
theorem mostD_ok:∀ (d:Nat) (l:List Cx),(mostD d l).ok
 | 0,_=>z3_ok
 | d+1,_=>by unfold mostD;exact mostL_ok z3_ok fun _ _ _ _ x _=>mostD_ok d x.2
theorem mostZ_ok (l:List Cx):(mostZ l).ok:=mostD_ok _ _
def wgP (p:List (S6×List Cx)):List (List Cx):=(p.filter fun x=>wgB x.1.k).map Prod.snd
def wgC (c:Cx):List (List Cx):=c.parts.flatMap wgP
def wgL (l:List Cx):List (List Cx):=l.flatMap wgC
def SpAt (W:World) (v:Value) (l:List S3):Prop:=∃ g off,Sl W v l.length g off∧∀ i (h:i<l.length),W.cell? ⟨g,off+i * 3,none⟩=some (.int .i64 (l[i]'h).a)∧W.cell? ⟨g,off+i * 3+1,none⟩=some (.int .i64 (l[i]'h).b)∧W.cell? ⟨g,off+i * 3+2,none⟩=some (.int .i64 (l[i]'h).c)
def SB (w:World) (b:Nat) (s:S3):Prop:=w.heap[b]? = some (.cells #[.int .i64 s.a,.int .i64 s.b,.int .i64 s.c] 32 (0,0))
theorem SB.set {w:World} {b:Nat} {s:S3} (h:SB w b s) (x:S3):SB (((w.setCell ⟨b,0,none⟩ (.int .i64 x.a)).setCell ⟨b,1,none⟩ (.int .i64 x.b)).setCell ⟨b,2,none⟩ (.int .i64 x.c)) b x:=by
 have h1:=set_at 0 (.int .i64 x.a) (0,0) h
 have h2:=set_at 1 (.int .i64 x.b) (0,0) h1
 have h3:=set_at 2 (.int .i64 x.c) (0,0) h2
 unfold SB
 rw [h3]
 rfl
theorem set3_ne {w:World} {b k:Nat} {x y z:Value} (h:k≠b):(((w.setCell ⟨b,0,none⟩ x).setCell ⟨b,1,none⟩ y).setCell ⟨b,2,none⟩ z).heap[k]? = w.heap[k]? :=
 (Below.heap_setCell _ _ _ _ h).trans ((Below.heap_setCell _ _ _ _ h).trans (Below.heap_setCell _ _ _ _ h))
def Sum (w3:World) (sb:Nat) (x:S3) (w':World):Prop:=SB w' sb x∧w'.os=w3.os∧w'.tape=w3.tape∧w'.output=w3.output∧w3.heap.size≤w'.heap.size∧∀ k,k<w3.heap.size→k≠sb→w'.heap[k]? = w3.heap[k]?
theorem Sum.of {w3 w5:World} {sb:Nat} {s x:S3} (h:SB w3 sb s) (hb:Below w3.heap.size w3 w5):Sum w3 sb x (((w5.setCell ⟨sb,0,none⟩ (.int .i64 x.a)).setCell ⟨sb,1,none⟩ (.int .i64 x.b)).setCell ⟨sb,2,none⟩ (.int .i64 x.c)):=by
 have h5:SB w5 sb s:=(hb.block sb (Array.getElem?_eq_some_iff.1 h).1).trans h
 exact ⟨h5.set x,hb.os,hb.tape,hb.output,by simpa using hb.size,fun k hk hn=>(set3_ne hn).trans (hb.block k hk)⟩
theorem SB.cells {w w':World} {b:Nat} {s:S3} (h:SB w b s) (hb:Below w.heap.size w w'):(w'.cell? ⟨b,0,none⟩=some (.int .i64 s.a)∧w'.cell? ⟨b,1,none⟩=some (.int .i64 s.b)∧w'.cell? ⟨b,2,none⟩=some (.int .i64 s.c))∧w'.frozen? ⟨b,0,none⟩=false∧w'.frozen? ⟨b,1,none⟩=false∧w'.frozen? ⟨b,2,none⟩=false :=
 cells3s ((hb.block b (Array.getElem?_eq_some_iff.1 h).1).trans h)
theorem SpAt.first {W:World} {ia:Option Addr} {n c:Nat} {y:S3} {r:List S3} (h:SpAt W (.slice ia n c) (y::r)):n=r.length+1∧n≤c∧c≤9223372036854775807∧∃ g off,ia=some ⟨g,off,none⟩∧g<W.heap.size∧W.cell? ⟨g,off,none⟩=some (.int .i64 y.a)∧W.cell? ⟨g,off+1,none⟩=some (.int .i64 y.b)∧W.cell? ⟨g,off+2,none⟩=some (.int .i64 y.c)∧∀ ia',(0<r.length→ia'=some ⟨g,off+3,none⟩)→SpAt W (.slice ia' (n - 1) (c - 1)) r:=by
 obtain ⟨g,off,⟨a,cap,e,h1,h2,h3⟩,h4⟩:=h
 cases e
 obtain ⟨e1,hg⟩:=h3 (by simp)
 have c0:=h4 0 (by simp)
 simp only [Nat.zero_mul,Nat.add_zero,List.getElem_cons_zero] at c0
 refine ⟨by simp,by simpa using h1,h2,g,off,e1,hg,c0.1,c0.2.1,c0.2.2,fun ia' hia=>⟨g,off+3,⟨ia',c - 1,by simp,by simp at h1;omega,by omega,fun h0=>⟨hia h0,hg⟩⟩,fun i hi=>?_⟩⟩
 have:=h4 (i+1) (by simpa using hi)
 rw [show off+3+i * 3=off+(i+1) * 3 by omega]
 simpa using this
def wgPs (ps:List (List (S6×List Cx))):List (List Cx):=ps.flatMap wgP
def GrK (W:World) (m:S3) (w:World):Prop:=SB w (W.heap.size+1) m∧SB w W.heap.size z3∧Below W.heap.size W w
theorem GrK.then {W w w':World} {m:S3} (h:GrK W m w) (hb:Below w.heap.size w w'):GrK W m w' :=
 ⟨(hb.block _ (Array.getElem?_eq_some_iff.1 h.1).1).trans h.1,(hb.block _ (Array.getElem?_eq_some_iff.1 h.2.1).1).trans h.2.1,h.2.2.trans (hb.mono h.2.2.size)⟩
theorem GrK.sum {W w w':World} {m x:S3} {sb:Nat} (h:GrK W m w) (hs:Sum w sb x w') (h1:W.heap.size+1<sb):GrK W m w':=by
 obtain ⟨_,e1,e2,e3,e4,e5⟩:=hs
 refine ⟨(e5 _ (Array.getElem?_eq_some_iff.1 h.1).1 (by omega)).trans h.1,(e5 _ (Array.getElem?_eq_some_iff.1 h.2.1).1 (by omega)).trans h.2.1,⟨e1.trans h.2.2.os,e2.trans h.2.2.tape,e3.trans h.2.2.output,Nat.le_trans h.2.2.size e4,fun k hk=>(e5 k (Nat.lt_of_lt_of_le hk h.2.2.size) (by omega)).trans (h.2.2.block k hk)⟩⟩
theorem gr_plus {W:World} {acc y:S3} (ha:acc.ok) (hy:y.ok):∀ w',Below W.heap.size W w'→Calls Tryz.prog 95 #[.agg #[.int .i64 acc.a,.int .i64 acc.b,.int .i64 acc.c],.agg #[.int .i64 y.a,.int .i64 y.b,.int .i64 y.c]] w' fun e w''=>e=.returned (.agg #[.int .i64 (addS acc y).a,.int .i64 (addS acc y).b,.int .i64 (addS acc y).c])∧Below W.heap.size W w'':=fun w' hb =>
 (plus_any w' ha hy).mono fun _ _ q=>⟨q.1,hb.trans (q.2.mono hb.size)⟩
theorem wgP_drop {p:List (S6×List Cx)} {t:Nat} (h:t<p.length):wgP (p.drop t)=(if wgB (p[t]'h).1.k=true then [(p[t]'h).2] else [])++wgP (p.drop (t+1)):=by
 rw [List.drop_eq_getElem_cons h]
 generalize p[t]'h=x
 generalize p.drop (t+1)=r
 unfold wgP
 by_cases hw:wgB x.1.k=true
 ·simp [hw]
 ·simp [hw]
theorem ptF_take {f:List Cx→S3} {acc:S3} {p:List (S6×List Cx)} {t:Nat} (h:t<p.length):ptF f acc (p.take (t+1))=addS (ptF f acc (p.take t)) (smF f (p[t]'h)):=by
 unfold ptF
 rw [List.take_add_one,List.getElem?_eq_getElem h,Option.toList_some,List.foldl_append]
 rfl
structure Gr3 (W:World) (sb:Nat) (m acc:S3) (p:List (S6×List Cx)) (R2:List S3) (t:Nat) (iv:Value) (w:World):Prop where
 sp:SpAt W iv ((wgP (p.drop t)).map mostZ++R2)
 sum:SB w sb (ptF mostZ acc (p.take t))
 k:GrK W m w
theorem Gr3.then {W w w':World} {sb:Nat} {m acc:S3} {p:List (S6×List Cx)} {R2:List S3} {t:Nat} {iv:Value} (h:Gr3 W sb m acc p R2 t iv w) (hb:Below w.heap.size w w'):Gr3 W sb m acc p R2 t iv w' :=
 ⟨h.sp,(hb.block _ (Array.getElem?_eq_some_iff.1 h.sum).1).trans h.sum,h.k.then hb⟩
theorem greatest_any {W:World} {v iv:Value} {l:List Cx} {rest:List S3} (h:ClAt W v l) (hi:SpAt W iv ((wgL l).map mostZ++rest)) :
  Calls Tryz.prog 45 #[v,iv] W fun e w'=>e=.returned (mostZ l).v∧Below W.heap.size W w':=by
 obtain ⟨b,off,⟨a,cap,rfl,hc1,hc2,hsa⟩,hat⟩:=h.at
 obtain ⟨ig,io,⟨ia,ic,rfl,hi1,hi2,hi3⟩,hi4⟩:=hi
 obtain ⟨W1,hW1⟩:∃ W1,W1=(W.alloc (.cells #[.int .i64 0,.int .i64 0,.int .i64 0] 32)).alloc (.cells #[.int .i64 0,.int .i64 0,.int .i64 0] 32):=⟨_,rfl⟩
 have hB1:Below W.heap.size W W1:=by rw [hW1];exact ((Below.refl _ _).alloc (Nat.le_refl _) _).alloc (by simp) _
 have hK1:GrK W z3 W1:=by
  refine ⟨?_,?_,hB1⟩
  ·have e:W.heap.size+1=(W.alloc (.cells #[.int .i64 0,.int .i64 0,.int .i64 0] 32)).heap.size:=by simp
   unfold SB
   rw [hW1,e]
   exact heap_alloc_last _ _
  ·unfold SB
   rw [hW1,Below.heap_alloc _ _ _ (by simp)]
   exact heap_alloc_last W _
 have HI0:Hid (SpAt W (.slice ia ((wgL l).map mostZ++rest).length ic) ((wgL (l.drop 0)).map mostZ++rest)):=⟨ig,io,⟨ia,ic,rfl,hi1,hi2,hi3⟩,hi4⟩
 have HAT:=hid_mk hat
 have HSA:=hid_mk hsa
 have HM0:Hid (GrK W ((l.take 0).foldl (fun m c=>upS m (ofF mostZ c)) z3) W1):=hK1
 have HEND:Hid (mostZ l=(l.take l.length).foldl (fun m c=>upS m (ofF mostZ c)) z3):=by rw [Hid,List.take_length];exact mostZ_step l
 obtain ⟨N,hN⟩:∃ N,N=l.length:=⟨_,rfl⟩
 obtain ⟨I,hI⟩:∃ I,I=((wgL l).map mostZ++rest).length:=⟨_,rfl⟩
 rw [← hI] at HI0 ⊢
 rw [← hN] at hc1 HEND ⊢
 have HN:=hid_mk hN
 have hN9:N≤9223372036854775807:=by omega
 have HW1:=hid_mk hW1
 generalize mostZ l=R at *
 clear h hat hsa hi1 hi3 hi4 hN hI hW1 hB1 hK1
 go_enter Tryz.func45,Tryz.ntmps45
 go_wp2_with (fail)
 rw [← HW1.out]
 clear HW1
 go_loopw [1,15] (fun a1 a15 wq=>∃ (i:Nat) (ja:Option Addr) (jn jc:Nat),i≤N∧a15=.int .i64 (i:Int)∧a1=.slice ja jn jc∧Hid (SpAt W (.slice ja jn jc) ((wgL (l.drop i)).map mostZ++rest))∧Hid (GrK W ((l.take i).foldl (fun m c=>upS m (ofF mostZ c)) z3) wq)) (fun _ a15 _=>N+1 - (intOf a15).toNat)
 case atStart=>exact ⟨0,_,_,_,Nat.zero_le _,rfl,rfl,HI0,HM0⟩
 case round =>
  obtain ⟨i,ja,jn,jc,hi,rfl,rfl,HSP,HK⟩:=hrel
  clear HI0 HM0
  by_cases hil:i<N
  ·have hil':i<l.length:=by have:=HN.out;omega
   obtain ⟨rfl,hbw⟩:=HSA.out (by omega)
   obtain ⟨pv,cv,bc,oc,bp,op,qv,bq,oq,lv,q1,q2,hcx⟩:=HAT.out i hil'
   have HST:Hid ((l.take (i+1)).foldl (fun m c=>upS m (ofF mostZ c)) z3=upS ((l.take i).foldl (fun m c=>upS m (ofF mostZ c)) z3) (ofF mostZ (l[i]'hil'))):=by
    rw [Hid,List.take_add_one,List.getElem?_eq_getElem hil',Option.toList_some,List.foldl_append]
    rfl
   have HDR:Hid (wgL (l.drop i)=wgPs ((l[i]'hil').parts.drop 0)++wgL (l.drop (i+1))):=by
    rw [Hid,List.drop_eq_getElem_cons hil',List.drop_zero]
    rfl
   generalize l[i]'hil'=c at *
   obtain ⟨R1,hR1⟩:∃ R1,R1=(wgL (l.drop (i+1))).map mostZ++rest:=⟨_,rfl⟩
   have HSP1:Hid (SpAt W (.slice ja jn jc) ((wgPs (c.parts.drop 0)).map mostZ++R1)):=by
    have h1:=HSP.out
    rw [HDR.out,List.map_append,List.append_assoc,← hR1] at h1
    exact h1
   have HR1:=hid_mk hR1
   obtain ⟨mi,hmi⟩:∃ mi,mi=(l.take i).foldl (fun m c=>upS m (ofF mostZ c)) z3:=⟨_,rfl⟩
   rw [← hmi] at HK HST
   obtain ⟨pa,pc,rfl,hp1,hp2,hpa⟩:=hcx.ps
   obtain ⟨ca,cc,rfl,_⟩:=hcx.cs
   have q1':=(HK.out.2.2.cell (p:=⟨b,off+i * 2,none⟩) hbw).trans q1
   have q2':=(HK.out.2.2.cell (p:=⟨b,off+i * 2+1,none⟩) hbw).trans q2
   obtain ⟨M,hM⟩:∃ M,M=c.parts.length:=⟨_,rfl⟩
   obtain ⟨K,hK⟩:∃ K,K=c.combs.length:=⟨_,rfl⟩
   have HPA:=hid_mk hpa
   have HCX:=hid_mk hcx
   rw [← hM] at hp1 q1'
   rw [← hK] at q2'
   have HM:=hid_mk hM
   have hM9:M≤9223372036854775807:=by omega
   obtain ⟨w1,hw1⟩:∃ w1,w1=(wr.alloc (.cells #[.slice pa M pc,.slice ca K cc] 37)).alloc (.cells #[.int .i64 0,.int .i64 0,.int .i64 0] 32):=⟨_,rfl⟩
   have hB1:Below wr.heap.size wr w1:=by rw [hw1];exact ((Below.refl _ _).alloc (Nat.le_refl _) _).alloc (by simp) _
   have x1:w1.heap[wr.heap.size]? = some (.cells #[.slice pa M pc,.slice ca K cc] 37 (0,0)):=by
    rw [hw1,Below.heap_alloc _ _ _ (by simp)]
    exact heap_alloc_last wr _
   have x2:SB w1 (wr.heap.size+1) z3:=by
    have e:wr.heap.size+1=(wr.alloc (.cells #[.slice pa M pc,.slice ca K cc] 37)).heap.size:=by simp
    unfold SB
    rw [hw1,e]
    exact heap_alloc_last _ _
   have k0:w1.cell? ⟨wr.heap.size,0,none⟩=some (.slice pa M pc):=cellAt x1 0
   have HK1:=hid_mk (HK.out.then hB1)
   have hsb:W.heap.size+1<wr.heap.size+1:=by
    have:=(Array.getElem?_eq_some_iff.1 HK.out.1).1
    omega
   have HS1:Hid (SB w1 (wr.heap.size+1) ((c.parts.take 0).foldl (ptF mostZ) z3)):=x2
   have HW1:=hid_mk hw1
   clear q1 q2 hcx hpa hM hK hw1 hB1 x1 x2 hR1 hmi HSP HDR HK
   go_upto_region 6 with (fail)
   rw [← HW1.out]
   clear HW1 q1' q2'
   generalize wr.heap.size+1=sb at *
   go_wp2
   clear k0
   go_loopw [1,22] (fun a1 a22 wq=>∃ (j:Nat) (ja:Option Addr) (jn jc:Nat),j≤M∧a22=.int .i64 (j:Int)∧a1=.slice ja jn jc∧Hid (SpAt W (.slice ja jn jc) ((wgPs (c.parts.drop j)).map mostZ++R1))∧Hid (SB wq sb ((c.parts.take j).foldl (ptF mostZ) z3))∧Hid (GrK W mi wq)) (fun _ a22 _=>M+1 - (intOf a22).toNat)
   case atStart=>exact ⟨0,_,_,_,Nat.zero_le _,rfl,rfl,HSP1,HS1,HK1⟩
   case round =>
    obtain ⟨j,ja,jn,jc,hj,rfl,rfl,HSP,HS,HK⟩:=hrel
    clear HSP1 HS1 HK1
    by_cases hjl:j<M
    ·have hjl':j<c.parts.length:=by have:=HM.out;omega
     obtain ⟨rfl,hbp⟩:=HPA.out (by omega)
     have p0:=(HK.out.2.2.cell (p:=⟨bp,op+j,none⟩) hbp).trans (HCX.out.pc j hjl')
     obtain ⟨ta,tc,hqv,ht1,ht2,hta⟩:=HCX.out.qs j hjl'
     rw [hqv] at p0
     have HQC:=hid_mk (HCX.out.qc j hjl')
     have HLS:Hid (∀ t,t<(c.parts[j]'hjl').length→∃ la ln lc,lv j t=.slice la ln lc):=fun t ht=>by
      obtain ⟨_,_,⟨la,lc,e,_⟩,_⟩:=(HCX.out.ls j hjl' t ht).at
      exact ⟨la,_,lc,e⟩
     have HDR2:Hid (wgPs (c.parts.drop j)=wgP ((c.parts[j]'hjl').drop 0)++wgPs (c.parts.drop (j+1))):=by
      rw [Hid,List.drop_eq_getElem_cons hjl',List.drop_zero]
      rfl
     have HFT:Hid ((c.parts.take (j+1)).foldl (ptF mostZ) z3=ptF mostZ ((c.parts.take j).foldl (ptF mostZ) z3) (c.parts[j]'hjl')):=by
      rw [Hid,List.take_add_one,List.getElem?_eq_getElem hjl',Option.toList_some,List.foldl_append]
      rfl
     have HACC:Hid ((c.parts.take j).foldl (ptF mostZ) z3).ok:=parts_ok z3_ok fun _ _ x _=>mostZ_ok x.2
     generalize c.parts[j]'hjl'=p at *
     obtain ⟨R2,hR2⟩:∃ R2,R2=(wgPs (c.parts.drop (j+1))).map mostZ++R1:=⟨_,rfl⟩
     obtain ⟨acc,hacc⟩:∃ acc,acc=(c.parts.take j).foldl (ptF mostZ) z3:=⟨_,rfl⟩
     rw [← hacc] at HACC HFT HS
     have HG0:Hid (Gr3 W sb mi acc p R2 0 (.slice ja jn jc) wr):=by
      refine ⟨?_,HS.out,HK.out⟩
      have h1:=HSP.out
      rw [HDR2.out,List.map_append,List.append_assoc,← hR2] at h1
      exact h1
     obtain ⟨L,hL⟩:∃ L,L=p.length:=⟨_,rfl⟩
     rw [← hL] at p0 ht1
     have HTA:=hid_mk hta
     have HL:=hid_mk hL
     have HR2:=hid_mk hR2
     have hL9:L≤9223372036854775807:=by omega
     clear hta hL hR2 hacc HSP HS HK HDR2 hqv HAT HSA HEND
     go_wp2
     clear p0
     go_loopw [1,28] (fun a1 a28 wq=>∃ (t:Nat) (ja:Option Addr) (jn jc:Nat),t≤L∧a28=.int .i64 (t:Int)∧a1=.slice ja jn jc∧Hid (Gr3 W sb mi acc p R2 t (.slice ja jn jc) wq)) (fun _ a28 _=>L+1 - (intOf a28).toNat)
     case atStart=>exact ⟨0,_,_,_,Nat.zero_le _,rfl,rfl,HG0⟩
     case round =>
      obtain ⟨t,ja,jn,jc,ht,rfl,rfl,HG⟩:=hrel
      clear HG0
      by_cases htl:t<L
      ·have htl':t<p.length:=by have:=HL.out;omega
       obtain ⟨rfl,hbq⟩:=HTA.out (by have:=HL.out;omega)
       obtain ⟨la,ln,lc,hlv⟩:=HLS.out t htl'
       have hq:=HQC.out t htl'
       rw [hlv] at hq
       have hkc:∀ o,wr.cell? ⟨bq j,o,none⟩=W.cell? ⟨bq j,o,none⟩:=fun o=>HG.out.k.2.2.cell (p:=⟨bq j,o,none⟩) hbq
       have c0:=(hkc _).trans (hq 0 _ rfl)
       have c1:=(hkc _).trans (hq 1 _ rfl)
       have c2:=(hkc _).trans (hq 2 _ rfl)
       have c3:=(hkc _).trans (hq 3 _ rfl)
       have c4:=(hkc _).trans (hq 4 _ rfl)
       have c5:=(hkc _).trans (hq 5 _ rfl)
       have c6:=(hkc _).trans (hq 6 _ rfl)
       rw [Nat.add_zero] at c0
       have HWD:Hid (wgP (p.drop t)=(if wgB (p[t]'htl').1.k=true then [(p[t]'htl').2] else [])++wgP (p.drop (t+1))):=wgP_drop htl'
       have HPT:Hid (ptF mostZ acc (p.take (t+1))=addS (ptF mostZ acc (p.take t)) (smF mostZ (p[t]'htl'))):=ptF_take htl'
       have HOK:Hid (ptF mostZ acc (p.take t)).ok:=ptF_ok HACC.out fun x _=>mostZ_ok x.2
       generalize p[t]'htl'=x at *
       obtain ⟨s,xl⟩:=x
       dsimp only at c0 c1 c2 c3 c4 c5 c6 HWD HPT
       obtain ⟨w2,hw2⟩:∃ w2,w2=wr.alloc (.cells #[.int .i64 s.k,.string s.nm,.int .i64 s.op,.string s.v,.int .i64 s.a,.int .i64 s.b,.slice la ln lc] 39):=⟨_,rfl⟩
       have x1:w2.heap[wr.heap.size]? = some (.cells #[.int .i64 s.k,.string s.nm,.int .i64 s.op,.string s.v,.int .i64 s.a,.int .i64 s.b,.slice la ln lc] 39 (0,0)):=by
        rw [hw2]
        exact heap_alloc_last wr _
       have hB2:Below wr.heap.size wr w2:=by rw [hw2];exact (Below.refl _ _).alloc (Nat.le_refl _) _
       have HG2:=hid_mk (HG.out.then hB2)
       have d0:w2.cell? ⟨wr.heap.size,0,none⟩=some (.int .i64 s.k):=cellAt x1 0
       have HX1:=hid_mk x1
       have HW2:=hid_mk hw2
       have hszw:wr.heap.size<w2.heap.size:=(Array.getElem?_eq_some_iff.1 x1).1
       have HGS:Hid (SB w2 sb (ptF mostZ acc (p.take t))):=HG2.out.sum
       generalize ptF mostZ acc (p.take t)=ac at *
       have hdl:(t:Int)<(L:Int):=by omega
       clear hq hkc hlv HG x1 hw2 hB2 HQC HLS
       go_upto_region 12 with (fail)
       rw [← HW2.out]
       clear HW2 c0 c1 c2 c3 c4 c5 c6
       go_wp2_with (go_at_call 94;fail)
       refine (weighed_any _ _).mono ?_
       rintro e wz ⟨rfl,hz⟩
       obtain rfl:w2=wz:=hz.symm
       clear hz
       cases hw:wgB s.k with
       | true =>
         have HSPT:Hid (SpAt W (.slice ja jn jc) (mostZ xl::((wgP (p.drop (t+1))).map mostZ++R2))):=by
          have h1:=HG2.out.sp
          rw [HWD.out,if_pos hw] at h1
          exact h1
         obtain ⟨e1,hn1,hn2,g,off,rfl,hgW,y0,y1,y2,hnx⟩:=HSPT.out.first
         have HNX:=hid_mk hnx
         have HPT2:Hid (ptF mostZ acc (p.take (t+1))=addS ac (mostZ xl)):=by
          rw [Hid,HPT.out]
          unfold smF
          rw [if_pos hw]
         have HPL0:=gr_plus (W:=w2) HOK.out (mostZ_ok xl)
         generalize mostZ xl=y at *
         generalize addS ac y=sm at *
         have HPL:=hid_mk HPL0
         have HCL:Hid (∀ w',Below w2.heap.size w2 w'→(w'.cell? ⟨sb,0,none⟩=some (.int .i64 ac.a)∧w'.cell? ⟨sb,1,none⟩=some (.int .i64 ac.b)∧w'.cell? ⟨sb,2,none⟩=some (.int .i64 ac.c))∧w'.frozen? ⟨sb,0,none⟩=false∧w'.frozen? ⟨sb,1,none⟩=false∧w'.frozen? ⟨sb,2,none⟩=false):=fun w' hb=>SB.cells HGS.out hb
         have HSU:Hid (∀ w',Below w2.heap.size w2 w'→Sum w2 sb sm (((w'.setCell ⟨sb,0,none⟩ (.int .i64 sm.a)).setCell ⟨sb,1,none⟩ (.int .i64 sm.b)).setCell ⟨sb,2,none⟩ (.int .i64 sm.c))):=fun w' hb=>Sum.of HGS.out hb
         have gr:Below w2.heap.size w2 w2:=Below.refl _ _
         have gd:Below w2.heap.size w2 w2.drew:=gr.drew
         obtain ⟨⟨s0,s1,s2⟩,f0,f1,f2⟩:=HCL.out w2 gr
         have y0':=(HG2.out.k.2.2.cell (p:=⟨g,off,none⟩) hgW).trans y0
         have y1':=(HG2.out.k.2.2.cell (p:=⟨g,off+1,none⟩) hgW).trans y1
         have y2':=(HG2.out.k.2.2.cell (p:=⟨g,off+2,none⟩) hgW).trans y2
         have hjn:0<jn:=by omega
         have HE1:=hid_mk e1
         have HG3:Hid (∀ w' ia',Sum w2 sb sm w'→(0<((wgP (p.drop (t+1))).map mostZ++R2).length→ia'=some ⟨g,off+3,none⟩)→Gr3 W sb mi acc p R2 (t+1) (.slice ia' (jn - 1) (jc - 1)) w'):=fun w' ia' hs hia=>by
          refine ⟨HNX.out ia' hia,?_,HG2.out.k.sum hs hsb⟩
          rw [HPT2.out]
          exact hs.1
         clear y0 y1 y2 hnx HPL0 HPT HPT2 HWD HSPT e1 hw HOK HX1 HNX HFT HACC HTA HPA HCX HST d0
         go_upto_region 13 with (fail)
         go_region_law (go_simp;go_at_call 95;refine (HPL.out _ ?_).mono ?_;assumption;rintro e w5 ⟨rfl,hb5⟩;obtain ⟨⟨t0,t1,t2⟩,k0,k1,k2⟩:=HCL.out w5 hb5;have HS5:=hid_mk (HSU.out w5 hb5);clear hb5)
         all_goals
          obtain ⟨W6,hW6⟩:∃ W6,W6=((w5.setCell ⟨sb,0,none⟩ (.int .i64 sm.a)).setCell ⟨sb,1,none⟩ (.int .i64 sm.b)).setCell ⟨sb,2,none⟩ (.int .i64 sm.c):=⟨_,rfl⟩
          rw [← hW6] at HS5 ⊢
          clear hW6 t0 t1 t2 k0 k1 k2 HCL HPL HSU s0 s1 s2 f0 f1 f2 y0' y1' y2' gr gd
          go_wp2
          exact ⟨⟨t+1,_,_,_,by omega,by go_num,rfl,HG3.out _ _ HS5.out fun h=>by rw [if_neg (by have:=HE1.out;omega)]⟩,by simp only [intOf];omega⟩
       | false =>
         have HSPT:Hid (SpAt W (.slice ja jn jc) ((wgP (p.drop (t+1))).map mostZ++R2)):=by
          have h1:=HG2.out.sp
          rw [HWD.out,if_neg (by rw [hw];decide)] at h1
          exact h1
         have HPT2:Hid (ptF mostZ acc (p.take (t+1))=addS ac (sglZ s)):=by
          rw [Hid,HPT.out]
          unfold smF
          rw [if_neg (by rw [hw];decide)]
         have HPL0:=gr_plus (W:=w2) HOK.out (sglZ_ok s)
         have HSI0:∀ w',Below w2.heap.size w2 w'→Calls Tryz.prog 96 #[.agg #[.int .i64 s.k,.string s.nm,.int .i64 s.op,.string s.v,.int .i64 s.a,.int .i64 s.b,.slice la ln lc]] w' fun e w''=>e=.returned (.agg #[.int .i64 (sglZ s).a,.int .i64 (sglZ s).b,.int .i64 (sglZ s).c])∧Below w2.heap.size w2 w'':=fun w' hb=>(single_any w' s la ln lc).mono fun _ _ q=>⟨q.1,hb.trans (q.2.mono hb.size)⟩
         generalize sglZ s=y at *
         generalize addS ac y=sm at *
         have HPL:=hid_mk HPL0
         have HSI:=hid_mk HSI0
         have HCL:Hid (∀ w',Below w2.heap.size w2 w'→(w'.cell? ⟨sb,0,none⟩=some (.int .i64 ac.a)∧w'.cell? ⟨sb,1,none⟩=some (.int .i64 ac.b)∧w'.cell? ⟨sb,2,none⟩=some (.int .i64 ac.c))∧w'.frozen? ⟨sb,0,none⟩=false∧w'.frozen? ⟨sb,1,none⟩=false∧w'.frozen? ⟨sb,2,none⟩=false):=fun w' hb=>SB.cells HGS.out hb
         have HSU:Hid (∀ w',Below w2.heap.size w2 w'→Sum w2 sb sm (((w'.setCell ⟨sb,0,none⟩ (.int .i64 sm.a)).setCell ⟨sb,1,none⟩ (.int .i64 sm.b)).setCell ⟨sb,2,none⟩ (.int .i64 sm.c))):=fun w' hb=>Sum.of HGS.out hb
         have gr:Below w2.heap.size w2 w2:=Below.refl _ _
         have gd:Below w2.heap.size w2 w2.drew:=gr.drew
         obtain ⟨⟨s0,s1,s2⟩,f0,f1,f2⟩:=HCL.out w2 gr
         have d1:w2.cell? ⟨wr.heap.size,1,none⟩=some (.string s.nm):=cellAt HX1.out 1
         have d2:w2.cell? ⟨wr.heap.size,2,none⟩=some (.int .i64 s.op):=cellAt HX1.out 2
         have d3:w2.cell? ⟨wr.heap.size,3,none⟩=some (.string s.v):=cellAt HX1.out 3
         have d4:w2.cell? ⟨wr.heap.size,4,none⟩=some (.int .i64 s.a):=cellAt HX1.out 4
         have d5:w2.cell? ⟨wr.heap.size,5,none⟩=some (.int .i64 s.b):=cellAt HX1.out 5
         have d6:w2.cell? ⟨wr.heap.size,6,none⟩=some (.slice la ln lc):=cellAt HX1.out 6
         have HG3:Hid (∀ w',Sum w2 sb sm w'→Gr3 W sb mi acc p R2 (t+1) (.slice ja jn jc) w'):=fun w' hs=>by
          refine ⟨HSPT.out,?_,HG2.out.k.sum hs hsb⟩
          rw [HPT2.out]
          exact hs.1
         clear HPL0 HSI0 HPT HPT2 HWD HSPT hw HOK HX1 HFT HACC HTA HPA HCX HST
         go_upto_region 15 with (fail)
         go_region_law (first
          | (go_simp;go_at_call 96;refine (HSI.out _ ?_).mono ?_;assumption;rintro e w4 ⟨rfl,hb4⟩;obtain ⟨⟨r0,r1,r2⟩,_⟩:=HCL.out w4 hb4)
          | (go_simp;go_at_call 95;refine (HPL.out _ ?_).mono ?_;assumption;rintro e w5 ⟨rfl,hb5⟩;obtain ⟨⟨t0,t1,t2⟩,k0,k1,k2⟩:=HCL.out w5 hb5;have HS5:=hid_mk (HSU.out w5 hb5);clear hb5))
         all_goals
          obtain ⟨W6,hW6⟩:∃ W6,W6=((w5.setCell ⟨sb,0,none⟩ (.int .i64 sm.a)).setCell ⟨sb,1,none⟩ (.int .i64 sm.b)).setCell ⟨sb,2,none⟩ (.int .i64 sm.c):=⟨_,rfl⟩
          rw [← hW6] at HS5 ⊢
          clear hW6 t0 t1 t2 k0 k1 k2 HCL HPL HSU HSI s0 s1 s2 f0 f1 f2 gr gd d0 d1 d2 d3 d4 d5 d6
          go_wp2
          exact ⟨⟨t+1,_,_,_,by omega,by go_num,rfl,HG3.out _ HS5.out⟩,by simp only [intOf];omega⟩
      ·have hte:L=t:=by omega
       subst hte
       have HSN:Hid (SB wr sb ((c.parts.take (j+1)).foldl (ptF mostZ) z3)):=by
        have h1:=HG.out.sum
        rw [HL.out,List.take_length,← HFT.out] at h1
        exact h1
       have HSPN:Hid (SpAt W (.slice ja jn jc) ((wgPs (c.parts.drop (j+1))).map mostZ++R1)):=by
        have h1:=HG.out.sp
        rw [HL.out,List.drop_length] at h1
        rw [Hid,← HR2.out]
        exact h1
       have HKN:=hid_mk HG.out.k
       clear HG HFT HACC HQC HLS HCX HPA HTA
       go_wp2
       exact ⟨⟨j+1,_,_,_,by omega,by go_num,rfl,HSPN,HSN,HKN⟩,by simp only [intOf];omega⟩
    ·have hje:M=j:=by omega
     subst hje
     have HSF:Hid (SB wr sb (ofF mostZ c)):=by
      have h1:=HS.out
      rw [HM.out,List.take_length] at h1
      exact h1
     have HSPN:Hid (SpAt W (.slice ja jn jc) ((wgL (l.drop (i+1))).map mostZ++rest)):=by
      have h1:=HSP.out
      rw [HM.out,List.drop_length] at h1
      rw [Hid,← HR1.out]
      exact h1
     obtain ⟨⟨s0,s1,s2⟩,_⟩:=cells3s HSF.out
     obtain ⟨⟨o0,o1,o2⟩,g0,g1,g2⟩:=cells3s HK.out.1
     have hle:=less_any wr mi (ofF mostZ c)
     generalize ofF mostZ c=su at *
     unfold S3.v at hle
     cases hls:lessS mi su with
     | false =>
       have HKN:Hid (∀ w',Below wr.heap.size wr w'→GrK W ((l.take (i+1)).foldl (fun m c=>upS m (ofF mostZ c)) z3) w'):=fun w' hb=>by
        rw [HST.out,upS,if_neg (by rw [hls];decide)]
        exact HK.out.then hb
       rw [hls] at hle
       clear HAT HSA HEND HSP HK HS HSF HST hls HCX HPA
       go_wp2_with (go_at_call 97;fail)
       refine hle.mono ?_
       rintro e w2 ⟨rfl,hb2⟩
       have HKZ:=hid_mk (HKN.out w2 hb2)
       clear hle hb2 HKN
       go_wp2
       exact ⟨⟨i+1,_,_,_,by omega,by go_num,rfl,HSPN,HKZ⟩,by simp only [intOf];omega⟩
     | true =>
       have HKN:Hid (∀ w',Below wr.heap.size wr w'→GrK W ((l.take (i+1)).foldl (fun m c=>upS m (ofF mostZ c)) z3) (((w'.setCell ⟨W.heap.size+1,0,none⟩ (.int .i64 su.a)).setCell ⟨W.heap.size+1,1,none⟩ (.int .i64 su.b)).setCell ⟨W.heap.size+1,2,none⟩ (.int .i64 su.c))∧SB w' sb su∧SB w' (W.heap.size+1) mi):=fun w' hb=>by
        rw [HST.out,upS,if_pos hls]
        have hk:=HK.out.then hb
        exact ⟨⟨hk.1.set su,(set3_ne (by omega)).trans hk.2.1,below_set3 hk.2.2 (by omega) _ _ _⟩,(hb.block _ (Array.getElem?_eq_some_iff.1 HSF.out).1).trans HSF.out,hk.1⟩
       rw [hls] at hle
       clear HAT HSA HEND HSP HK HS HSF HST hls HCX HPA
       go_wp2_with (go_at_call 97;fail)
       refine hle.mono ?_
       rintro e w2 ⟨rfl,hb2⟩
       obtain ⟨hkz,hs2,ho2⟩:=HKN.out w2 hb2
       obtain ⟨⟨t0,t1,t2⟩,_⟩:=cells3s hs2
       obtain ⟨⟨u0,u1,u2⟩,v0,v1,v2⟩:=cells3s ho2
       have HKZ:=hid_mk hkz
       clear hle hb2 HKN hkz hs2 ho2 s0 s1 s2 o0 o1 o2 g0 g1 g2
       go_wp2
       exact ⟨⟨i+1,_,_,_,by omega,by go_num,rfl,HSPN,HKZ⟩,by simp only [intOf];omega⟩
  ·have hie:i=N:=by omega
   subst hie
   obtain ⟨⟨k0,k1,k2⟩,f0,f1,f2⟩:=cells3s HK.out.2.1
   obtain ⟨⟨o0,o1,o2⟩,_⟩:=cells3s HK.out.1
   have HR:Hid (R=(l.take i).foldl (fun m c=>upS m (ofF mostZ c)) z3):=HEND.out
   have HB:=hid_mk HK.out.2.2
   generalize (l.take i).foldl (fun m c=>upS m (ofF mostZ c)) z3=mm at *
   clear HAT HSA HEND HSP HK hil
   go_wp2
   rw [HR.out]
   exact bodyPost_ret (by simp [results,Tryz.results45,go_sem,k0,k1,k2];rfl) rfl ⟨rfl,below_set3 HB.out (Nat.le_refl _) _ _ _⟩
theorem mem_wgL {l L:List Cx} (h:L∈wgL l):dpL L<dpL l:=by
 obtain ⟨c,hc,h⟩:=List.mem_flatMap.1 h
 obtain ⟨p,hp,h⟩:=List.mem_flatMap.1 h
 obtain ⟨x,hx,rfl⟩:=List.mem_map.1 h
 exact dp_in hc hp (List.mem_filter.1 hx).1
def szD:Nat→List Cx→Nat
 | 0,_=>1
 | d+1,l=>1+((wgL l).map (szD d)).sum
theorem map_congr' {α β:Type} {f g:α→β} {l:List α} (h:∀ x∈l,f x=g x):l.map f=l.map g:=List.map_congr_left h
theorem szD_same:∀ (d e:Nat) (l:List Cx),dpL l<d→dpL l<e→szD d l=szD e l
 | 0,_,_,h,_=>by omega
 | _+1,0,_,_,h=>by omega
 | d+1,e+1,l,hd,he=>by
   unfold szD
   rw [map_congr' (g:=szD e) fun L hL=>by
    have:=mem_wgL hL
    exact szD_same d e L (by omega) (by omega)]
def szZ (l:List Cx):Nat:=szD (dpL l+1) l
theorem szZ_step (l:List Cx):szZ l=1+((wgL l).map szZ).sum:=by
 conv=>lhs;unfold szZ szD
 rw [map_congr' (g:=szZ) fun L hL=>by
  have:=mem_wgL hL
  unfold szZ
  exact szD_same _ _ L (by omega) (by omega)]
theorem szZ_pos (l:List Cx):1≤szZ l:=by rw [szZ_step];omega
theorem sum_len:∀ l:List (List Cx),l.length≤(l.map szZ).sum
 | []=>Nat.le_refl _
 | a::r=>by
   have:=sum_len r
   have:=szZ_pos a
   simp only [List.length_cons,List.map_cons,List.sum_cons]
   omega
theorem queue_step {al:List (List Cx)} {i:Nat} (h:i<al.length):i+((al.drop i).map szZ).sum=(i+1)+(((al++wgL (al[i]'h)).drop (i+1)).map szZ).sum:=by
 rw [List.drop_append_of_le_length (by omega),List.drop_eq_getElem_cons h,List.map_cons,List.sum_cons,List.map_append,List.sum_append,szZ_step]
 omega
inductive F2 {α β:Type} (r:α→β→Prop):List α→List β→Prop
 | nil:F2 r [] []
 | cons {a:α} {b:β} {l:List α} {m:List β} (h:r a b) (t:F2 r l m):F2 r (a::l) (b::m)
theorem F2.len {α β:Type} {r:α→β→Prop} {l:List α} {m:List β} (h:F2 r l m):l.length=m.length:=by
 induction h with
 | nil=>rfl
 | cons _ _ ih=>simp [ih]
theorem F2.get {α β:Type} {r:α→β→Prop} {l:List α} {m:List β} (h:F2 r l m):∀ i (h1:i<l.length) (h2:i<m.length),r (l[i]'h1) (m[i]'h2):=by
 induction h with
 | nil=>intro i h1;exact absurd h1 (by simp)
 | cons h _ ih =>
   intro i h1 h2
   cases i with
   | zero=>exact h
   | succ i=>exact ih i (by simpa using h1) (by simpa using h2)
theorem F2.of {α β:Type} {r:α→β→Prop}:∀ {l:List α} {m:List β},l.length=m.length→(∀ i (h1:i<l.length) (h2:i<m.length),r (l[i]'h1) (m[i]'h2))→F2 r l m
 | [],[],_,_=>.nil
 | a::l,b::m,h,hr=>.cons (hr 0 (by simp) (by simp)) (F2.of (by simpa using h) fun i h1 h2=>hr (i+1) (Nat.succ_lt_succ h1) (Nat.succ_lt_succ h2))
theorem F2.append {α β:Type} {r:α→β→Prop} {l l':List α} {m m':List β} (h:F2 r l m) (h':F2 r l' m'):F2 r (l++l') (m++m'):=by
 induction h with
 | nil=>exact h'
 | cons h _ ih=>exact .cons h ih
theorem F2.flat {α β γ δ:Type} {r:α→β→Prop} {s:γ→δ→Prop} {f:α→List γ} {g:β→List δ} {l:List α} {m:List β} (h:F2 r l m) (hf:∀ a b,r a b→F2 s (f a) (g b)):F2 s (l.flatMap f) (m.flatMap g):=by
 induction h with
 | nil=>exact .nil
 | cons h _ ih=>rw [List.flatMap_cons,List.flatMap_cons];exact (hf _ _ h).append ih
def LsAt (W:World) (a:Addr) (L:List Cx):Prop:=∃ g o u,a=⟨g,o,none⟩∧g<W.heap.size∧W.cell? ⟨g,o+6,none⟩=some u∧ClAt W u L
theorem sel_one {W:World} {p:List (Int×Addr)} {q:List (S6×List Cx)} (h:F2 (fun x y=>x.1=y.1.k∧LsAt W x.2 y.2) p q):F2 (LsAt W) (selP wgB p) (wgP q):=by
 unfold selP wgP
 induction h with
 | nil=>exact .nil
 | cons h _ ih =>
   rw [List.filter_cons,List.filter_cons,h.1]
   split
   ·exact .cons h.2 ih
   ·exact ih
theorem ClAt.see {W:World} {v:Value} {l:List Cx} (h:ClAt W v l):∃ l',SeeAt W v l'∧F2 (LsAt W) (selL wgB l') (wgL l):=by
 cases h with
 | mk v l b off pv cv bc oc bp op qv bq oq lv hs hc h1 h2 h3 h4 h5 h6 hr =>
   refine ⟨l.mapIdx fun i c=>c.parts.mapIdx fun j p=>p.mapIdx fun t x=>(x.1.k,⟨bq i j,oq i j+t * 7,none⟩),⟨b,off,by simpa using hs,fun i hi=>?_⟩,?_⟩
   ·have hi':i<l.length:=by simpa using hi
    obtain ⟨ca,cc,e,_⟩:=h1 i hi'
    refine ⟨pv i,cv i,bp i,op i,(hc i hi').1,(hc i hi').2,⟨ca,_,cc,e⟩,by simpa using h3 i hi',fun j hj=>?_⟩
    have hj':j<(l[i]'hi').parts.length:=by simpa using hj
    refine ⟨qv i j,bq i j,oq i j,h4 i hi' j hj',by simpa using h5 i hi' j hj',fun t ht=>?_⟩
    have ht':t<((l[i]'hi').parts[j]'hj').length:=by simpa using ht
    refine ⟨by simp,?_⟩
    have:=h6 i hi' j hj' t ht' 0 _ rfl
    rw [Nat.add_zero] at this
    simpa using this
   ·unfold selL wgL
    refine F2.flat (r:=fun x c=>F2 (F2 fun x y=>x.1=y.1.k∧LsAt W x.2 y.2) x c.parts) (F2.of (by simp) fun i hi hi'=>?_) fun x c hx=>?_
    ·rw [List.getElem_mapIdx]
     refine F2.of (by simp) fun j hj hj'=>?_
     rw [List.getElem_mapIdx]
     refine F2.of (by simp) fun t ht ht'=>?_
     rw [List.getElem_mapIdx]
     refine ⟨rfl,bq i j,oq i j+t * 7,lv i j t,rfl,?_,h6 i hi' j hj' t ht' 6 _ rfl,hr i hi' j hj' t ht'⟩
     obtain ⟨_,_,_,_,_,e⟩:=h5 i hi' j hj'
     exact (e (by omega)).2
    ·exact F2.flat hx fun p q hp=>sel_one hp
theorem info23:∃ i z,Tryz.prog.info? 23=some i∧i.zero=some z∧i.size=1∧i.bytes=24∧z.cells.size=1:=⟨_,_,by rfl,by rfl,by rfl,by rfl,by rfl⟩
theorem SeeAt.keep {W W':World} {v:Value} {l:List (List (List (Int×Addr)))} (h:SeeAt W v l) (hb:Below W.heap.size W W'):SeeAt W' v l:=by
 obtain ⟨b,off,hs,hat⟩:=h
 refine ⟨b,off,hs.keep hb,fun i hi=>?_⟩
 obtain ⟨pv,cv,bp,op,q1,q2,q3,q4,q5⟩:=hat i hi
 refine ⟨pv,cv,bp,op,(hs.cell hb (by omega) _).trans q1,(hs.cell hb (by omega) _).trans q2,q3,q4.keep hb,fun j hj=>?_⟩
 obtain ⟨qv,bq,oq,r1,r2,r3⟩:=q5 j hj
 exact ⟨qv,bq,oq,(q4.cell hb (by omega) _).trans r1,r2.keep hb,fun t ht=>⟨(r3 t ht).1,(r2.cell hb (by omega) _).trans (r3 t ht).2⟩⟩
theorem within_in {W w:World} {v:Value} {l:List Cx} (h:ClAt W v l) (hw:Below W.heap.size W w) (hbig:(wgL l).length≤1000000) :
  Calls Tryz.prog 50 #[v,.func (.func 94) #[] #[]] w fun e w'=>∃ v' A,e=.returned v'∧PsAt w.heap.size w' v' A∧F2 (LsAt W) A (wgL l)∧Below w.heap.size w w':=by
 obtain ⟨l',hs,hf⟩:=h.see
 refine (within_83 (f:=wgB) (fun w k=>weighed_any w k) (hs.keep hw) (by rw [hf.len];exact hbig)).mono ?_
 rintro e w' ⟨v',rfl,hp,hb⟩
 exact ⟨v',_,rfl,hp,hf,hb⟩
theorem own_by {w wa w2:World} {B n s m s':Nat} {T U:TypeId} {v v':Value} {xs ys:List Value} (h:w.ownsRow B T s v n xs) (k:w.ownsRow B U s' v' m ys) (hT:T≠U) (ha:Below w.heap.size w wa) (hg:wa.grownBy w2 v'.ownBlock):w2.ownsRow B T s v n xs :=
 own_stayT h fun g c hc _=>by
  have hl:=(Array.getElem?_eq_some_iff.1 hc).1
  rw [hg.block g (Nat.lt_of_lt_of_le hl ha.size) (fun e=>?_),ha.block g hl]
  obtain ⟨_,d,hd⟩:=own_at k e.symm
  exact hT (ty_ne hc hd)
theorem own_n {w:World} {B n s m c:Nat} {T:TypeId} {a:Option Addr} {xs:List Value} (h:w.ownsRow B T s (.slice a m c) n xs):m=n:=by
 rcases h.2 with ⟨e,rfl⟩ | ⟨g,cap,cur,e,_⟩
 ·cases e;rfl
 ·cases e;rfl
theorem own_new (W:World) (e:TypeId) (x:Value):(W.alloc (.cells #[x] e)).ownsRow W.heap.size e 1 (.slice (some ⟨W.heap.size,0,none⟩) 1 1) 1 [x] :=
 ⟨by simp,.inr ⟨W.heap.size,1,#[x],rfl,Nat.le_refl _,heap_alloc_last W _,Nat.le_refl _,by decide,by simp,by simp⟩⟩
def AsAt (W w:World) (v:Value) (al:List (List Cx)):Prop:=∃ us,w.ownsRow W.heap.size 23 1 v al.length us∧F2 (fun u L=>ClAt W u L) us al
def InAt (W w:World) (v:Value) (ins:List Nat):Prop:=w.ownsRow W.heap.size 3 1 v ins.length (ins.map fun (n:Nat)=>Value.int .i64 (n:Int))
structure Que (l:List Cx) (al:List (List Cx)) (ins:List Nat) (i:Nat):Prop where
 len:ins.length=i
 le:i≤al.length
 sum:i+((al.drop i).map szZ).sum=szZ l
 first:al[0]? = some l
 ok:∀ k (h:k<ins.length) (h':k<al.length),k<ins[k]'h∧ins[k]'h≤al.length∧∃ rest,al.drop (ins[k]'h)=wgL (al[k]'h')++rest
theorem Que.start (l:List Cx):Que l [l] [] 0:=⟨rfl,Nat.zero_le _,by simp,rfl,fun k h=>absurd h (by simp)⟩
theorem Que.big {l:List Cx} {al:List (List Cx)} {ins:List Nat} {i:Nat} (h:Que l al ins i):al.length≤szZ l:=by
 have h1:=sum_len (al.drop i)
 have h2:=h.sum
 have h3:=h.le
 rw [List.length_drop] at h1
 omega
theorem Que.next {l:List Cx} {al:List (List Cx)} {ins:List Nat} {i:Nat} (h:Que l al ins i) (hi:i<al.length):Que l (al++wgL (al[i]'hi)) (ins++[al.length]) (i+1):=by
 refine ⟨by simp [h.len],by simp;omega,by rw [← queue_step hi];exact h.sum,?_,fun k h1 h2=>?_⟩
 ·rw [List.getElem?_append_left (by omega)]
  exact h.first
 ·by_cases hk:k<ins.length
  ·have hk':k<al.length:=by have:=h.len;omega
   obtain ⟨q1,q2,rest,q3⟩:=h.ok k hk hk'
   rw [List.getElem_append_left hk,List.getElem_append_left hk']
   refine ⟨q1,by simp;omega,rest++wgL (al[i]'hi),?_⟩
   rw [List.drop_append_of_le_length q2,q3,List.append_assoc]
  ·have hke:k=i:=by
    have:=h.len
    simp at h1
    omega
   subst hke
   have e:(ins++[al.length])[k]'h1=al.length:=by
    rw [List.getElem_append_right (by omega)]
    simp
   rw [e,List.getElem_append_left hi]
   exact ⟨hi,by simp,[],by simp⟩
structure Sp3 (W:World) (al X:List (List Cx)) (pv iv:Value) (A:List Addr) (ins:List Nat) (t:Nat) (av:Value) (w:World):Prop where
 all:AsAt W w av (al++X.take t)
 inn:InAt W w iv ins
 ps:w.ownsRow W.heap.size 95 1 pv A.length (A.map fun a=>Value.pointer (some a))
 bel:Below W.heap.size W w
theorem Sp3.next {W w w3:World} {al X:List (List Cx)} {pv iv av v3 u:Value} {A:List Addr} {ins:List Nat} {t:Nat} {us:List Value} (h:Sp3 W al X pv iv A ins t av w) (ht:t<X.length) (hu:ClAt W u (X[t]'ht))
  (ho:w.ownsRow W.heap.size 23 1 av (al++X.take t).length us) (hf:F2 (fun u L=>ClAt W u L) us (al++X.take t)) (hg:(w.alloc (.cells #[u] 23)).grownBy w3 av.ownBlock) (ho3:w3.ownsRow W.heap.size 23 1 v3 ((al++X.take t).length+1) (us++[u])):Sp3 W al X pv iv A ins (t+1) v3 w3:=by
 have ha:Below w.heap.size w (w.alloc (.cells #[u] 23)):=(Below.refl _ _).alloc (Nat.le_refl _) _
 have e:al++X.take (t+1)=(al++X.take t)++[X[t]'ht]:=by rw [List.take_add_one,List.getElem?_eq_getElem ht,Option.toList_some,List.append_assoc]
 refine ⟨⟨us++[u],?_,?_⟩,own_by h.inn ho (by decide) ha hg,own_by h.ps ho (by decide) ha hg,?_⟩
 ·rw [e,List.length_append (bs:=[X[t]'ht])]
  exact ho3
 ·rw [e]
  exact hf.append (.cons hu .nil)
 ·exact (h.bel.alloc h.bel.size _).grown hg (h.bel.alloc h.bel.size _).size fun k hk=>(own_at ho hk).1
theorem own_low {w w':World} {B n s:Nat} {T:TypeId} {v:Value} {xs:List Value} (h:w.ownsRow B T s v n xs) (hb:Below w.heap.size w w'):w'.ownsRow B T s v n xs:=own_stayT h fun g _ hc _=>hb.block g (Array.getElem?_eq_some_iff.1 hc).1
theorem spread_any {W:World} {v:Value} {l:List Cx} (h:ClAt W v l) (hsz:szZ l≤1000000) :
  Calls Tryz.prog 44 #[v] W fun e w'=>∃ av iv al ins,e=.returned (.tuple #[av,iv])∧AsAt W w' av al∧InAt W w' iv ins∧Que l al ins al.length∧Below W.heap.size W w':=by
 obtain ⟨i0,z0,hi0,hz0,hz1,hz2,hz3⟩:=info23
 obtain ⟨i1,y0,hi1,hy0,hy1,hy2,hy3⟩:=info3
 obtain ⟨a,ll,cap,rfl⟩:∃ a n c,v=.slice a n c:=by
  obtain ⟨_,_,⟨a,cap,e,_⟩,_⟩:=h.at
  exact ⟨_,_,_,e⟩
 obtain ⟨W1,hW1⟩:∃ W1,W1=W.alloc (.cells #[.slice a ll cap] 23):=⟨_,rfl⟩
 have HA0:Hid (∃ al ins,AsAt W W1 (.slice (some ⟨W.heap.size,0,none⟩) 1 1) al∧InAt W W1 (.slice none 0 0) ins∧Que l al ins 0):=by
  refine ⟨[l],[],⟨[.slice a ll cap],?_,.cons h .nil⟩,⟨rfl,.inl ⟨rfl,rfl⟩⟩,Que.start l⟩
  rw [hW1]
  exact own_new W 23 _
 have HB0:Hid (Below W.heap.size W W1):=by rw [Hid,hW1];exact (Below.refl _ _).alloc (Nat.le_refl _) _
 have HSZ:=hid_mk hsz
 have HW1:=hid_mk hW1
 clear h hW1 hsz
 go_enter Tryz.func44,Tryz.ntmps44
 go_upto_region 3 with (fail)
 rw [← HW1.out]
 clear HW1
 go_wp2
 go_loopw [4,5,6] (fun a4 a5 a6 wq=>∃ (i:Nat) (aa:Option Addr) (an ac:Nat) (ia:Option Addr) (im ic:Nat),i≤1000000∧a6=.int .i64 (i:Int)∧a4=.slice aa an ac∧a5=.slice ia im ic∧Hid (∃ al ins,AsAt W wq (.slice aa an ac) al∧InAt W wq (.slice ia im ic) ins∧Que l al ins i)∧Hid (Below W.heap.size W wq)) (fun _ _ a6 _=>1000001 - (intOf a6).toNat)
 case atStart=>exact ⟨0,_,_,_,_,_,_,Nat.zero_le _,rfl,rfl,rfl,HA0,HB0⟩
 case round =>
  obtain ⟨i,aa,an,ac,ia,im,ic,hi,rfl,rfl,rfl,HA,HB⟩:=hrel
  clear HA0 HB0
  obtain ⟨al,ins,⟨us,hus,hf⟩,hin,hq⟩:=HA.out
  have hbig:=Nat.le_trans hq.big HSZ.out
  have hle:=hq.le
  have hnl:an=al.length:=own_n hus
  by_cases hil:i<an
  ·have hil':i<al.length:=by omega
   have hHin:(wr.alloc (.cells #[.int .i64 (an:Int)] 3)).ownsRow W.heap.size 3 1 (.slice ia im ic) ins.length (ins.map fun (n:Nat)=>Value.int .i64 (n:Int)):=own_stayT hin fun g c hc _=>Below.heap_alloc _ _ _ (Array.getElem?_eq_some_iff.1 hc).1
   have HNX:Hid (∀ w3 v3,(wr.alloc (.cells #[.int .i64 (an:Int)] 3)).grownBy w3 (Value.slice ia im ic).ownBlock→w3.ownsRow W.heap.size 3 1 v3 (ins.length+1) ((ins.map fun (n:Nat)=>Value.int .i64 (n:Int))++[.int .i64 (an:Int)])→InAt W w3 v3 (ins++[al.length])∧w3.ownsRow W.heap.size 23 1 (.slice aa an ac) al.length us∧Below W.heap.size W w3):=fun w3 v3 hgr ho=>by
    have ha:Below wr.heap.size wr (wr.alloc (.cells #[.int .i64 (an:Int)] 3)):=(Below.refl _ _).alloc (Nat.le_refl _) _
    refine ⟨?_,own_by hus hin (by decide) ha hgr,?_⟩
    ·unfold InAt
     rw [List.length_append,List.map_append,← hnl]
     exact ho
    ·have hB2:Below W.heap.size W (wr.alloc (.cells #[.int .i64 (an:Int)] 3)):=HB.out.alloc HB.out.size _
     exact hB2.grown hgr hB2.size fun k hk=>(own_at hin hk).1
   have HOS:Hid (∀ u∈[Value.int .i64 (an:Int)],u.oneCell'=true):=by
    intro u hu
    rw [List.mem_singleton.1 hu]
    rfl
   have HON:Hid (∀ j u,[Value.int .i64 (an:Int)][j]? = some u→(wr.alloc (.cells #[.int .i64 (an:Int)] 3)).cell? (Addr.add ⟨wr.heap.size,0,none⟩ j)=some u):=one_news
   have hszA:W.heap.size≤(wr.alloc (.cells #[.int .i64 (an:Int)] 3)).heap.size:=by have:=HB.out.size;simp;omega
   have hil1:ins.length≤1000000:=by have:=hq.len;omega
   have HF:=hid_mk hf
   have HQ:=hid_mk hq
   have HLN:=hid_mk hnl
   have hdl:(i:Int)<(an:Int):=by omega
   rw [← hnl] at hbig hle
   clear HA hf hus hin hq hnl
   go_wp2_with (at_builtin;with_reducible refine wpList_append_own _ rfl _ _ 35 rfl W.heap.size 3 i1 y0 1 8 Tryz.underlying35 hi1 hy0 hy1 hy2 hy3 (by decide) (.slice ia im ic) ins.length (ins.map fun (n:Nat)=>Value.int .i64 (n:Int)) rfl hHin ⟨wr.heap.size,0,none⟩ 1 1 [.int .i64 (an:Int)] rfl rfl HON.out HOS.out ?c1 ?c2 ?c3 ?_)
   case c1=>unfold maxLen;omega
   case c2=>omega
   case c3=>exact hszA
   intro v3 w3 ho3 hgr3 _
   obtain ⟨hin3,hus3,hB3⟩:=HNX.out w3 v3 hgr3 ho3
   obtain ⟨ea,en,ec,rfl⟩:=own_sl ho3
   obtain ⟨ag,agc,x,e1,hag,_,hc1,hc2,hx,cx⟩:=own_cell hus3 hil'
   have hxi:i<us.length:=by have:=HF.out.len;omega
   rw [List.getElem?_eq_getElem hxi] at hx
   have hcl:=HF.out.get i hxi hil'
   rw [Option.some.inj hx] at hcl
   obtain ⟨xa,xn,xc,rfl⟩:∃ a n c,x=.slice a n c:=by
    obtain ⟨_,_,⟨a,cap,e,_⟩,_⟩:=hcl.at
    exact ⟨_,_,_,e⟩
   have HX2:Hid ((wgL (al[i]'hil')).length+al.length≤1000000):=by
    have h1:=(HQ.out.next hil').big
    rw [List.length_append] at h1
    have:=HSZ.out
    rw [Hid]
    omega
   have hcall:=within_in hcl hB3 (by have:=HX2.out;omega)
   obtain ⟨rfl,rfl⟩:aa=some ⟨ag,0,none⟩∧ac=agc:=by
    cases e1
    exact ⟨rfl,rfl⟩
   rw [← HLN.out] at hc1
   have HI3:=hid_mk hin3
   have HU3:=hid_mk hus3
   have HB3:=hid_mk hB3
   clear HNX hHin ho3 hgr3 hin3 hus3 hB3 e1 hx HOS HON hcl hszA
   have HQN:=hid_mk (HQ.out.next hil')
   generalize al[i]'hil'=L at *
   clear HQ
   go_wp2_with (go_at_call 50;fail)
   refine hcall.mono ?_
   rintro e w4 ⟨v4,A,rfl,hps,hls,hb4⟩
   obtain ⟨pa,pn,pc,rfl⟩:=own_sl hps
   have hpn:pn=A.length:=own_n hps
   have HPC:Hid (∀ (k:Nat) (w:World),w.ownsRow W.heap.size 95 1 (.slice pa pn pc) A.length (A.map fun a=>Value.pointer (some a))→k<pn→∃ g x,pa=some ⟨g,0,none⟩∧pn≤pc∧pc≤9223372036854775807∧A[k]? = some x∧w.cell? ⟨g,k,none⟩=some (.pointer (some x))):=fun k w hp hk=>by
    obtain ⟨g,c,x,e1,e2,_,q1,q2,e5,e6⟩:=own_cell hp (show k<A.length by omega)
    cases e1
    rw [List.getElem?_map] at e5
    cases hx:A[k]? with
    | none=>rw [hx] at e5;cases e5
    | some y =>
      rw [hx] at e5
      cases e5
      exact ⟨g,y,rfl,q1,q2,rfl,e6⟩
   have HG0:Hid (Sp3 W al (wgL L) (.slice pa pn pc) (.slice ea en ec) A (ins++[al.length]) 0 (.slice (some ⟨ag,0,none⟩) an ac) w4):=by
    refine ⟨⟨us,?_,?_⟩,own_low HI3.out hb4,own_from hps HB3.out.size,HB3.out.trans (hb4.mono HB3.out.size)⟩
    ·rw [List.take_zero,List.append_nil]
     exact own_low HU3.out hb4
    ·rw [List.take_zero,List.append_nil]
     exact HF.out
   have HLS:=hid_mk hls
   have HPN:Hid (pn=(wgL L).length):=hpn.trans hls.len
   have hpn9:pn+an≤1000000:=by
    have h1:=HX2.out
    have h2:=HPN.out
    have h3:=HLN.out
    omega
   generalize wgL L=X at *
   clear hcall hps hls hb4 hpn HI3 HU3 HB3 HF cx hag
   go_wp2
   go_loopw [4,28] (fun a4 a28 wq=>∃ (t:Nat) (aa:Option Addr) (am ac:Nat),t≤pn∧a28=.int .i64 (t:Int)∧a4=.slice aa am ac∧Hid (Sp3 W al X (.slice pa pn pc) (.slice ea en ec) A (ins++[al.length]) t (.slice aa am ac) wq)) (fun _ a28 _=>pn+1 - (intOf a28).toNat)
   case atStart=>exact ⟨0,_,_,_,Nat.zero_le _,rfl,rfl,HG0⟩
   case round =>
    obtain ⟨t,ba,bn,bc,ht,rfl,rfl,HG⟩:=hrel
    clear HG0
    by_cases htl:t<pn
    ·obtain ⟨pg,x,rfl,hpc1,hpc2,hx,hcx⟩:=HPC.out t wr HG.out.ps htl
     have htA:t<A.length:=(List.getElem?_eq_some_iff.1 hx).1
     have htX:t<X.length:=by have:=HPN.out;omega
     rw [List.getElem?_eq_getElem htA] at hx
     obtain ⟨xg,xo,u,hxe,hxg,hu,hucl⟩:=HLS.out.get t htA htX
     rw [Option.some.inj hx] at hxe
     subst hxe
     obtain ⟨ua,un,uc,rfl⟩:∃ a n c,u=.slice a n c:=by
      obtain ⟨_,_,⟨a,cap,e,_⟩,_⟩:=hucl.at
      exact ⟨_,_,_,e⟩
     have hu':=(HG.out.bel.cell (p:=⟨xg,xo+6,none⟩) hxg).trans hu
     obtain ⟨vs,hvs,hvf⟩:=HG.out.all
     have hnn:(al++X.take t).length+1≤1000000:=by
      have h1:=HPN.out
      have h2:=HLN.out
      rw [List.length_append,List.length_take]
      omega
     have hown:(wr.alloc (.cells #[.slice ua un uc] 23)).ownsRow W.heap.size 23 1 (.slice ba bn bc) (al++X.take t).length vs:=own_stayT hvs fun g c hc _=>Below.heap_alloc _ _ _ (Array.getElem?_eq_some_iff.1 hc).1
     have HNX:Hid (∀ w3 v3,(wr.alloc (.cells #[.slice ua un uc] 23)).grownBy w3 (Value.slice ba bn bc).ownBlock→w3.ownsRow W.heap.size 23 1 v3 ((al++X.take t).length+1) (vs++[.slice ua un uc])→Sp3 W al X (.slice (some ⟨pg,0,none⟩) pn pc) (.slice ea en ec) A (ins++[al.length]) (t+1) v3 w3):=fun w3 v3 hg ho=>HG.out.next htX hucl hvs hvf hg ho
     have HOS:Hid (∀ z∈[Value.slice ua un uc],z.oneCell'=true):=by
      intro z hz
      rw [List.mem_singleton.1 hz]
      rfl
     have HON:Hid (∀ j z,[Value.slice ua un uc][j]? = some z→(wr.alloc (.cells #[.slice ua un uc] 23)).cell? (Addr.add ⟨wr.heap.size,0,none⟩ j)=some z):=one_news
     have hszA:W.heap.size≤(wr.alloc (.cells #[.slice ua un uc] 23)).heap.size:=by have:=HG.out.bel.size;simp;omega
     generalize (al++X.take t).length=nn at *
     have hdt:(t:Int)<(pn:Int):=by omega
     clear hvs hvf hu hucl hx HG HLS HPC HQN
     go_wp2_with (at_builtin;with_reducible refine wpList_append_own _ rfl _ _ 83 rfl W.heap.size 23 i0 z0 1 24 Tryz.underlying83 hi0 hz0 hz1 hz2 hz3 (by decide) (.slice ba bn bc) nn vs rfl hown ⟨wr.heap.size,0,none⟩ 1 1 [.slice ua un uc] rfl rfl HON.out HOS.out ?c1 ?c2 ?c3 ?_)
     case c1=>unfold maxLen;omega
     case c2=>omega
     case c3=>exact hszA
     intro v5 w5 ho5 hgr5 _
     have HG5:=hid_mk (HNX.out w5 v5 hgr5 ho5)
     obtain ⟨fa,fn,fc,rfl⟩:=own_sl ho5
     clear ho5 hgr5 HNX hown hu' hcx HON HOS hszA
     go_wp2
     exact ⟨⟨t+1,_,_,_,by omega,by go_num,rfl,HG5⟩,by simp only [intOf];omega⟩
    ·have hte:t=pn:=by omega
     subst hte
     have HAN:Hid (∃ al ins,AsAt W wr (.slice ba bn bc) al∧InAt W wr (.slice ea en ec) ins∧Que l al ins (i+1)):=by
      refine ⟨_,_,?_,HG.out.inn,HQN.out⟩
      have h1:=HG.out.all
      rw [HPN.out,List.take_length] at h1
      exact h1
     have HBN:=hid_mk HG.out.bel
     clear HG HQN HLS HPC htl
     go_wp2
     exact ⟨⟨i+1,_,_,_,_,_,_,by omega,by go_num,rfl,rfl,HAN,HBN⟩,by simp only [intOf];omega⟩
  ·have hie:i=an:=by omega
   have HFIN:Hid (∃ al ins,AsAt W wr (.slice aa an ac) al∧InAt W wr (.slice ia im ic) ins∧Que l al ins al.length):=by
    refine ⟨al,ins,⟨us,hus,hf⟩,hin,?_⟩
    rw [← hnl,← hie]
    exact hq
   clear HA hf hus hin hq hnl hbig hle hil
   subst hie
   go_wp2
   go_ret2
   obtain ⟨al,ins,h1,h2,h3⟩:=HFIN.out
   exact ⟨_,_,al,ins,rfl,h1,h2,h3,HB.out⟩
structure Ms (w2:World) (al:List (List Cx)) (m:Nat) (w:World):Prop where
 row:∃ cur:Array Value,w.heap[w2.heap.size]? = some (.cells cur 32 (0,0))∧cur.size=al.length * 3∧∀ j (h:j<al.length),m≤j→cur[j * 3]? = some (.int .i64 (mostZ (al[j]'h)).a)∧cur[j * 3+1]? = some (.int .i64 (mostZ (al[j]'h)).b)∧cur[j * 3+2]? = some (.int .i64 (mostZ (al[j]'h)).c)
 bel:Below w2.heap.size w2 w
theorem Ms.start {w2 w:World} {al:List (List Cx)} {xs:List Value} (h:w.ownsRow w2.heap.size 32 3 (.slice (some ⟨w2.heap.size,0,none⟩) al.length al.length) al.length xs) (hb:Below w2.heap.size w2 w):Ms w2 al al.length w:=by
 refine ⟨?_,hb⟩
 rcases h.2 with ⟨e,_⟩ | ⟨g,cap,cur,e,_,h2,_,_,h5,_⟩
 ·cases e
 ·cases e
  exact ⟨cur,h2,h5,fun j h1 h2=>by omega⟩
theorem Ms.then {w2 w w':World} {al:List (List Cx)} {m:Nat} (h:Ms w2 al m w) (hb:Below w.heap.size w w'):Ms w2 al m w':=by
 obtain ⟨cur,h1,h2,h3⟩:=h.row
 exact ⟨⟨cur,(hb.block _ (Array.getElem?_eq_some_iff.1 h1).1).trans h1,h2,h3⟩,h.bel.trans (hb.mono h.bel.size)⟩
theorem Ms.sp {w2 w:World} {al:List (List Cx)} {m k:Nat} (h:Ms w2 al m w) (hk:m≤k) (hkn:k≤al.length) (hbig:al.length≤1000000) {ia:Option Addr} (hia:k<al.length→ia=some ⟨w2.heap.size,k * 3,none⟩):SpAt w (.slice ia (al.length - k) (al.length - k)) ((al.drop k).map mostZ):=by
 obtain ⟨cur,h1,h2,h3⟩:=h.row
 refine ⟨w2.heap.size,k * 3,⟨ia,al.length - k,by rw [List.length_map,List.length_drop],by rw [List.length_map,List.length_drop];exact Nat.le_refl _,by omega,fun h0=>⟨hia (by rw [List.length_map,List.length_drop] at h0;omega),(Array.getElem?_eq_some_iff.1 h1).1⟩⟩,fun i hi=>?_⟩
 have hi':k+i<al.length:=by rw [List.length_map,List.length_drop] at hi;omega
 obtain ⟨q0,q1,q2⟩:=h3 (k+i) hi' (by omega)
 have hc:∀ o u,cur[o]? = some u→w.cell? ⟨w2.heap.size,o,none⟩=some u:=fun o u hu=>(cellAt h1 o).trans hu
 rw [List.getElem_map,List.getElem_drop,show k * 3+i * 3=(k+i) * 3 by omega]
 exact ⟨hc _ _ q0,hc _ _ q1,hc _ _ q2⟩
theorem Ms.put {w2 w:World} {al:List (List Cx)} {i:Nat} (h:Ms w2 al (i+1) w) (hi:i<al.length):Ms w2 al i (((w.setCell ⟨w2.heap.size,i * 3,none⟩ (.int .i64 (mostZ (al[i]'hi)).a)).setCell ⟨w2.heap.size,i * 3+1,none⟩ (.int .i64 (mostZ (al[i]'hi)).b)).setCell ⟨w2.heap.size,i * 3+2,none⟩ (.int .i64 (mostZ (al[i]'hi)).c)):=by
 obtain ⟨cur,h1,h2,h3⟩:=h.row
 have s1:=set_at (i * 3) (.int .i64 (mostZ (al[i]'hi)).a) (0,0) h1
 have s2:=set_at (i * 3+1) (.int .i64 (mostZ (al[i]'hi)).b) (0,0) s1
 have s3:=set_at (i * 3+2) (.int .i64 (mostZ (al[i]'hi)).c) (0,0) s2
 refine ⟨⟨_,s3,by simpa using h2,fun j hj hij=>?_⟩,((h.bel.setCell (p:=⟨w2.heap.size,i * 3,none⟩) (Nat.le_refl _) _).setCell (p:=⟨w2.heap.size,i * 3+1,none⟩) (Nat.le_refl _) _).setCell (p:=⟨w2.heap.size,i * 3+2,none⟩) (Nat.le_refl _) _⟩
 by_cases hj2:j=i
 ·subst hj2
  have b0:j * 3<cur.size:=by omega
  have b1:j * 3+1<cur.size:=by omega
  have b2:j * 3+2<cur.size:=by omega
  simp [b0,b1,b2]
 ·obtain ⟨q0,q1,q2⟩:=h3 j hj (by omega)
  refine ⟨?_,?_,?_⟩
  ·rw [Array.getElem?_setIfInBounds_ne (by omega),Array.getElem?_setIfInBounds_ne (by omega),Array.getElem?_setIfInBounds_ne (by omega)]
   exact q0
  ·rw [Array.getElem?_setIfInBounds_ne (by omega),Array.getElem?_setIfInBounds_ne (by omega),Array.getElem?_setIfInBounds_ne (by omega)]
   exact q1
  ·rw [Array.getElem?_setIfInBounds_ne (by omega),Array.getElem?_setIfInBounds_ne (by omega),Array.getElem?_setIfInBounds_ne (by omega)]
   exact q2
theorem most_any {W:World} {v:Value} {l:List Cx} (h:ClAt W v l) (hsz:szZ l≤1000000) :
  Calls Tryz.prog 19 #[v] W fun e w'=>e=.returned (mostZ l).v∧Below W.heap.size W w':=by
 obtain ⟨i0,hi0,hz0,hz1,hz2⟩:∃ i,Tryz.prog.info? 32=some i∧i.zero=some (.agg #[.int .i64 0,.int .i64 0,.int .i64 0])∧i.size=3∧i.bytes=24:=⟨_,by rfl,by rfl,by rfl,by rfl⟩
 obtain ⟨a,ll,cap,rfl⟩:∃ a n c,v=.slice a n c:=by
  obtain ⟨_,_,⟨a,cap,e,_⟩,_⟩:=h.at
  exact ⟨_,_,_,e⟩
 obtain ⟨W1,hW1⟩:∃ W1,W1=W.alloc (.cells #[.int .i64 0,.int .i64 0,.int .i64 0] 32):=⟨_,rfl⟩
 have hB1:Below W.heap.size W W1:=by rw [hW1];exact (Below.refl _ _).alloc (Nat.le_refl _) _
 have hR1:SB W1 W.heap.size z3:=by
  unfold SB
  rw [hW1]
  exact heap_alloc_last W _
 have hcall:=spread_any (h.keep hB1) hsz
 have HSZ:=hid_mk hsz
 have HB1:=hid_mk hB1
 have HR1:=hid_mk hR1
 have HW1:=hid_mk hW1
 clear h hB1 hR1 hsz hW1
 go_enter Tryz.func19,Tryz.ntmps19
 go_upto_region 1 with (fail)
 rw [← HW1.out]
 clear HW1
 go_wp2_with (go_at_call 44;fail)
 refine hcall.mono ?_
 rintro e w2 ⟨av,iv,al,ins,rfl,⟨us,hus,hf⟩,hin,hq,hb2⟩
 clear hcall
 obtain ⟨aa,an,ac,rfl⟩:=own_sl hus
 obtain ⟨ia,im,ic,rfl⟩:=own_sl hin
 have hnl:an=al.length:=own_n hus
 have hml:im=ins.length:=own_n hin
 have hql:=hq.len
 have hbig:an≤1000000:=by
  have:=hq.big
  have:=HSZ.out
  omega
 have hpos:0<an:=by
  have h1:=hq.first
  have:=(List.getElem?_eq_some_iff.1 h1).1
  omega
 have HCE:Hid (∀ i,i<an→∃ (hi:i<al.length) (k:Nat) (ag ig:Nat) (xa:Option Addr) (xn xc:Nat),aa=some ⟨ag,0,none⟩∧an≤ac∧ac≤9223372036854775807∧ia=some ⟨ig,0,none⟩∧im≤ic∧ic≤9223372036854775807∧ag<w2.heap.size∧ig<w2.heap.size∧w2.cell? ⟨ag,i,none⟩=some (.slice xa xn xc)∧w2.cell? ⟨ig,i,none⟩=some (.int .i64 (k:Int))∧ClAt W1 (.slice xa xn xc) (al[i]'hi)∧i<k∧k≤an∧∃ rest,al.drop k=wgL (al[i]'hi)++rest):=fun i hi=>by
  have hi':i<al.length:=by omega
  have hi2:i<ins.length:=by omega
  obtain ⟨ag,agc,x,e1,hag,_,hc1,hc2,hx,cx⟩:=own_cell hus hi'
  obtain ⟨ig,igc,y,e2,hig,_,hd1,hd2,hy,cy⟩:=own_cell hin hi2
  have hxi:i<us.length:=by have:=hf.len;omega
  rw [List.getElem?_eq_getElem hxi] at hx
  have hcl:=hf.get i hxi hi'
  rw [Option.some.inj hx] at hcl
  obtain ⟨xa,xn,xc,rfl⟩:∃ a n c,x=.slice a n c:=by
   obtain ⟨_,_,⟨a,cap,e,_⟩,_⟩:=hcl.at
   exact ⟨_,_,_,e⟩
  rw [List.getElem?_map,List.getElem?_eq_getElem hi2] at hy
  obtain ⟨o1,o2,rest,o3⟩:=hq.ok i hi2 hi'
  cases hy
  cases e1
  cases e2
  exact ⟨hi',_,ag,ig,xa,xn,xc,rfl,hc1,hc2,rfl,hd1,hd2,hag,hig,cx,cy,hcl,o1,o2,rest,o3⟩
 have HFI:Hid (∀ hi:0<al.length,al[0]'hi=l):=fun hi=>by
  have h1:=hq.first
  rw [List.getElem?_eq_getElem hi] at h1
  exact Option.some.inj h1
 have him:im=an:=by omega
 subst him
 have HB2:=hid_mk hb2
 have HNL:=hid_mk hnl
 have hszb:W.heap.size<w2.heap.size:=by
  have h1:=(Array.getElem?_eq_some_iff.1 HR1.out).1
  have h2:=hb2.size
  omega
 clear hus hf hin hq hb2 hnl hml hql
 go_wp2_with (at_make;with_reducible refine wpList_make_full _ rfl _ _ 86 rfl w2.heap.size 32 i0 (.agg #[.int .i64 0,.int .i64 0,.int .i64 0]) 3 Tryz.underlying86 hi0 hz0 hz1 .i64 .i64 _ _ im rfl rfl rfl rfl ?c1 ?c2 ?c3 ?_)
 case c1=>rw [hz2];omega
 case c2=>unfold maxLen;omega
 case c3=>exact Nat.le_refl _
 intro w3 ho3 hg3
 have HM0:Hid (Ms w2 al im w3):=by
  rw [Hid]
  rw [HNL.out] at ho3 ⊢
  exact Ms.start ho3 ((Below.refl _ _).grown hg3 (Nat.le_refl _) fun k hk=>by cases hk)
 clear ho3 hg3
 go_wp2
 go_loopw [6] (fun a6 wq=>∃ (m:Nat) (z:Int),m≤im∧z=(m:Int) - 1∧a6=.int .i64 z∧Hid (Ms w2 al m wq)) (fun a6 _=>(intOf a6+1).toNat)
 case atStart=>exact ⟨im,_,Nat.le_refl _,rfl,rfl,HM0⟩
 case round =>
  obtain ⟨m,z,hm,hz,rfl,HM⟩:=hrel
  clear HM0
  cases m with
  | zero =>
    obtain rfl:z=-1:=by omega
    clear hz hm
    have hn0:0<al.length:=by have:=HNL.out;omega
    obtain ⟨cur,h1,h2,h3⟩:=HM.out.row
    obtain ⟨q0,q1,q2⟩:=h3 0 hn0 (Nat.le_refl _)
    rw [HFI.out hn0] at q0 q1 q2
    rw [Nat.zero_mul] at q0 q1 q2
    have c0:wr.cell? ⟨w2.heap.size,0,none⟩=some (.int .i64 (mostZ l).a):=(cellAt h1 0).trans q0
    have c1:wr.cell? ⟨w2.heap.size,1,none⟩=some (.int .i64 (mostZ l).b):=(cellAt h1 1).trans q1
    have c2:wr.cell? ⟨w2.heap.size,2,none⟩=some (.int .i64 (mostZ l).c):=(cellAt h1 2).trans q2
    have hbw:Below W1.heap.size W1 wr:=HB2.out.trans (HM.out.bel.mono HB2.out.size)
    have hr:SB wr W.heap.size z3:=(hbw.block _ (Array.getElem?_eq_some_iff.1 HR1.out).1).trans HR1.out
    obtain ⟨⟨k0,k1,k2⟩,f0,f1,f2⟩:=cells3s hr
    have HBW:Hid (Below W.heap.size W wr):=HB1.out.trans (hbw.mono HB1.out.size)
    clear h1 h2 h3 q0 q1 q2 hr hbw HM HCE HFI
    go_wp2
    exact bodyPost_ret (by simp [results,Tryz.results19,go_sem,k0,k1,k2];rfl) rfl ⟨rfl,below_set3 HBW.out (Nat.le_refl _) _ _ _⟩
  | succ i =>
    obtain rfl:z=(i:Int):=by omega
    clear hz
    obtain ⟨hi,k,ag,ig,xa,xn,xc,rfl,hc1,hc2,rfl,hd1,hd2,hag,hig,cx,cy,hcl,o1,o2,rest,o3⟩:=HCE.out i (by omega)
    have cx':=(HM.out.bel.cell (p:=⟨ag,i,none⟩) hag).trans cx
    have cy':=(HM.out.bel.cell (p:=⟨ig,i,none⟩) hig).trans cy
    have hbw:Below W1.heap.size W1 wr:=HB2.out.trans (HM.out.bel.mono HB2.out.size)
    have HGR:Hid (∀ w' ia',Below wr.heap.size wr w'→(k<im→ia'=some ⟨w2.heap.size,k * 3,none⟩)→Calls Tryz.prog 45 #[.slice xa xn xc,.slice ia' (im - k) (im - k)] w' fun e w''=>e=.returned (.agg #[.int .i64 (mostZ (al[i]'hi)).a,.int .i64 (mostZ (al[i]'hi)).b,.int .i64 (mostZ (al[i]'hi)).c])∧Below wr.heap.size wr w''):=fun w' ia' hb hia=>by
     have hsp:=(HM.out.then hb).sp (k:=k) (ia:=ia') o1 (by have:=HNL.out;omega) (by have:=HNL.out;omega) (fun h=>hia (by have:=HNL.out;omega))
     rw [o3,List.map_append,← HNL.out] at hsp
     exact (greatest_any (hcl.keep (hbw.trans (hb.mono hbw.size))) hsp).mono fun _ _ q=>⟨q.1,hb.trans (q.2.mono hb.size)⟩
    have HCL:Hid (∀ w',Below wr.heap.size wr w'→(∃ x0 x1 x2,w'.cell? ⟨w2.heap.size,i * 3,none⟩=some x0∧w'.cell? ⟨w2.heap.size,i * 3+1,none⟩=some x1∧w'.cell? ⟨w2.heap.size,i * 3+2,none⟩=some x2)∧w'.frozen? ⟨w2.heap.size,i * 3,none⟩=false∧w'.frozen? ⟨w2.heap.size,i * 3+1,none⟩=false∧w'.frozen? ⟨w2.heap.size,i * 3+2,none⟩=false):=fun w' hb=>by
     obtain ⟨cur,h1,h2,h3⟩:=(HM.out.then hb).row
     have b2:i * 3+2<cur.size:=by omega
     refine ⟨⟨_,_,_,(cellAt h1 _).trans (Array.getElem?_eq_getElem (by omega)),(cellAt h1 _).trans (Array.getElem?_eq_getElem (by omega)),(cellAt h1 _).trans (Array.getElem?_eq_getElem b2)⟩,?_,?_,?_⟩ <;> simp [World.frozen?,h1]
    have HPU:Hid (∀ w',Below wr.heap.size wr w'→Ms w2 al i (((w'.setCell ⟨w2.heap.size,i * 3,none⟩ (.int .i64 (mostZ (al[i]'hi)).a)).setCell ⟨w2.heap.size,i * 3+1,none⟩ (.int .i64 (mostZ (al[i]'hi)).b)).setCell ⟨w2.heap.size,i * 3+2,none⟩ (.int .i64 (mostZ (al[i]'hi)).c))):=fun w' hb=>(HM.out.then hb).put hi
    generalize mostZ (al[i]'hi)=y at *
    have gr:Below wr.heap.size wr wr:=Below.refl _ _
    have gd:Below wr.heap.size wr wr.drew:=gr.drew
    have hin:i<im:=by omega
    clear cx cy hcl hbw o3 HM HCE HFI
    go_upto_region 6 with (fail)
    go_region_law (go_simp;go_at_call 45;refine (HGR.out _ _ ?_ ?_).mono ?_;assumption;(intro hkk;first | rw [if_neg (by omega)] | (simp;omega));rintro e w5 ⟨rfl,hb5⟩;obtain ⟨⟨x0,x1,x2,t0,t1,t2⟩,k0,k1,k2⟩:=HCL.out w5 hb5;have HS5:=hid_mk (HPU.out w5 hb5);clear hb5)
    all_goals
     obtain ⟨W6,hW6⟩:∃ W6,W6=((w5.setCell ⟨w2.heap.size,i * 3,none⟩ (.int .i64 y.a)).setCell ⟨w2.heap.size,i * 3+1,none⟩ (.int .i64 y.b)).setCell ⟨w2.heap.size,i * 3+2,none⟩ (.int .i64 y.c):=⟨_,rfl⟩
     rw [← hW6] at HS5 ⊢
     clear hW6 t0 t1 t2 k0 k1 k2 HCL HPU HGR cx' cy' gr gd
     go_wp2
     exact ⟨⟨i,_,by omega,rfl,rfl,HS5⟩,by simp only [intOf];omega⟩
theorem ClAt.one {W:World} {g:Nat} {pv cv:Value} {c:Cx} {bc oc bp op:Nat} {qv:Nat→Value} {bq oq:Nat→Nat} {lv:Nat→Nat→Value} (h:CxAt (ClAt W) W pv cv c bc oc bp op qv bq oq lv) (hg:g<W.heap.size) (h0:W.cell? ⟨g,0,none⟩=some pv) (h1:W.cell? ⟨g,1,none⟩=some cv):ClAt W (.slice (some ⟨g,0,none⟩) 1 1) [c]:=by
 have e:∀ i (hi:i < [c].length),[c][i]'hi=c:=fun i hi=>by
  have:i=0:=by simpa using hi
  subst this
  rfl
 refine .mk _ [c] g 0 (fun _=>pv) (fun _=>cv) (fun _=>bc) (fun _=>oc) (fun _=>bp) (fun _=>op) (fun _=>qv) (fun _=>bq) (fun _=>oq) (fun _=>lv) ⟨_,1,rfl,Nat.le_refl _,by decide,fun _=>⟨rfl,hg⟩⟩ (fun i hi=>?_) (fun i hi=>?_) (fun i hi t ht=>?_) (fun i hi=>?_) (fun i hi j hj=>?_) (fun i hi j hj=>?_) (fun i hi j hj t ht=>?_) (fun i hi j hj t ht=>?_)
 all_goals
  have:i=0:=by simpa using hi
  subst this
 ·exact ⟨h0,h1⟩
 ·exact h.cs
 ·exact h.cc t ht
 ·exact h.ps
 ·exact h.pc j hj
 ·exact h.qs j hj
 ·exact h.qc j hj t ht
 ·exact h.ls j hj t ht
theorem of_any {W:World} {pv cv:Value} {c:Cx} {bc oc bp op:Nat} {qv:Nat→Value} {bq oq:Nat→Nat} {lv:Nat→Nat→Value} (h:CxAt (ClAt W) W pv cv c bc oc bp op qv bq oq lv) (hsz:szZ [c]≤1000000) :
  Calls Tryz.prog 8 #[.agg #[pv,cv]] W fun e w'=>e=.returned (mostZ [c]).v∧Below W.heap.size W w':=by
 obtain ⟨pa,pc,rfl,_⟩:=h.ps
 obtain ⟨ca,cc,rfl,_⟩:=h.cs
 generalize c.parts.length=pn at *
 generalize c.combs.length=cn at *
 obtain ⟨W1,hW1⟩:∃ W1,W1=((W.alloc (.cells #[.slice pa pn pc,.slice ca cn cc] 37)).alloc (.cells #[.int .i64 0,.int .i64 0,.int .i64 0] 32)).alloc (.cells #[.slice pa pn pc,.slice ca cn cc] 37):=⟨_,rfl⟩
 have hB1:Below W.heap.size W W1:=by rw [hW1];exact (((Below.refl _ _).alloc (Nat.le_refl _) _).alloc (by simp) _).alloc (by simp;omega) _
 have x2:W1.heap[W.heap.size+2]? = some (.cells #[.slice pa pn pc,.slice ca cn cc] 37 (0,0)):=by
  have e:W.heap.size+2=((W.alloc (.cells #[.slice pa pn pc,.slice ca cn cc] 37)).alloc (.cells #[.int .i64 0,.int .i64 0,.int .i64 0] 32)).heap.size:=by simp
  rw [hW1,e]
  exact heap_alloc_last _ _
 have x1:SB W1 (W.heap.size+1) z3:=by
  have e:W.heap.size+1=(W.alloc (.cells #[.slice pa pn pc,.slice ca cn cc] 37)).heap.size:=by simp
  unfold SB
  rw [hW1,Below.heap_alloc _ _ _ (by simp),e]
  exact heap_alloc_last _ _
 have hcall:=most_any (ClAt.one (h.keep hB1) (Array.getElem?_eq_some_iff.1 x2).1 (cellAt x2 0) (cellAt x2 1)) hsz
 have HFR:Hid (∀ w',Below W1.heap.size W1 w'→SB w' (W.heap.size+1) z3∧Below W.heap.size W w'):=fun w' hb=>⟨(hb.block _ (Array.getElem?_eq_some_iff.1 x1).1).trans x1,hB1.trans (hb.mono hB1.size)⟩
 have HW1:=hid_mk hW1
 unfold S3.v at hcall ⊢
 generalize mostZ [c]=R at *
 clear h hsz hB1 x1 x2 hW1
 go_enter Tryz.func8,Tryz.ntmps8
 go_wp2_with (go_at_call 19;fail)
 rw [← HW1.out]
 refine hcall.mono ?_
 rintro e w2 ⟨rfl,hb⟩
 obtain ⟨hs,hbw⟩:=HFR.out w2 hb
 obtain ⟨⟨k0,k1,k2⟩,f0,f1,f2⟩:=cells3s hs
 have HBW:=hid_mk hbw
 clear hb hs hbw HFR hcall HW1
 go_wp2
 exact bodyPost_ret (by simp [results,Tryz.results8,go_sem,k0,k1,k2]) rfl ⟨rfl,below_set3 HBW.out (by omega) _ _ _⟩
def fitD:Nat→List V→Bool
 | 0,_=>false
 | d+1,l=>decide (l.length≤100000) && l.all fun v=>decide (v.tok.tx.size+v.tok.un.size≤2000000) && fitD d v.kids
theorem fit_of:∀ (d:Nat) (l:List V),fitD d l=true→Fit l
 | 0,_,h=>by cases h
 | d+1,l,h=>by
   unfold fitD at h
   rw [Bool.and_eq_true,List.all_eq_true] at h
   refine .mk l (of_decide_eq_true h.1) (fun v hv=>?_) fun v hv=>?_
   ·have:=h.2 v hv
    rw [Bool.and_eq_true] at this
    exact of_decide_eq_true this.1
   ·have:=h.2 v hv
    rw [Bool.and_eq_true] at this
    exact fit_of d _ this.2
def exA:ByteArray:=⟨#[97,35,98,32,62,32,46,99,58,110,111,116,40,100,41]⟩
def exB:ByteArray:=⟨#[58,110,116,104,45,99,104,105,108,100,40,111,100,100,41]⟩
def exC:ByteArray:=⟨#[97,44,44,98]⟩
def ex1 (k:Int) (s:ByteArray):S6:=⟨k,s,0,⟨#[]⟩,0,0⟩
def exAC:List Cx:=[.mk [[(ex1 1 ⟨#[97]⟩,[]),(ex1 3 ⟨#[98]⟩,[])],[(ex1 2 ⟨#[99]⟩,[]),(ex1 5 ⟨#[]⟩,[.mk [[(ex1 1 ⟨#[100]⟩,[])]] []])]] [2]]
def exBC:List Cx:=[.mk [[(⟨8,⟨#[]⟩,0,⟨#[]⟩,2,1⟩,[])]] []]
theorem exA_len:decide ((toks (runesZ exA)).length≤100000)=true:=by kernel_rfl
theorem exB_len:decide ((toks (runesZ exB)).length≤100000)=true:=by kernel_rfl
theorem exC_len:decide ((toks (runesZ exC)).length≤100000)=true:=by kernel_rfl
theorem exA_fit:fitD 4 (valsS exA)=true:=by kernel_rfl
theorem exB_fit:fitD 4 (valsS exB)=true:=by kernel_rfl
theorem exC_fit:fitD 4 (valsS exC)=true:=by kernel_rfl
theorem exA_cnt:decide (cntL (valsS exA)≤500000)=true:=by kernel_rfl
theorem exB_cnt:decide (cntL (valsS exB)≤500000)=true:=by kernel_rfl
theorem exC_cnt:decide (cntL (valsS exC)≤500000)=true:=by kernel_rfl
theorem exA_parse:parseZ (valsS exA)=some exAC:=by kernel_rfl
theorem exB_parse:parseZ (valsS exB)=some exBC:=by kernel_rfl
theorem exC_parse:parseZ (valsS exC)=none:=by kernel_rfl
theorem exA_most:mostZ exAC=⟨1,1,2⟩:=by kernel_rfl
theorem exA_sz:szZ exAC=2:=by kernel_rfl
theorem text_A (W:World) (hsg:Signs W):Calls Tryz.prog 5 #[.string exA] W (TxPost W (some exAC)):=by
 rw [← exA_parse]
 exact text_any exA W hsg (by decide) (of_decide_eq_true exA_len) (fit_of _ _ exA_fit) (of_decide_eq_true exA_cnt)
theorem text_B (W:World) (hsg:Signs W):Calls Tryz.prog 5 #[.string exB] W (TxPost W (some exBC)):=by
 rw [← exB_parse]
 exact text_any exB W hsg (by decide) (of_decide_eq_true exB_len) (fit_of _ _ exB_fit) (of_decide_eq_true exB_cnt)
theorem text_C (W:World) (hsg:Signs W):Calls Tryz.prog 5 #[.string exC] W (TxPost W none):=by
 rw [← exC_parse]
 exact text_any exC W hsg (by decide) (of_decide_eq_true exC_len) (fit_of _ _ exC_fit) (of_decide_eq_true exC_cnt)
theorem lives_any (W:World) (hsg:Signs W):Calls Tryz.prog 4 #[] W fun e w'=>e=.returned (.bool true)∧Below W.heap.size W w':=by
 have hA:=text_A W hsg
 have HB0:Hid (∀ w,Below W.heap.size W w→Calls Tryz.prog 5 #[.string exB] w (TxPost w (some exBC))):=fun w h=>text_B w (hsg.keep h)
 have HC0:Hid (∀ w,Below W.heap.size W w→Calls Tryz.prog 5 #[.string exC] w (TxPost w none)):=fun w h=>text_C w (hsg.keep h)
 unfold exA at hA
 clear hsg
 go_enter Tryz.func4,Tryz.ntmps4
 go_wp2_with (go_at_call 5;fail)
 refine hA.mono ?_
 rintro e w1 ⟨u,rfl,hcl,hB1⟩
 have hb:=HB0.out w1 hB1
 unfold exB at hb
 obtain ⟨b,off,⟨a,cap,rfl,hc1,hc2,hsa⟩,hat⟩:=hcl.at
 obtain ⟨rfl,hbw⟩:=hsa (by decide)
 obtain ⟨p0,v0,bc0,oc0,bp0,op0,qv0,bq0,oq0,lv0,a0,b0,cx0⟩:=hat 0 (by decide)
 have HOF:Hid (∀ w,Below w1.heap.size w1 w→Calls Tryz.prog 8 #[.agg #[p0,v0]] w fun e w'=>e=.returned (mostZ exAC).v∧Below w.heap.size w w'):=fun w hw=>of_any (c:=exAC[0]) (cx0.keep hw) (by rw [show [exAC[0]]=exAC from rfl,exA_sz];decide)
 obtain ⟨pa0,pc0,hp0,_⟩:=cx0.ps
 obtain ⟨ca0,cc0,hv0,_⟩:=cx0.cs
 have HB1:=hid_mk hB1
 simp only [Nat.zero_mul,Nat.add_zero] at a0 b0
 rw [show exAC.length=1 from rfl] at *
 clear hA hcl hsa hat cx0 hB1 HB0
 go_wp2_with (go_at_call 5;fail)
 refine hb.mono ?_
 rintro e w2 ⟨u2,rfl,hcl2,hB2⟩
 have hB2':Below W.heap.size W w2:=HB1.out.trans (hB2.mono HB1.out.size)
 have hcc:=HC0.out w2 hB2'
 unfold exC at hcc
 have HB2:=hid_mk hB2
 have HB2':=hid_mk hB2'
 have HCL2:=hid_mk hcl2
 obtain ⟨b2,off2,⟨a2,cap2,rfl,hd1,hd2,hsa2⟩,hat2⟩:=hcl2.at
 obtain ⟨rfl,hbw2⟩:=hsa2 (by decide)
 rw [show exBC.length=1 from rfl] at *
 clear hb hcl2 hsa2 hat2 hB2 hB2' HC0
 go_wp2_with (go_at_call 5;fail)
 refine hcc.mono ?_
 rintro e w3 ⟨rfl,hB3⟩
 have hB13:Below w1.heap.size w1 w3:=HB2.out.trans (hB3.mono HB2.out.size)
 have hof:=HOF.out w3 hB13
 rw [exA_most] at hof
 unfold S3.v at hof
 have c0:=(hB13.cell (p:=⟨b,off,none⟩) hbw).trans a0
 have c1:=(hB13.cell (p:=⟨b,off+1,none⟩) hbw).trans b0
 have HB3:=hid_mk hB3
 subst hp0 hv0
 clear hcc hB3 HB1 HB2 hB13 a0 b0 HOF
 go_wp2_with (go_at_call 8;fail)
 refine hof.mono ?_
 rintro e w4 ⟨rfl,hB4⟩
 have hB24:Below w2.heap.size w2 w4:=HB3.out.trans (hB4.mono HB3.out.size)
 have HBW4:Hid (Below W.heap.size W w4):=HB2'.out.trans (hB24.mono HB2'.out.size)
 obtain ⟨b3,off3,⟨a3,cap3,he3,hd3,hd4,hsa3⟩,hat3⟩:=(HCL2.out.keep hB24).at
 obtain ⟨rfl,hbw3⟩:=hsa3 (by decide)
 obtain ⟨p1,v1,_,_,bp1,op1,qv1,bq1,oq1,lv1,a1,b1,cx1⟩:=hat3 0 (by decide)
 obtain ⟨hb3,ho3⟩:b2=b3∧off2=off3:=by
  cases he3
  exact ⟨rfl,rfl⟩
 subst hb3 ho3
 obtain ⟨pa1,pc1,rfl,hpn,hpm,hpa⟩:=cx1.ps
 obtain ⟨rfl,_⟩:=hpa (by decide)
 have q0:=cx1.pc 0 (by decide)
 obtain ⟨qa1,qc1,hq1,hqn,hqm,hqa⟩:=cx1.qs 0 (by decide)
 obtain ⟨rfl,_⟩:=hqa (by decide)
 rw [hq1] at q0
 have r4:=cx1.qc 0 (by decide) 0 (by decide) 4 _ rfl
 have r5:=cx1.qc 0 (by decide) 0 (by decide) 5 _ rfl
 simp only [Nat.zero_mul,Nat.add_zero] at a1 b1 q0 r4 r5
 have hl1:(exBC[0]'(by decide)).parts.length=1:=rfl
 have hl2:((exBC[0]'(by decide)).parts[0]'(by decide)).length=1:=rfl
 have hl4:(((exBC[0]'(by decide)).parts[0]'(by decide))[0]'(by decide)).1.a=2:=rfl
 have hl5:(((exBC[0]'(by decide)).parts[0]'(by decide))[0]'(by decide)).1.b=1:=rfl
 rw [hl1] at a1
 rw [hl2] at q0
 rw [hl4] at r4
 rw [hl5] at r5
 clear hof hB4 hB24 HB2' HB3 HCL2 hat3 hsa3 he3 cx1 hpa hqa hq1 hl1 hl2 hl4 hl5 hpn hpm hqn hqm c0 c1
 go_wp2
 go_ret
 exact ⟨rfl,HBW4.out⟩
def TxQ (L:List Cx) (c:Int) (W:World) (e:Ending) (w':World):Prop:=∃ ua un uc,e=.returned (.tuple #[.slice ua un uc,.int .i64 c])∧ClAt w' (.slice ua un uc) L∧Below W.heap.size W w'
theorem cl_slice {w:World} {u:Value} {l:List Cx} (h:ClAt w u l):∃ ua un uc,u=.slice ua un uc:=by
 obtain ⟨_,_,⟨a,c,e,_⟩,_⟩:=h.at
 exact ⟨_,_,_,e⟩
def codeQ:Option (List Cx)→Int
 | none=>4
 | some _=>0
theorem tx_q {W:World} {R:Option (List Cx)} {e:Ending} {w':World} (h:TxPost W R e w'):TxQ (R.getD []) (codeQ R) W e w':=by
 cases R with
 | none =>
   obtain ⟨rfl,hb⟩:=h
   exact ⟨none,0,0,rfl,cl_nil w',hb⟩
 | some l =>
   obtain ⟨u,rfl,hc,hb⟩:=h
   obtain ⟨ua,un,uc,rfl⟩:=cl_slice hc
   exact ⟨ua,un,uc,rfl,hc,hb⟩
theorem texts_q (s:ByteArray):∃ L c,(∀ W,Signs W→Calls Tryz.prog 5 #[.string s] W (TxQ L c W))∧∀ W,Calls Tryz.prog 6 #[.string s] W (TxQ L c W):=by
 by_cases hs:s.size≤65536
 ·obtain ⟨hn,hf,hc⟩:=vals_fit s hs
  exact ⟨_,_,fun W hsg=>(text_any s W hsg hs hn hf hc).mono fun e w' h=>tx_q h,fun W=>(rtext_any s W hs).mono fun e w' h=>tx_q h⟩
 ·refine ⟨[],11,fun W hsg=>(text_long s W (by omega)).mono ?_,fun W=>(rtext_long s W (by omega)).mono ?_⟩
  ·rintro e w' ⟨rfl,rfl⟩
   exact ⟨none,0,0,rfl,cl_nil _,Below.refl _ _⟩
  ·rintro e w' ⟨rfl,rfl⟩
   exact ⟨none,0,0,rfl,cl_nil _,Below.refl _ _⟩
theorem seltexts_any (s:ByteArray) (W:World) (hsg:Signs W) (hm:s.size≤140737488351232):Calls Tryz.prog 3 #[.string s] W fun e w'=>e=.returned (.bool true)∧Below W.heap.size W w':=by
 by_cases hbig:3000<s.size∧s.size≤65536
 ·obtain ⟨hb1,hb2⟩:=hbig
  have d1:(3000:Int)<(s.size:Int):=by omega
  have d2:(s.size:Int)≤65536:=by omega
  have hli:=lives_any W hsg
  go_enter Tryz.func3,Tryz.ntmps3
  go_wp2_with (go_at_call 4;fail)
  refine hli.mono ?_
  rintro e w1 ⟨rfl,b1⟩
  clear hli
  go_wp2
  go_ret
  exact ⟨rfl,b1⟩
 ·obtain ⟨L,c,h5,h6⟩:=texts_q s
  have h5:=h5 W hsg
  have H6:=hid_mk h6
  have HSG:Hid (∀ w,Below W.heap.size W w→Signs w):=fun w h=>hsg.keep h
  clear h6 hsg
  have hcut:(s.size:Int)≤3000∨((3000:Int)<(s.size:Int)∧(65536:Int)<(s.size:Int)):=by omega
  clear hbig
  rcases hcut with hcut | ⟨hc1,hc2⟩
  all_goals
   go_enter Tryz.func3,Tryz.ntmps3
   go_wp2_with (go_at_call 5;fail)
   refine h5.mono ?_
   rintro e w1 ⟨ua,un,uc,rfl,hcl1,hb1⟩
   have h6:=H6.out w1
   have HB1:=hid_mk hb1
   have HCL1:=hid_mk hcl1
   clear h5 hcl1 hb1
   go_wp2_with (go_at_call 6;fail)
   refine h6.mono ?_
   rintro e w2 ⟨va,vn,vc,rfl,hcl2,hb2⟩
   have HB2:Hid (Below W.heap.size W w2):=HB1.out.trans (hb2.mono HB1.out.size)
   have h7:=rsame_yes (HCL1.out.keep hb2) _ hcl2 w2 (Below.refl _ _)
   clear h6 hcl2 hb2
   go_wp2_with (go_at_call 7;fail)
   refine h7.mono ?_
   rintro e w3 ⟨rfl,hb3⟩
   have HB3:Hid (Below W.heap.size W w3):=HB2.out.trans (hb3.mono HB2.out.size)
   have hli:=lives_any w3 (HSG.out w3 HB3.out)
   have hcc:(c == c)=true:=beq_self_eq_true c
   clear h7 hb3
   go_wp2_with (go_at_call 4;fail)
   refine hli.mono ?_
   rintro e w4 ⟨rfl,hb4⟩
   have HB4:Hid (Below W.heap.size W w4):=HB3.out.trans (hb4.mono HB3.out.size)
   clear hli hb4
   go_wp2
   go_ret
   exact ⟨rfl,HB4.out⟩
end Go.Proofs.YtemlnblifkdenaaGreatDoor.L
namespace Go.Proofs.YtemlnblifkdenaaGreatDoor.L
open Go.ChangeShapes Go.WideShapes Go.ChangeAt Go.RowKit
theorem head_of {a b:Value} (h:[a]=[b]):a=b:=by simpa using h
theorem k3:Tryz.prog.cellsOf 3=1:=by kernel_rfl
theorem k9:Tryz.prog.cellsOf 9=1:=by kernel_rfl
theorem k154:Tryz.prog.cellsOf 154=3:=by kernel_rfl
theorem k155:Tryz.prog.cellsOf 155=45:=by kernel_rfl
theorem chunks:∀ (n:Nat) (a b:List Value),a.length=3 * n→b.length=3 * n→(∀ i,i<n→(a.drop (i * 3)).take 3=(b.drop (i * 3)).take 3)→a=b
 | 0,a,b,ha,hb,_=>by rw [List.length_eq_zero_iff.1 (by omega:a.length=0),List.length_eq_zero_iff.1 (by omega:b.length=0)]
 | n+1,a,b,ha,hb,h=>by
   have h0:=h 0 (by omega)
   rw [Nat.zero_mul,List.drop_zero,List.drop_zero] at h0
   have ih:=chunks n (a.drop 3) (b.drop 3) (by rw [List.length_drop];omega) (by rw [List.length_drop];omega) fun i hi=>by
    have:=h (i+1) (by omega)
    rw [List.drop_drop,List.drop_drop,show 3+i * 3=(i+1) * 3 by omega]
    exact this
   rw [← List.take_append_drop 3 a,← List.take_append_drop 3 b,h0,ih]
section
variable {H:Type} {enc:TypeId×Value→H} {W:World} {base:Nat} {sp:Nat→Bool} {held:Bool}
theorem row3 {m:Nat} {cs:List Value} {a b:Int} {s:List UInt8} {p:List MemPlace} (hf:DataW.trod enc Tryz.prog W base sp held m 154 cs=some (.agg [.lit (.int .i64 a),.lit (.int .i64 b),.lit (.string s)],p)) (hl:cs.length=3):cs=[.int .i64 a,.int .i64 b,.string ⟨s.toArray⟩]:=by
 obtain ⟨y0,y1,y2,rfl⟩:∃ y0 y1 y2,cs=[y0,y1,y2]:=by
  match cs,hl with
  | [a,b,c],_=>exact ⟨a,b,c,rfl⟩
 obtain ⟨xs,n,hmn,hx,hl2,hxl,hel⟩:=DataW.trod_struct Tryz.underlying154 hf
 have h0:=hel 0 _ rfl
 have h1:=hel 1 _ rfl
 have h2:=hel 2 _ rfl
 have hxl3:xs.length=3:=hxl
 obtain ⟨x0,x1,x2,rfl⟩:∃ x0 x1 x2,xs=[x0,x1,x2]:=by
  match xs,hxl3 with
  | [a,b,c],_=>exact ⟨a,b,c,rfl⟩
 obtain ⟨k,a0,b0,_⟩:=DataW.trod_int Tryz.underlying3 h0
 obtain ⟨l,a1,b1,_⟩:=DataW.trod_int Tryz.underlying3 h1
 obtain ⟨nm,a2,b2,_⟩:=DataW.trod_string Tryz.underlying9 h2
 have e0:y0=.int .i64 k:=head_of (by rw [← a0];show _=List.take (Tryz.prog.cellsOf 3) _;rw [k3];rfl)
 have e1:y1=.int .i64 l:=head_of (by rw [← a1];show _=List.take (Tryz.prog.cellsOf 3) _;rw [k3];rfl)
 have e2:y2=.string nm:=head_of (by rw [← a2];show _=List.take (Tryz.prog.cellsOf 9) _;rw [k9];rfl)
 have hx1:=congrArg Prod.fst hx
 simp only [List.map_cons,List.map_nil] at hx1
 subst b0 b1 b2
 simp only [DataW.agg.injEq,List.cons.injEq,DataW.lit.injEq,Lit.int.injEq,Lit.string.injEq,true_and,and_true] at hx1
 obtain ⟨g0,g1,g2⟩:=hx1
 rw [e0,e1,e2,g0,g1,g2]
end
theorem sgn_len:sgnC.length=45:=rfl
theorem signs_of {W:World} {fuel:Nat} {cs:List Value} {p:List MemPlace} (h:DataW.trod (fun _=>()) Tryz.prog W 0 (fun _=>true) false fuel 155 cs=some (Rows.laid_gouache_selector_signs,p)):cs=sgnC:=by
 obtain ⟨xs,m,_,hx,hl,hxl,hel⟩:=DataW.trod_array Tryz.underlying155 h
 rw [k155] at hl
 have hx1:=congrArg Prod.fst hx
 simp only [] at hx1
 have hx2:∀ i (hi:i<xs.length),some ((xs[i]'hi).1)=(xs.map (·.1))[i]?:=fun i hi=>by rw [List.getElem?_map,List.getElem?_eq_getElem hi];rfl
 unfold Rows.laid_gouache_selector_signs at hx1
 injection hx1 with hx1
 refine chunks 15 cs sgnC hl sgn_len fun i hi=>?_
 have h1:=hel i hi
 rw [k154,List.getElem?_eq_getElem (by omega)] at h1
 have h2:=hx2 i (by omega)
 rw [← hx1] at h2
 have hcl:((cs.drop (i * 3)).take 3).length=3:=by rw [List.length_take,List.length_drop,hl];omega
 obtain ⟨⟨xd,xp⟩,hxi⟩:∃ y,y=xs[i]'(by omega):=⟨_,rfl⟩
 rw [← hxi] at h1 h2
 simp only [] at h2
 have hc:i=0∨i=1∨i=2∨i=3∨i=4∨i=5∨i=6∨i=7∨i=8∨i=9∨i=10∨i=11∨i=12∨i=13∨i=14:=by omega
 clear hxi
 rcases hc with rfl | rfl | rfl | rfl | rfl | rfl | rfl | rfl | rfl | rfl | rfl | rfl | rfl | rfl | rfl
 all_goals
  have h3:=Option.some.inj h2
  subst h3
  exact row3 h1 hcl
def laid3:List (String×DataW Unit):=[("unicode/utf8.acceptRanges",Rows.laid_unicode_utf8_acceptRanges),("gouache/selector.signs",Rows.laid_gouache_selector_signs),("unicode/utf8.first",Rows.laid_unicode_utf8_first)]
theorem gsg:Tryz.prog.globalNamed "gouache/selector.signs" = some 1:=by kernel_rfl
theorem tsg:(Tryz.prog.globals[1]?).map (·.type)=some 155:=by kernel_rfl
theorem of_laid {W:World} (h:laidMetH Tryz.prog laid3 W):Signs W:=by
 rw [MakeChecks.laidMetH_plain _ _ _ (by kernel_rfl)] at h
 obtain ⟨ps,⟨g0,t0,cs0,f0,p0,q0,hg0,ht0,hv0,hd0,⟨g1,t1,cs1,f1,p1,q1,hg1,ht1,hv1,hd1,_,_⟩,_⟩,_,_⟩:=h
 obtain rfl:=Option.some.inj (gsg.symm.trans hg1)
 obtain rfl:=Option.some.inj (tsg.symm.trans ht1)
 have e:=signs_of hd1
 intro j v hv
 have:=World.var?_cell gsg hv1 j
 rw [Nat.zero_add]
 refine this.trans ?_
 rw [← e] at hv
 simpa using hv
end Go.Proofs.YtemlnblifkdenaaGreatDoor.L
