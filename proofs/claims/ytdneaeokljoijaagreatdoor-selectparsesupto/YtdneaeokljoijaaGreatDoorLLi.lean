/- The reader of selectors: a list. -/
import Derived.Test.YtdneaeokljoijaaGreatDoorLCh
import Derived.Test.YtdneaeokljoijaaGreatDoorYSameV
import Derived.Deep.LoopGhost
set_option maxRecDepth 100000
set_option maxHeartbeats 8000000
namespace Go.Proofs.YtdneaeokljoijaaGreatDoor.L
open Go.RowKit
theorem kidsOf_bare (l:List S6) (h:∀ s∈l,lstB s.k=false):kidsOf (l.map fun s=>(s,[]))=[]:=by
 induction l with
 | nil=>rfl
 | cons s r ih =>
   have h1:=ih fun x hx=>h x (by simp [hx])
   have h2:=h s (by simp)
   unfold kidsOf at h1 ⊢
   rw [List.map_cons,List.filter_cons_of_neg (by simp [h2])]
   exact h1
theorem Way.oth {W:World} {lo b:Nat} {ks:List (List V)} {vs:List V} {kids:Value} (h:Rk lo W b ks vs W) (hn:∀ us W',Rd lo W b kids us W'→Rk lo W b ks us W') {r:Option (List S6×Nat)} (ok:WayOk vs r) {e:Ending} {w':World} (hw:Way lo W b kids vs r e w'):Oth lo W b ks vs (bare r) e w':=by
 cases r with
 | none=>exact ⟨hw.1,h.then hw.2⟩
 | some x =>
   obtain ⟨l,n⟩:=x
   obtain ⟨v,h1,h2,h3⟩:=hw
   obtain ⟨_,_,_,_,h5⟩:=ok l n rfl
   refine ⟨v,h1,?_,?_⟩
   ·have e1:(l.map fun s=>((s,[]):Sv)).map Prod.fst=l:=by rw [List.map_map];exact List.map_id l
    have e2:(l.map fun s=>((s,[]):Sv)).length=l.length:=by simp
    rw [e1,e2]
    exact h2
   ·rw [kidsOf_bare l h5,List.append_nil]
    exact hn _ _ h3
theorem Oth.up {W0 W:World} {lo b:Nat} {ks:List (List V)} {vs:List V} (h:Rk lo W0 b ks vs W) {r:Option (List Sv×Nat)} {e:Ending} {w':World} (hw:Oth lo W b ks vs r e w'):Oth lo W0 b ks vs r e w':=by
 cases r with
 | none=>exact ⟨hw.1,h.from hw.2⟩
 | some x =>
   obtain ⟨v,h1,h2,h3⟩:=hw
   exact ⟨v,h1,own_from h2 h.keep.size,h.from h3⟩
theorem own_len {W:World} {B:Nat} {T:TypeId} {s n:Nat} {v:Value} {xs:List Value} (h:W.ownsRow B T s v n xs) (hn:0<n):∃ a c,v=.slice (some a) n c:=by
 rcases h.2 with ⟨_,e⟩ | ⟨g,cap,cur,rfl,_⟩
 ·omega
 ·exact ⟨_,_,rfl⟩
def wy (k b:Nat):Value:=.func (.func k) #[.pointer (some ⟨b,0,none⟩)] #[]
theorem way_i0 (b:Nat) (w:World):(Instr.index 138 (.agg #[wy 105 b,wy 106 b,wy 107 b,wy 108 b,wy 109 b,wy 110 b]) (.int .i64 0)).run Tryz.prog w=.ok (wy 105 b) w:=by kernel_rfl
theorem way_i1 (b:Nat) (w:World):(Instr.index 138 (.agg #[wy 105 b,wy 106 b,wy 107 b,wy 108 b,wy 109 b,wy 110 b]) (.int .i64 1)).run Tryz.prog w=.ok (wy 106 b) w:=by kernel_rfl
theorem way_i2 (b:Nat) (w:World):(Instr.index 138 (.agg #[wy 105 b,wy 106 b,wy 107 b,wy 108 b,wy 109 b,wy 110 b]) (.int .i64 2)).run Tryz.prog w=.ok (wy 107 b) w:=by kernel_rfl
theorem way_i3 (b:Nat) (w:World):(Instr.index 138 (.agg #[wy 105 b,wy 106 b,wy 107 b,wy 108 b,wy 109 b,wy 110 b]) (.int .i64 3)).run Tryz.prog w=.ok (wy 108 b) w:=by kernel_rfl
theorem way_i4 (b:Nat) (w:World):(Instr.index 138 (.agg #[wy 105 b,wy 106 b,wy 107 b,wy 108 b,wy 109 b,wy 110 b]) (.int .i64 4)).run Tryz.prog w=.ok (wy 109 b) w:=by kernel_rfl
theorem way_i5 (b:Nat) (w:World):(Instr.index 138 (.agg #[wy 105 b,wy 106 b,wy 107 b,wy 108 b,wy 109 b,wy 110 b]) (.int .i64 5)).run Tryz.prog w=.ok (wy 110 b) w:=by kernel_rfl
theorem other_any {W:World} {lo b:Nat} {ks:List (List V)} {vs:List V} (h:Rk lo W b ks vs W) (hsg:Signs W) (hb:sgB<b) (hf:Fit vs) (hkn:ks.length≤1000000) :
  Calls Tryz.prog 82 #[.pointer (some ⟨b,0,none⟩)] W (Oth lo W b ks vs (otherR vs)):=by
 have HG:Hid (∀ w,Rk lo W b ks vs w→Signs w):=fun w hk=>hsg.keepT hk.keep hb
 have H0:Hid (∀ w,Rk lo W b ks vs w→Calls Tryz.prog 105 #[.pointer (some ⟨b,0,none⟩)] w (Oth lo w b ks vs (bare (idR vs)))):=fun w hk=>by
  obtain ⟨kids,hrd,hn⟩:=hk.self.open
  exact (id_any hrd).mono fun e w' q=>Way.oth hk.self hn (idR_ok vs) q
 have K0:=bare_ok (idR_ok vs)
 have H1:Hid (∀ w,Rk lo W b ks vs w→Calls Tryz.prog 106 #[.pointer (some ⟨b,0,none⟩)] w (Oth lo w b ks vs (bare (classR vs)))):=fun w hk=>by
  obtain ⟨kids,hrd,hn⟩:=hk.self.open
  exact (class_any hrd).mono fun e w' q=>Way.oth hk.self hn (classR_ok vs) q
 have K1:=bare_ok (classR_ok vs)
 have H2:Hid (∀ w,Rk lo W b ks vs w→Calls Tryz.prog 107 #[.pointer (some ⟨b,0,none⟩)] w (Oth lo w b ks vs (bare (attrR vs)))):=fun w hk=>by
  obtain ⟨kids,hrd,hn⟩:=hk.self.open
  exact (attr_any hrd (HG.out w hk) hf).mono fun e w' q=>Way.oth hk.self hn (attrR_ok vs) q
 have K2:=bare_ok (attrR_ok vs)
 have H3:Hid (∀ w,Rk lo W b ks vs w→Calls Tryz.prog 108 #[.pointer (some ⟨b,0,none⟩)] w (Oth lo w b ks vs (bare (stateR vs)))):=fun w hk=>by
  obtain ⟨kids,hrd,hn⟩:=hk.self.open
  exact (state_any hrd (HG.out w hk) hf.tx').mono fun e w' q=>Way.oth hk.self hn (stateR_ok vs) q
 have K3:=bare_ok (stateR_ok vs)
 have H4:Hid (∀ w,Rk lo W b ks vs w→Calls Tryz.prog 109 #[.pointer (some ⟨b,0,none⟩)] w (Oth lo w b ks vs (bare (placeR vs)))):=fun w hk=>by
  obtain ⟨kids,hrd,hn⟩:=hk.self.open
  exact (place_any hrd (HG.out w hk) hf).mono fun e w' q=>Way.oth hk.self hn (placeR_ok vs) q
 have K4:=bare_ok (placeR_ok vs)
 have H5:Hid (∀ w,Rk lo W b ks vs w→Calls Tryz.prog 110 #[.pointer (some ⟨b,0,none⟩)] w (Oth lo w b ks vs (choiceR vs))):=fun w hk=>choice_any hk.self (HG.out w hk) hf hkn
 have K5:=choiceR_ok vs
 have HE:Hid (otherR vs=orR (bare (idR vs)) (orR (bare (classR vs)) (orR (bare (attrR vs)) (orR (bare (stateR vs)) (orR (bare (placeR vs)) (choiceR vs)))))):=rfl
 generalize otherR vs=R at *
 generalize bare (idR vs)=r0 at *
 generalize bare (classR vs)=r1 at *
 generalize bare (attrR vs)=r2 at *
 generalize bare (stateR vs)=r3 at *
 generalize bare (placeR vs)=r4 at *
 generalize choiceR vs=r5 at *
 have HK:=hid_mk h
 have HO0:=hid_mk K0
 have HO1:=hid_mk K1
 have HO2:=hid_mk K2
 have HO3:=hid_mk K3
 have HO4:=hid_mk K4
 have HO5:=hid_mk K5
 clear h hsg hf HG K0 K1 K2 K3 K4 K5
 go_enter Tryz.func82,Tryz.ntmps82
 go_wp2_with (fail)
 refine wp_loop_rounds 7 ?_
 have hc:=H0.out W HK.out
 clear H0
 have hx:=way_i0 b
 unfold wy at hx
 rw [rounds_succ]
 go_wp2_with (go_at_call 105;fail)
 refine hc.mono ?_
 rintro e w1 hO
 clear hc hx
 cases r0 with
 | some x =>
   obtain ⟨l,n⟩:=x
   have HR:Hid (R=some (l,n)):=HE.out
   obtain ⟨hne,_,_,_,_⟩:=HO0.out l n rfl
   obtain ⟨v,rfl,ho,hr⟩:=hO
   have hpos:0<l.length:=List.length_pos_iff.2 hne
   have HZ:Hid (Oth lo W b ks vs R (.returned v) w1):=by
    rw [Hid,HR.out]
    exact Oth.up HK.out (r:=some (l,n)) ⟨v,rfl,ho,hr⟩
   obtain ⟨a,c,rfl⟩:=own_len ho hpos
   have hd1:decide ((0:Int)<(l.length:Int))=true:=decide_eq_true (by omega)
   have hd2:(0:Int)<(l.length:Int):=by omega
   clear ho hr HE HR hne H1 H2 H3 H4 H5
   go_wp2
   go_ret
   exact HZ.out
 | none =>
 obtain ⟨rfl,hK1⟩:=hO
 have HK1:=hid_mk (HK.out.from hK1)
 clear hK1  HO0
 go_wp2
 have hc:=H1.out w1 HK1.out
 clear H1
 have hx:=way_i1 b
 unfold wy at hx
 rw [rounds_succ]
 go_wp2_with (go_at_call 106;fail)
 refine hc.mono ?_
 rintro e w2 hO
 clear hc hx
 cases r1 with
 | some x =>
   obtain ⟨l,n⟩:=x
   have HR:Hid (R=some (l,n)):=HE.out
   obtain ⟨hne,_,_,_,_⟩:=HO1.out l n rfl
   obtain ⟨v,rfl,ho,hr⟩:=hO
   have hpos:0<l.length:=List.length_pos_iff.2 hne
   have HZ:Hid (Oth lo W b ks vs R (.returned v) w2):=by
    rw [Hid,HR.out]
    exact Oth.up HK1.out (r:=some (l,n)) ⟨v,rfl,ho,hr⟩
   obtain ⟨a,c,rfl⟩:=own_len ho hpos
   have hd1:decide ((0:Int)<(l.length:Int))=true:=decide_eq_true (by omega)
   have hd2:(0:Int)<(l.length:Int):=by omega
   clear ho hr HE HR hne H2 H3 H4 H5
   go_wp2
   go_ret
   exact HZ.out
 | none =>
 obtain ⟨rfl,hK2⟩:=hO
 have HK2:=hid_mk (HK1.out.from hK2)
 clear hK2 HK1 HO1
 go_wp2
 have hc:=H2.out w2 HK2.out
 clear H2
 have hx:=way_i2 b
 unfold wy at hx
 rw [rounds_succ]
 go_wp2_with (go_at_call 107;fail)
 refine hc.mono ?_
 rintro e w3 hO
 clear hc hx
 cases r2 with
 | some x =>
   obtain ⟨l,n⟩:=x
   have HR:Hid (R=some (l,n)):=HE.out
   obtain ⟨hne,_,_,_,_⟩:=HO2.out l n rfl
   obtain ⟨v,rfl,ho,hr⟩:=hO
   have hpos:0<l.length:=List.length_pos_iff.2 hne
   have HZ:Hid (Oth lo W b ks vs R (.returned v) w3):=by
    rw [Hid,HR.out]
    exact Oth.up HK2.out (r:=some (l,n)) ⟨v,rfl,ho,hr⟩
   obtain ⟨a,c,rfl⟩:=own_len ho hpos
   have hd1:decide ((0:Int)<(l.length:Int))=true:=decide_eq_true (by omega)
   have hd2:(0:Int)<(l.length:Int):=by omega
   clear ho hr HE HR hne H3 H4 H5
   go_wp2
   go_ret
   exact HZ.out
 | none =>
 obtain ⟨rfl,hK3⟩:=hO
 have HK3:=hid_mk (HK2.out.from hK3)
 clear hK3 HK2 HO2
 go_wp2
 have hc:=H3.out w3 HK3.out
 clear H3
 have hx:=way_i3 b
 unfold wy at hx
 rw [rounds_succ]
 go_wp2_with (go_at_call 108;fail)
 refine hc.mono ?_
 rintro e w4 hO
 clear hc hx
 cases r3 with
 | some x =>
   obtain ⟨l,n⟩:=x
   have HR:Hid (R=some (l,n)):=HE.out
   obtain ⟨hne,_,_,_,_⟩:=HO3.out l n rfl
   obtain ⟨v,rfl,ho,hr⟩:=hO
   have hpos:0<l.length:=List.length_pos_iff.2 hne
   have HZ:Hid (Oth lo W b ks vs R (.returned v) w4):=by
    rw [Hid,HR.out]
    exact Oth.up HK3.out (r:=some (l,n)) ⟨v,rfl,ho,hr⟩
   obtain ⟨a,c,rfl⟩:=own_len ho hpos
   have hd1:decide ((0:Int)<(l.length:Int))=true:=decide_eq_true (by omega)
   have hd2:(0:Int)<(l.length:Int):=by omega
   clear ho hr HE HR hne H4 H5
   go_wp2
   go_ret
   exact HZ.out
 | none =>
 obtain ⟨rfl,hK4⟩:=hO
 have HK4:=hid_mk (HK3.out.from hK4)
 clear hK4 HK3 HO3
 go_wp2
 have hc:=H4.out w4 HK4.out
 clear H4
 have hx:=way_i4 b
 unfold wy at hx
 rw [rounds_succ]
 go_wp2_with (go_at_call 109;fail)
 refine hc.mono ?_
 rintro e w5 hO
 clear hc hx
 cases r4 with
 | some x =>
   obtain ⟨l,n⟩:=x
   have HR:Hid (R=some (l,n)):=HE.out
   obtain ⟨hne,_,_,_,_⟩:=HO4.out l n rfl
   obtain ⟨v,rfl,ho,hr⟩:=hO
   have hpos:0<l.length:=List.length_pos_iff.2 hne
   have HZ:Hid (Oth lo W b ks vs R (.returned v) w5):=by
    rw [Hid,HR.out]
    exact Oth.up HK4.out (r:=some (l,n)) ⟨v,rfl,ho,hr⟩
   obtain ⟨a,c,rfl⟩:=own_len ho hpos
   have hd1:decide ((0:Int)<(l.length:Int))=true:=decide_eq_true (by omega)
   have hd2:(0:Int)<(l.length:Int):=by omega
   clear ho hr HE HR hne H5
   go_wp2
   go_ret
   exact HZ.out
 | none =>
 obtain ⟨rfl,hK5⟩:=hO
 have HK5:=hid_mk (HK4.out.from hK5)
 clear hK5 HK4 HO4
 go_wp2
 have hc:=H5.out w5 HK5.out
 clear H5
 have hx:=way_i5 b
 unfold wy at hx
 rw [rounds_succ]
 go_wp2_with (go_at_call 110;fail)
 refine hc.mono ?_
 rintro e w6 hO
 clear hc hx
 cases r5 with
 | some x =>
   obtain ⟨l,n⟩:=x
   have HR:Hid (R=some (l,n)):=HE.out
   obtain ⟨hne,_,_,_,_⟩:=HO5.out l n rfl
   obtain ⟨v,rfl,ho,hr⟩:=hO
   have hpos:0<l.length:=List.length_pos_iff.2 hne
   have HZ:Hid (Oth lo W b ks vs R (.returned v) w6):=by
    rw [Hid,HR.out]
    exact Oth.up HK5.out (r:=some (l,n)) ⟨v,rfl,ho,hr⟩
   obtain ⟨a,c,rfl⟩:=own_len ho hpos
   have hd1:decide ((0:Int)<(l.length:Int))=true:=decide_eq_true (by omega)
   have hd2:(0:Int)<(l.length:Int):=by omega
   clear ho hr HE HR hne
   go_wp2
   go_ret
   exact HZ.out
 | none =>
 obtain ⟨rfl,hK6⟩:=hO
 have HK6:=hid_mk (HK5.out.from hK6)
 clear hK6 HK5 HO5
 go_wp2
 rw [rounds_succ]
 go_wp2
 go_ret
 rw [show R=none from HE.out]
 exact ⟨rfl,HK6.out⟩
def blk (v:Value):Nat:=v.ownBlock.getD 0
theorem own_stayT {W W':World} {B:Nat} {T:TypeId} {s n:Nat} {v:Value} {xs:List Value} (ho:W.ownsRow B T s v n xs) (h:∀ g c,W.heap[g]? = some (.cells c T (0,0))→B≤g→W'.heap[g]? = W.heap[g]?):W'.ownsRow B T s v n xs:=by
 refine ⟨ho.1,ho.2.imp id ?_⟩
 rintro ⟨g,cap,cur,rfl,h1,h2,h3⟩
 exact ⟨g,cap,cur,rfl,h1,(h g cur h2 h1).trans h2,h3⟩
def PtAt (B:Nat) (W:World) (v:Value) (p:List Sv):Prop:=W.ownsRow B 46 7 v p.length (ssC (p.map Prod.fst))
theorem PtAt.blk {B:Nat} {W:World} {v:Value} {p:List Sv} (h:PtAt B W v p) (hp:p≠[]):B≤blk v∧L.blk v<W.heap.size∧∃ cap cur,v=.slice (some ⟨L.blk v,0,none⟩) p.length cap∧p.length≤cap∧cap≤9223372036854775807∧W.heap[L.blk v]? = some (.cells cur 46 (0,0))∧cur.size=cap * 7∧cur.toList.take (p.length * 7)=ssC (p.map Prod.fst):=by
 rcases h.2 with ⟨rfl,e⟩ | ⟨g,cap,cur,rfl,h1,h2,h3,h4,h5,h6⟩
 ·exact absurd (List.length_eq_zero_iff.1 e) hp
 ·exact ⟨h1,(Array.getElem?_eq_some_iff.1 h2).1,cap,cur,rfl,h3,h4,h2,h5,h6⟩
structure CvAt (B:Nat) (W:World) (pv cv:Value) (c:Cv) (qs:List Value):Prop where
 ps:W.ownsRow B 47 1 pv c.1.length qs
 pt:∀ j (h:j<c.1.length),∃ q,qs[j]? = some q∧PtAt B W q (c.1[j]'h)
 cs:W.ownsRow B 3 1 cv c.2.length (c.2.map (Value.int .i64))
 up:qs.Pairwise fun x y=>blk x<blk y
theorem CvAt.stayT {B:Nat} {W W':World} {pv cv:Value} {c:Cv} {qs:List Value} (h:CvAt B W pv cv c qs) (hs:∀ T g cur,(T=46∨T=47∨T=3)→W.heap[g]? = some (.cells cur T (0,0))→B≤g→W'.heap[g]? = W.heap[g]?):CvAt B W' pv cv c qs :=
 ⟨own_stayT h.ps fun g c=>hs 47 g c (.inr (.inl rfl)),fun j hj=>(h.pt j hj).imp fun _ ⟨e,q⟩=>⟨e,own_stayT q fun g c=>hs 46 g c (.inl rfl)⟩,own_stayT h.cs fun g c=>hs 3 g c (.inr (.inr rfl)),h.up⟩
theorem CvAt.keepT {b B:Nat} {W W':World} {pv cv:Value} {c:Cv} {qs:List Value} (h:CvAt B W pv cv c qs) (hk:KeepT b W W') (hb:b<B):CvAt B W' pv cv c qs :=
 h.stayT fun _ g _ hT hg _=>hk.typ g (Array.getElem?_eq_some_iff.1 hg).1 (by omega) (.inr fun c fr e=>by rw [hg] at e;cases e;rcases hT with e | e | e <;> cases e)
theorem CvAt.keep {B:Nat} {W W':World} {pv cv:Value} {c:Cv} {qs:List Value} (h:CvAt B W pv cv c qs) (hk:Below W.heap.size W W'):CvAt B W' pv cv c qs :=
 h.stayT fun _ g _ _ hg _=>hk.block g (Array.getElem?_eq_some_iff.1 hg).1
theorem CvAt.from {B B':Nat} {W:World} {pv cv:Value} {c:Cv} {qs:List Value} (h:CvAt B W pv cv c qs) (hB:B'≤B):CvAt B' W pv cv c qs :=
 ⟨own_from h.ps hB,fun j hj=>(h.pt j hj).imp fun _ ⟨e,q⟩=>⟨e,own_from q hB⟩,own_from h.cs hB,h.up⟩
structure LvAt (B:Nat) (W:World) (v:Value) (l:List Cv) (xs:List (Value×Value×List Value)):Prop where
 row:W.ownsRow B 44 2 v l.length (xs.flatMap fun x=>[x.1,x.2.1])
 len:xs.length=l.length
 cx:∀ i (h:i<l.length) (h':i<xs.length),CvAt B W (xs[i]'h').1 (xs[i]'h').2.1 (l[i]'h) (xs[i]'h').2.2
 up:(xs.flatMap fun x=>x.2.2).Pairwise fun x y=>blk x<blk y
theorem LvAt.stayT {B:Nat} {W W':World} {v:Value} {l:List Cv} {xs:List (Value×Value×List Value)} (h:LvAt B W v l xs) (hs:∀ T g cur,(T=46∨T=47∨T=3∨T=44)→W.heap[g]? = some (.cells cur T (0,0))→B≤g→W'.heap[g]? = W.heap[g]?):LvAt B W' v l xs :=
 ⟨own_stayT h.row fun g c=>hs 44 g c (.inr (.inr (.inr rfl))),h.len,fun i hi hj=>(h.cx i hi hj).stayT fun T g c hT=>hs T g c (by rcases hT with e | e | e <;> simp [e]),h.up⟩
theorem LvAt.keepT {b B:Nat} {W W':World} {v:Value} {l:List Cv} {xs:List (Value×Value×List Value)} (h:LvAt B W v l xs) (hk:KeepT b W W') (hb:b<B):LvAt B W' v l xs :=
 h.stayT fun _ g _ hT hg _=>hk.typ g (Array.getElem?_eq_some_iff.1 hg).1 (by omega) (.inr fun c fr e=>by rw [hg] at e;cases e;rcases hT with e | e | e | e <;> cases e)
theorem LvAt.keep {B:Nat} {W W':World} {v:Value} {l:List Cv} {xs:List (Value×Value×List Value)} (h:LvAt B W v l xs) (hk:Below W.heap.size W W'):LvAt B W' v l xs :=
 h.stayT fun _ g _ _ hg _=>hk.block g (Array.getElem?_eq_some_iff.1 hg).1
def OthSub (vs:List V) (r:Option (List Sv×Nat)):Prop:=∀ l n,r=some (l,n)→List.Sublist (kidsOf l++(vs.drop n).map V.kids) (vs.map V.kids)
theorem drop_sub (vs:List V) (n:Nat):List.Sublist ((vs.drop n).map V.kids) (vs.map V.kids):=(List.drop_sublist n vs).map _
theorem bare_sub {vs:List V} {r:Option (List S6×Nat)} (h:WayOk vs r):OthSub vs (bare r):=by
 intro l n e
 cases r with
 | none=>cases e
 | some x =>
   obtain ⟨l',n'⟩:=x
   obtain ⟨_,_,_,_,h5⟩:=h l' n' rfl
   cases e
   rw [kidsOf_bare l' h5,List.nil_append]
   exact drop_sub vs _
theorem choice_sub (vs:List V):OthSub vs (choiceR vs):=by
 intro l n e
 unfold choiceR at e
 split at e
 ·rename_i u hu
  split at e
  ·rename_i hc
   cases e
   match vs,hu with
   | a::u'::r,hu =>
     cases hu
     have:kidsOf [((⟨fnR (a::u::r),⟨#[]⟩,0,⟨#[]⟩,0,0⟩:S6),u.kids)]=[u.kids]:=by simp [kidsOf,hc]
     rw [this]
     simp
  ·cases e
 ·cases e
theorem orR_sub {vs:List V} {a b:Option (List Sv×Nat)} (ha:OthSub vs a) (hb:OthSub vs b):OthSub vs (orR a b):=by
 unfold orR
 split
 ·exact ha
 ·exact hb
theorem otherR_sub (vs:List V):OthSub vs (otherR vs) :=
 orR_sub (bare_sub (idR_ok vs)) (orR_sub (bare_sub (classR_ok vs)) (orR_sub (bare_sub (attrR_ok vs)) (orR_sub (bare_sub (stateR_ok vs)) (orR_sub (bare_sub (placeR_ok vs)) (choice_sub vs)))))
theorem othZ_sub:∀ (m:Nat) (vs:List V),vs.length≤m→List.Sublist (kidsOf (othZ vs).1++(othZ vs).2.map V.kids) (vs.map V.kids)
 | m,vs,hm=>by
   cases ho:otherR vs with
   | none =>
     rw [othZ_none ho]
     exact List.Sublist.refl _
   | some x =>
     obtain ⟨l,n⟩:=x
     obtain ⟨_,_,h1,h2,_⟩:=otherR_ok vs l n ho
     have hl:(vs.drop n).length=vs.length - n:=List.length_drop
     cases m with
     | zero=>omega
     | succ m =>
       have ih:=othZ_sub m (vs.drop n) (by omega)
       rw [othZ_some ho]
       simp only []
       rw [kidsOf_append,List.append_assoc]
       exact ((List.Sublist.refl _).append ih).trans (otherR_sub vs l n ho)
theorem compR_sub (vs:List V):List.Sublist (kidsOf (compR vs).1++(compR vs).2.map V.kids) (vs.map V.kids):=by
 unfold compR
 split
 ·exact othZ_sub _ vs (Nat.le_refl _)
 ·rename_i l n h
  simp only []
  rw [kidsOf_append,List.append_assoc]
  exact ((List.Sublist.refl _).append (othZ_sub _ (vs.drop n) (Nat.le_refl _))).trans (bare_sub (tagR_ok vs) l n h)
theorem spc_sub (vs:List V):List.Sublist ((spc vs).map V.kids) (vs.map V.kids):=(List.dropWhile_suffix _).sublist.map _
theorem combR_sub (vs:List V):List.Sublist ((combR vs).2.map V.kids) (vs.map V.kids):=by
 unfold combR
 split
 ·exact (spc_sub _).trans ((drop_sub _ 1).trans (spc_sub vs))
 ·exact spc_sub vs
def kidsC (c:Cv):List (List V):=c.1.flatMap kidsOf
def kidsL (l:List Cv):List (List V):=l.flatMap kidsC
theorem cxZ_sub:∀ (m:Nat) (vs:List V),vs.length≤m→∀ c r,cxZ vs=some (c,r)→List.Sublist (kidsC c++r.map V.kids) (vs.map V.kids)
 | m,vs,hm,c,r,h=>by
   have hs:=compR_sub vs
   have hc:=compR_ok vs
   rw [cxZ_step] at h
   unfold cxStep at h
   split at h
   ·cases h
   ·rename_i p ps q hcr
    rw [hcr] at hs hc
    have h1:=hc.2.1 (by simp)
    have k1:=(combR_ok q).1
    simp only [] at h1 hs
    split at h
    ·cases h
     rw [show kidsC ([p::ps],[])=kidsOf (p::ps) by simp [kidsC]]
     exact ((List.Sublist.refl _).append (combR_sub q)).trans hs
    ·cases hx:cxZ (combR q).2 with
     | none=>rw [hx] at h;cases h
     | some x =>
       obtain ⟨⟨qs,js⟩,r'⟩:=x
       rw [hx] at h
       cases h
       cases m with
       | zero=>omega
       | succ m =>
         have ih:=cxZ_sub m (combR q).2 (by omega) _ _ hx
         rw [show kidsC ((p::ps)::qs,(combR q).1::js)=kidsOf (p::ps)++kidsC (qs,js) by simp [kidsC],List.append_assoc]
         exact ((List.Sublist.refl _).append (ih.trans (combR_sub q))).trans hs
theorem lsZ_sub:∀ (m:Nat) (vs:List V),vs.length≤m→∀ l,lsZ vs=some l→List.Sublist (kidsL l) (vs.map V.kids)
 | m,vs,hm,l,h=>by
   rw [lsZ_step] at h
   unfold lsStep at h
   cases hc:cxZ (spc vs) with
   | none=>rw [hc] at h;cases h
   | some x =>
     obtain ⟨c,r⟩:=x
     rw [hc] at h
     obtain ⟨h1,_,_⟩:=cxZ_ok _ _ (Nat.le_refl _) _ _ hc
     have k1:=(spc_ok vs).1
     have hs:=(cxZ_sub _ _ (Nat.le_refl _) _ _ hc).trans (spc_sub vs)
     simp only [] at h
     split at h
     ·cases h
      rw [show kidsL [c]=kidsC c by simp [kidsL]]
      exact (List.sublist_append_left _ _).trans hs
     ·split at h
      ·cases hx:lsZ (r.drop 1) with
       | none=>rw [hx] at h;cases h
       | some l' =>
         rw [hx] at h
         cases h
         cases m with
         | zero=>omega
         | succ m =>
           have ih:=lsZ_sub m (r.drop 1) (by rw [List.length_drop];omega) _ hx
           rw [show kidsL (c::l')=kidsC c++kidsL l' by simp [kidsL]]
           exact ((List.Sublist.refl _).append (ih.trans (drop_sub r 1))).trans hs
      ·cases h
theorem Rk.grow {W0 w1 w2:World} {lo b:Nat} {ks:List (List V)} {vs:List V} {row:Option Nat} (h:Rk lo W0 b ks vs w1) (hg:w1.grownBy w2 row) (hb:b<W0.heap.size) (hr:∀ g,row=some g→W0.heap.size≤g∧∀ c fr,w1.heap[g]?≠some (.cells c 22 fr)):Rk lo W0 b ks vs w2:=by
 obtain ⟨kids,cs,⟨⟨rest,h1,h2⟩,_⟩,h3,h4⟩:=h.rd
 have hlow:∀ j,j<W0.heap.size→w2.heap[j]? = w1.heap[j]?:=fun j hj=>hg.block j (Nat.lt_of_lt_of_le hj h.keep.size) fun e=>by
  have:=(hr j e.symm).1
  omega
 have hst:∀ {v l},VsAt (·<min lo b) w1 v l→VsAt (·<min lo b) w2 v l:=fun q=>q.stay hg.size fun j hj _=>hlow j (by omega)
 refine ⟨⟨kids,cs,⟨⟨rest,(hlow b hb).trans h1,hst h2⟩,KeepX.of (Below.refl _ _)⟩,?_,fun i hi=>(h4 i hi).imp fun v q=>⟨q.1,hst q.2⟩⟩,⟨hg.os.trans h.keep.os,hg.tape.trans h.keep.tape,hg.output.trans h.keep.output,Nat.le_trans h.keep.size hg.size,fun j hj hn hc=>(hlow j hj).trans (h.keep.typ j hj hn hc)⟩⟩
 exact own_stayT h3 fun g c hgc _=>hg.block g (Array.getElem?_eq_some_iff.1 hgc).1 fun e=>(hr g e.symm).2 _ _ hgc
theorem own_ty {w:World} {B n s:Nat} {T:TypeId} {v:Value} {xs:List Value} (h:w.ownsRow B T s v n xs) (hT:T≠22):∀ g,v.ownBlock=some g→B≤g∧∀ c fr,w.heap[g]?≠some (.cells c 22 fr):=fun g e=>by
 rcases h.2 with ⟨rfl,_⟩ | ⟨g',cap,cur,rfl,h1,h2,_⟩
 ·cases e
 ·cases e
  refine ⟨h1,fun c fr q=>?_⟩
  rw [show w.heap[g']? = _ from h2] at q
  cases q
  exact hT rfl
theorem own_news {W:World} {B:Nat} {T:TypeId} {s n c:Nat} {ad:Addr} {xs:List Value} (h:W.ownsRow B T s (.slice (some ad) n c) n xs):∀ j u,xs[j]? = some u→W.cell? (ad.add j)=some u:=fun j u hu=>by
 rcases h.2 with ⟨e,_⟩ | ⟨g,cap,cur,e,h1,h2,h3,h4,h5,h6⟩
 ·cases e
 ·cases e
  have hlt:j<n * s:=by
   have:=(List.getElem?_eq_some_iff.1 hu).1
   have:=h.1
   omega
  rw [← h6,List.getElem?_take_of_lt hlt] at hu
  rw [Addr.add_mid,Nat.zero_add]
  simp only [World.cell?,h2]
  simpa using hu
theorem fsts_append (a b:List Sv):ssC ((a++b).map Prod.fst)=ssC (a.map Prod.fst)++ssC (b.map Prod.fst):=by simp [ssC]
def Cmp (lo:Nat) (W:World) (b:Nat) (ks:List (List V)) (R:List Sv×List V) (e:Ending) (w':World):Prop:=∃ v,e=.returned v∧PtAt W.heap.size w' v R.1∧Rk lo W b (ks++kidsOf R.1) R.2 w'
def CoGo (lo:Nat) (W:World) (b:Nat) (ks:List (List V)) (vs:List V) (R:List Sv×List V) (k:Nat) (v:Value) (w:World):Prop :=
 ∃ acc us,us.length<k∧PtAt W.heap.size w v acc∧Rk lo W b (ks++kidsOf acc) us w∧(acc++(othZ us).1,(othZ us).2)=R∧(∀ u∈us,u∈vs)∧acc.length+10 * us.length≤10 * vs.length∧List.Sublist (kidsOf acc++us.map V.kids) (vs.map V.kids)
theorem own_sl {W:World} {B:Nat} {T:TypeId} {s n:Nat} {v:Value} {xs:List Value} (h:W.ownsRow B T s v n xs):∃ a m c,v=.slice a m c:=by
 rcases h.2 with ⟨rfl,_⟩ | ⟨g,cap,cur,rfl,_⟩
 ·exact ⟨_,_,_,rfl⟩
 ·exact ⟨_,_,_,rfl⟩
theorem CoGo.sl {W:World} {lo b:Nat} {ks:List (List V)} {vs:List V} {R:List Sv×List V} {k:Nat} {v:Value} {w:World} (h:CoGo lo W b ks vs R k v w):∃ a m c,v=.slice a m c:=by
 obtain ⟨acc,us,_,h1,_⟩:=h
 exact own_sl h1
theorem pt_nil (B:Nat) (W:World):PtAt B W (.slice none 0 0) []:=⟨rfl,.inl ⟨rfl,rfl⟩⟩
theorem compound_any {W:World} {lo b:Nat} {ks:List (List V)} {vs:List V} (h:Rk lo W b ks vs W) (hsg:Signs W) (hb:sgB<b) (hf:Fit vs) (hkn:ks.length+vs.length≤1000000) :
  Calls Tryz.prog 50 #[.pointer (some ⟨b,0,none⟩)] W (Cmp lo W b ks (compR vs)):=by
 obtain ⟨i0,z0,hi,hz0,hz1,hz2,hz3⟩:=info51
 have hbl:b<W.heap.size:=h.lt
 have hvl:=hf.len
 have HG:Hid (∀ ks' us w,Rk lo W b ks' us w→Signs w):=fun ks' us w hk=>hsg.keepT hk.keep hb
 have HT:Hid (Calls Tryz.prog 81 #[.pointer (some ⟨b,0,none⟩)] W fun e w'=>∃ v,e=.returned v∧CoGo lo W b ks vs (compR vs) (vs.length+1) v w'):=by
  obtain ⟨kids,hrd,hn⟩:=h.open
  refine (tag_any hrd hf.tx').mono fun e w' q=>?_
  have q2:=Way.oth h hn (tagR_ok vs) q
  have ok:=bare_ok (tagR_ok vs)
  have sub:=bare_sub (tagR_ok vs)
  have hc:compR vs=match bare (tagR vs) with | none=>othZ vs | some (l,n)=>(l++(othZ (vs.drop n)).1,(othZ (vs.drop n)).2):=rfl
  generalize bare (tagR vs)=r at *
  cases r with
  | none =>
    obtain ⟨rfl,hk⟩:=q2
    exact ⟨_,rfl,[],vs,by omega,pt_nil _ _,by simpa [kidsOf] using hk,by rw [hc];rfl,fun u hu=>hu,by simp,by simp [kidsOf]⟩
  | some x =>
    obtain ⟨l,n⟩:=x
    obtain ⟨v,rfl,ho,hk⟩:=q2
    obtain ⟨_,h2,h3,h4,_⟩:=ok l n rfl
    have hl:(vs.drop n).length=vs.length - n:=List.length_drop
    exact ⟨v,rfl,l,vs.drop n,by omega,ho,hk,hc.symm,fun u hu=>List.mem_of_mem_drop hu,by omega,sub l n rfl⟩
 have HO:Hid (∀ ks' us w,Rk lo W b ks' us w→Fit us→ks'.length≤1000000→Calls Tryz.prog 82 #[.pointer (some ⟨b,0,none⟩)] w (Oth lo w b ks' us (otherR us))):=fun ks' us w hk hfu hl=>other_any hk.self (HG.out _ _ w hk) hb hfu hl
 have HF:=hid_mk hf
 generalize compR vs=R at *
 clear h hsg hf HG
 go_enter Tryz.func50,Tryz.ntmps50
 go_wp2_with (go_at_call 81;fail)
 refine HT.out.mono ?_
 rintro e w1 ⟨v,rfl,hgo⟩
 obtain ⟨va,vn,vc,rfl⟩:=hgo.sl
 have HGO:=hid_mk hgo
 clear HT hgo
 go_wp2
 go_loopg [3] (vs.length+1) (fun k a3 wq=>∃ ba bn bc,a3=.slice ba bn bc∧Hid (CoGo lo W b ks vs R k (.slice ba bn bc) wq))
 case atStart=>exact ⟨_,_,_,rfl,HGO⟩
 case round =>
  clear HGO
  obtain ⟨ba,bn,bc,rfl,hrel⟩:=hrel
  obtain ⟨acc,us,hk,hpt,hrk,hR,hm,hl,hsub⟩:=hrel.out
  have hln:us.length≤vs.length:=by
   have:=hsub.length_le
   simp at this
   omega
  have hkk:(ks++kidsOf acc).length≤1000000:=by
   have:=hsub.length_le
   simp at this
   rw [List.length_append]
   omega
  have hot:=HO.out _ us wr hrk (HF.out.sub hln hm) hkk
  have ok:=otherR_ok us
  have sub:=otherR_sub us
  have zn:=othZ_none (vs:=us)
  have zs:=fun l n=>othZ_some (vs:=us) (l:=l) (n:=n)
  generalize otherR us=r at *
  have HK:=hid_mk hk
  have HPT:=hid_mk hpt
  have HRK:=hid_mk hrk
  have HR:=hid_mk hR
  have HM:=hid_mk hm
  have HL:=hid_mk hl
  have HSUB:=hid_mk hsub
  have HLN:=hid_mk hln
  clear hrel hk hrk hR hm hl hsub hln hkk HO
  cases r with
  | none =>
    have HZ:Hid (∀ w' v',PtAt W.heap.size w' v' acc→Rk lo wr b (ks++kidsOf acc) us w'→Cmp lo W b ks R (.returned v') w'):=fun w' v' h1 h2=>by
     have e:R=(acc,us):=by rw [← HR.out,zn rfl];simp
     rw [e]
     exact ⟨v',rfl,h1,HRK.out.from h2⟩
    clear zn zs ok sub
    go_wp2_with (go_at_call 82;fail)
    refine hot.mono ?_
    rintro e w2 ⟨rfl,hk2⟩
    have HF2:=hid_mk (HZ.out w2 _ (hk2.keep.own hbl (by decide) HPT.out) hk2)
    clear hot hk2 HZ hpt
    go_wp2
    go_ret
    exact HF2.out
  | some x =>
    obtain ⟨l,n⟩:=x
    obtain ⟨hne,h10,h1n,hnl,_⟩:=ok l n rfl
    have hpos:0<l.length:=List.length_pos_iff.2 hne
    have hz:=zs l n rfl
    have hs2:=sub l n rfl
    have hdl:(us.drop n).length=us.length - n:=List.length_drop
    have HNX:Hid (∀ w' v' k,PtAt W.heap.size w' v' (acc++l)→Rk lo W b (ks++kidsOf acc++kidsOf l) (us.drop n) w'→us.length≤k→CoGo lo W b ks vs R k v' w'):=fun w' v' k h1 h2 hk=>by
     refine ⟨acc++l,us.drop n,by omega,h1,?_,?_,fun u hu=>HM.out u (List.mem_of_mem_drop hu),?_,?_⟩
     ·rw [kidsOf_append,← List.append_assoc]
      exact h2
     ·rw [← HR.out,hz,List.append_assoc]
     ·rw [List.length_append]
      have:=HL.out
      omega
     ·rw [kidsOf_append,List.append_assoc]
      exact ((List.Sublist.refl _).append hs2).trans HSUB.out
    have hacc:acc.length≤1000000:=by have:=HL.out;omega
    clear zn zs ok sub hz hs2 hne h1n hnl hdl
    go_wp2_with (go_at_call 82;fail)
    refine hot.mono ?_
    rintro e w2 ⟨v2,rfl,ho2,hk2⟩
    obtain ⟨ad,c,rfl⟩:=own_len ho2 hpos
    have hnews:=own_news ho2
    have hpt2:w2.ownsRow W.heap.size 46 7 (.slice ba bn bc) acc.length (ssC (acc.map Prod.fst)):=hk2.keep.own hbl (by decide) HPT.out
    have HRK2:=hid_mk (HRK.out.from hk2)
    have hsz:W.heap.size≤w2.heap.size:=HRK2.out.keep.size
    have hll:(ssC (l.map Prod.fst)).length=l.length * 7:=by rw [ssC_len];simp
    have hn0:((l.length:Int) == 0)=false:=by rw [beq_eq_false_iff_ne];omega
    have hone:=ssC_one (l.map Prod.fst)
    have HLL:=hid_mk hll
    have HO1:=hid_mk hone
    clear hot ho2 hk2 hll hone hpt
    go_wp2_with (at_builtin;with_reducible refine wpList_append_own _ rfl _ _ 47 rfl W.heap.size 46 i0 z0 7 88 Tryz.underlying47 hi hz0 hz1 hz2 hz3 (by decide) (.slice ba bn bc) acc.length (ssC (acc.map Prod.fst)) rfl hpt2 ad l.length c (ssC (l.map Prod.fst)) rfl HLL.out hnews HO1.out ?c1 ?c2 ?c3 ?_)
    case c1=>unfold maxLen;omega
    case c2=>omega
    case c3=>exact hsz
    intro v3 w3 ho3 hgr _
    obtain ⟨ca,cn,cc,rfl⟩:=own_sl ho3
    have hP3:PtAt W.heap.size w3 (.slice ca cn cc) (acc++l):=by
     unfold PtAt
     rw [fsts_append,List.length_append]
     exact ho3
    have HZ:=hid_mk (HNX.out w3 _ us.length hP3 (HRK2.out.grow hgr hbl (own_ty hpt2 (by decide))) (Nat.le_refl _))
    clear hpt2 hnews ho3 hgr hP3 HNX
    go_wp2
    go_roundg us.length
    case measure=>exact HK.out
    case rel=>exact ⟨_,_,_,rfl,HZ⟩
theorem info52:∃ i z,Tryz.prog.info? 47=some i∧i.zero=some z∧i.size=1∧i.bytes=24∧z.cells.size=1:=⟨_,_,by rfl,by rfl,by rfl,by rfl,by rfl⟩
theorem info3:∃ i z,Tryz.prog.info? 3=some i∧i.zero=some z∧i.size=1∧i.bytes=8∧z.cells.size=1:=⟨_,_,by rfl,by rfl,by rfl,by rfl,by rfl⟩
theorem info46:∃ i z,Tryz.prog.info? 44=some i∧i.zero=some z∧i.size=2∧i.bytes=48∧z.cells.size=2:=⟨_,_,by rfl,by rfl,by rfl,by rfl,by rfl⟩
theorem own_at {w:World} {B n s g:Nat} {T:TypeId} {v:Value} {xs:List Value} (h:w.ownsRow B T s v n xs) (e:v.ownBlock=some g):B≤g∧∃ c,w.heap[g]? = some (.cells c T (0,0)):=by
 rcases h.2 with ⟨rfl,_⟩ | ⟨g',cap,cur,rfl,h1,h2,_⟩
 ·cases e
 ·cases e
  exact ⟨h1,cur,h2⟩
theorem ty_ne {w:World} {g:Nat} {T U:TypeId} {c d:Array Value} {fr fq:Nat×Nat} (h:w.heap[g]? = some (.cells c T fr)) (k:w.heap[g]? = some (.cells d U fq)):T=U:=by
 rw [h] at k
 cases k
 rfl
theorem Rk.else {W0 w:World} {lo b:Nat} {ks:List (List V)} {vs:List V} (h:Rk lo W0 b ks vs w) (hb:b<W0.heap.size) {o i:Nat} {c:Array Value} {T:TypeId} {fr:Nat×Nat} (x:Value) (ho:W0.heap.size≤o) (ht:w.heap[o]? = some (.cells c T fr)) (hT:T≠22):Rk lo W0 b ks vs (w.setCell ⟨o,i,none⟩ x):=by
 obtain ⟨kids,cs,⟨⟨rest,h1,h2⟩,_⟩,h3,h4⟩:=h.rd
 have hst:∀ {v l},VsAt (·<min lo b) w v l→VsAt (·<min lo b) (w.setCell ⟨o,i,none⟩ x) v l:=fun q=>q.stay (by simp) fun j hj _=>heap_ne (by omega)
 refine ⟨⟨kids,cs,⟨⟨rest,(heap_ne (by omega)).trans h1,hst h2⟩,KeepX.of (Below.refl _ _)⟩,own_stayT h3 fun g c hg _=>heap_ne ?_,fun i hi=>(h4 i hi).imp fun v q=>⟨q.1,hst q.2⟩⟩,⟨h.keep.os,h.keep.tape,h.keep.output,by simpa using h.keep.size,fun j hj hn hc=>(heap_ne (by omega)).trans (h.keep.typ j hj hn hc)⟩⟩
 rintro rfl
 exact hT (ty_ne ht hg)
theorem CvAt.set {B:Nat} {w:World} {pv cv:Value} {c:Cv} {qs:List Value} (h:CvAt B w pv cv c qs) {o i:Nat} {d:Array Value} {T:TypeId} {fr:Nat×Nat} (x:Value) (ht:w.heap[o]? = some (.cells d T fr)) (hT:T≠46∧T≠47∧T≠3):CvAt B (w.setCell ⟨o,i,none⟩ x) pv cv c qs :=
 h.stayT fun T' g cur hT' hg _=>heap_ne fun e=>by
  subst e
  have:=ty_ne ht hg
  subst this
  rcases hT' with e | e | e
  ·exact hT.1 e
  ·exact hT.2.1 e
  ·exact hT.2.2 e
theorem CvAt.addPart {B:Nat} {w wa w2:World} {pv cv pv' v1:Value} {acc:List (List Sv)} {kk:List Int} {qs:List Value} {p:List Sv} (h:CvAt B w pv cv (acc,kk) qs) (ha:Below w.heap.size w wa) (hg:wa.grownBy w2 pv.ownBlock) (ho:w2.ownsRow B 47 1 pv' (acc.length+1) (qs++[v1])) (hp:PtAt B w v1 p) (hu:∀ q∈qs,blk q<blk v1):CvAt B w2 pv' cv (acc++[p],kk) (qs++[v1]):=by
 have hst:∀ (T:TypeId) (g:Nat) (cur:Array Value),T≠47→w.heap[g]? = some (.cells cur T (0,0))→w2.heap[g]? = w.heap[g]?:=fun T g cur hT hh=>by
  have hl:=(Array.getElem?_eq_some_iff.1 hh).1
  rw [hg.block g (Nat.lt_of_lt_of_le hl ha.size) (fun e=>?_),ha.block g hl]
  obtain ⟨_,c,hc⟩:=own_at h.ps e.symm
  exact hT (ty_ne hh hc)
 have hql:qs.length=acc.length:=by have:=h.ps.1;simp at this;exact this
 refine ⟨by rw [List.length_append];exact ho,fun j hj=>?_,own_stayT h.cs fun g c hc _=>hst 3 g c (by decide) hc,List.pairwise_append.2 ⟨h.up,by simp,fun x hx y hy=>by rw [List.mem_singleton.1 hy];exact hu x hx⟩⟩
 by_cases hja:j<acc.length
 ·obtain ⟨q,e,hq⟩:=h.pt j hja
  refine ⟨q,by rw [List.getElem?_append_left (by omega)];exact e,?_⟩
  rw [List.getElem_append_left hja]
  exact own_stayT hq fun g c hc _=>hst 46 g c (by decide) hc
 ·have hje:j=acc.length:=by simp at hj;omega
  subst hje
  refine ⟨v1,by rw [List.getElem?_append_right (by omega),hql];simp,?_⟩
  rw [List.getElem_append_right (Nat.le_refl _)]
  have:PtAt B w2 v1 p:=own_stayT hp fun g c hc _=>hst 46 g c (by decide) hc
  simpa using this
theorem CvAt.addComb {B:Nat} {w wa w2:World} {pv cv cv':Value} {acc:List (List Sv)} {kk:List Int} {qs:List Value} {k:Int} (h:CvAt B w pv cv (acc,kk) qs) (ha:Below w.heap.size w wa) (hg:wa.grownBy w2 cv.ownBlock) (ho:w2.ownsRow B 3 1 cv' (kk.length+1) (kk.map (Value.int .i64)++[.int .i64 k])):CvAt B w2 pv cv' (acc,kk++[k]) qs:=by
 have hst:∀ (T:TypeId) (g:Nat) (cur:Array Value),T≠3→w.heap[g]? = some (.cells cur T (0,0))→w2.heap[g]? = w.heap[g]?:=fun T g cur hT hh=>by
  have hl:=(Array.getElem?_eq_some_iff.1 hh).1
  rw [hg.block g (Nat.lt_of_lt_of_le hl ha.size) (fun e=>?_),ha.block g hl]
  obtain ⟨_,c,hc⟩:=own_at h.cs e.symm
  exact hT (ty_ne hh hc)
 refine ⟨own_stayT h.ps fun g c hc _=>hst 47 g c (by decide) hc,fun j hj=>(h.pt j hj).imp fun q hq=>⟨hq.1,own_stayT hq.2 fun g c hc _=>hst 46 g c (by decide) hc⟩,?_,h.up⟩
 rw [List.length_append,List.map_append]
 exact ho
theorem CvAt.blks {B:Nat} {w:World} {pv cv:Value} {c:Cv} {qs:List Value} (h:CvAt B w pv cv c qs) (hne:∀ p∈c.1,p≠[]):∀ q∈qs,B≤blk q∧blk q<w.heap.size:=fun q hq=>by
 obtain ⟨j,hj,rfl⟩:=List.mem_iff_getElem.1 hq
 have hql:qs.length=c.1.length:=by have:=h.ps.1;simp at this;exact this
 obtain ⟨q',e,hp⟩:=h.pt j (by omega)
 rw [List.getElem?_eq_getElem hj] at e
 cases e
 exact ⟨(PtAt.blk hp (hne _ (List.getElem_mem _))).1,(PtAt.blk hp (hne _ (List.getElem_mem _))).2.1⟩
def CxPost (lo:Nat) (W:World) (b:Nat) (ks:List (List V)) (R:Option (Cv×List V)) (e:Ending) (w':World):Prop:=match R with
 | none=>∃ x y,e=.returned (.tuple #[.agg #[x,y],.bool false])∧x=.slice none 0 0∧y=.slice none 0 0∧KeepT b W w'
 | some (c,r)=>∃ pv cv qs,e=.returned (.tuple #[.agg #[pv,cv],.bool true])∧CvAt W.heap.size w' pv cv c qs∧Rk lo W b (ks++kidsC c) r w'
structure CxGo (lo:Nat) (W:World) (b:Nat) (ks:List (List V)) (vs:List V) (R:Option (Cv×List V)) (pv cv:Value) (acc:List (List Sv)) (kk:List Int) (us:List V) (qs:List Value) (w:World):Prop where
 out:w.heap[W.heap.size+1]? = some (.cells #[pv,cv] 44 (0,0))
 res:w.heap[W.heap.size]? = some (.cells #[.slice none 0 0,.slice none 0 0] 44 (0,0))
 cx:CvAt W.heap.size w pv cv (acc,kk) qs
 rk:Rk lo W b (ks++kidsC (acc,kk)) us w
 eq:R=match cxZ us with | none=>none | some ((ps,js),r)=>some ((acc++ps,kk++js),r)
 mem:∀ u∈us,u∈vs
 sub:List.Sublist (kidsC (acc,kk)++us.map V.kids) (vs.map V.kids)
 ne:∀ p∈acc,p≠[]
 la:acc.length+us.length≤vs.length
 lk:kk.length≤acc.length
theorem set7_2 {B:Nat} {W w:World} (h:KeepT B W w) {o:Nat} (ho:W.heap.size≤o) (x0 x1:Value):KeepT B W ((w.setCell ⟨o,0,none⟩ x0).setCell ⟨o,1,none⟩ x1) :=
 ⟨h.os,h.tape,h.output,by simpa using h.size,fun j hj hn hc=>(heap_ne (by omega)).trans ((heap_ne (by omega)).trans (h.typ j hj hn hc))⟩
theorem one_news {w:World} {x:Value} {T:TypeId}:∀ j u,[x][j]? = some u→(w.alloc (.cells #[x] T)).cell? (Addr.add ⟨w.heap.size,0,none⟩ j)=some u:=fun j u hu=>by
 rw [Addr.add_mid,Nat.zero_add,cellAt (heap_alloc_last w _) j]
 simpa using hu
theorem complex_any {W:World} {lo b:Nat} {ks:List (List V)} {vs:List V} (h:Rk lo W b ks vs W) (hsg:Signs W) (hb:sgB<b) (hf:Fit vs) (hkn:ks.length+vs.length≤1000000) :
  Calls Tryz.prog 24 #[.pointer (some ⟨b,0,none⟩)] W (CxPost lo W b ks (cxZ vs)):=by
 obtain ⟨i0,z0,hi,hz0,hz1,hz2,hz3⟩:=info52
 obtain ⟨j0,y0,hj,hy0,hy1,hy2,hy3⟩:=info3
 have hbl:b<W.heap.size:=h.lt
 have hvl:=hf.len
 have HG:Hid (∀ ks' us w,Rk lo W b ks' us w→Signs w):=fun ks' us w hk=>hsg.keepT hk.keep hb
 have HC:Hid (∀ ks' us w,Rk lo W b ks' us w→Fit us→ks'.length+us.length≤1000000→Calls Tryz.prog 50 #[.pointer (some ⟨b,0,none⟩)] w (Cmp lo w b ks' (compR us))):=fun ks' us w hk hfu hl=>compound_any hk.self (HG.out _ _ w hk) hb hfu hl
 have HD:Hid (∀ ks' us w,Rk lo W b ks' us w→Calls Tryz.prog 51 #[.pointer (some ⟨b,0,none⟩)] w fun e w'=>e=.returned (.int .i64 (combR us).1)∧Rk lo w b ks' (combR us).2 w'):=fun ks' us w hk=>by
  obtain ⟨kids,hrd,hn⟩:=hk.self.open
  exact (comb_any hrd (HG.out _ _ w hk) (by omega)).mono fun e w' q=>⟨q.1,hn _ _ q.2⟩
 obtain ⟨W1,hW1⟩:∃ W1,W1=(W.alloc (.cells #[.slice none 0 0,.slice none 0 0] 44)).alloc (.cells #[.slice none 0 0,.slice none 0 0] 44):=⟨_,rfl⟩
 have hB1:Below W.heap.size W W1:=by rw [hW1];exact ((Below.refl _ _).alloc (Nat.le_refl _) _).alloc (by simp) _
 have HGO:Hid (CxGo lo W b ks vs (cxZ vs) (.slice none 0 0) (.slice none 0 0) [] [] vs [] W1):=by
  refine ⟨?_,?_,⟨⟨rfl,.inl ⟨rfl,rfl⟩⟩,fun j hj=>absurd hj (by simp),⟨rfl,.inl ⟨rfl,rfl⟩⟩,List.Pairwise.nil⟩,?_,?_,fun u hu=>hu,?_,fun p hp=>absurd hp (by simp),by simp,Nat.le_refl _⟩
  ·have e:W.heap.size+1=(W.alloc (.cells #[.slice none 0 0,.slice none 0 0] 44)).heap.size:=by simp
   rw [hW1,e]
   exact heap_alloc_last _ _
  ·rw [hW1,Below.heap_alloc _ _ _ (by simp)]
   exact heap_alloc_last W _
  ·simpa [kidsC] using h.then hB1
  ·cases cxZ vs with
   | none=>rfl
   | some x=>rfl
  ·simp [kidsC]
 have HF:=hid_mk hf
 have HW1:=hid_mk hW1
 generalize cxZ vs=R at *
 clear h hsg hf HG hW1 hB1
 go_enter Tryz.func24,Tryz.ntmps24
 go_wp2_with (fail)
 rw [← HW1.out]
 clear HW1
 go_loopg [] (vs.length+1) (fun k wq=>∃ pv cv acc kk us qs,us.length<k∧Hid (CxGo lo W b ks vs R pv cv acc kk us qs wq))
 case atStart=>exact ⟨_,_,_,_,_,_,by omega,HGO⟩
 case round =>
  clear HGO
  obtain ⟨pv,cv,acc,kk,us,qs,hlk,HGO⟩:=hrel
  obtain ⟨ca,cn,cc,rfl⟩:=own_sl HGO.out.cx.cs
  have hln:us.length≤vs.length:=by have:=HGO.out.la;omega
  have hkk:(ks++kidsC (acc,kk)).length+us.length≤1000000:=by
   have:=HGO.out.sub.length_le
   simp at this
   rw [List.length_append]
   omega
  have hcp:=HC.out _ us wr HGO.out.rk (HF.out.sub hln HGO.out.mem) hkk
  have HZS:=hid_mk (cxZ_step us)
  have HLT:=hid_mk (compR_ok us)
  have HSB:=hid_mk (compR_sub us)
  have HLK:=hid_mk hlk
  have HLN:=hid_mk hln
  unfold cxStep at HZS
  clear HC hlk hln hkk
  generalize compR us=pr at *
  obtain ⟨p,r1⟩:=pr
  go_wp2_with (go_at_call 50;fail)
  refine hcp.mono ?_
  rintro e w1 ⟨v1,rfl,hpt,hrk⟩
  simp only [] at hpt hrk
  have hK1:=hrk.keep
  have hsz:W.heap.size≤wr.heap.size:=HGO.out.rk.keep.size
  have o1:w1.heap[W.heap.size+1]? = some (.cells #[pv,.slice ca cn cc] 44 (0,0)):=(hK1.typ _ (Array.getElem?_eq_some_iff.1 HGO.out.out).1 (by omega) (.inr fun c fr e=>by have:=ty_ne HGO.out.out e;cases this)).trans HGO.out.out
  have x1:w1.heap[W.heap.size]? = some (.cells #[.slice none 0 0,.slice none 0 0] 44 (0,0)):=(hK1.typ _ (Array.getElem?_eq_some_iff.1 HGO.out.res).1 (by omega) (.inr fun c fr e=>by have:=ty_ne HGO.out.res e;cases this)).trans HGO.out.res
  have cx1:=HGO.out.cx.keepT hK1 hbl
  have rk1:=HGO.out.rk.from hrk
  have hblk:=HGO.out.cx.blks HGO.out.ne
  cases p with
  | nil =>
    have HR:Hid (R=none):=by rw [Hid,HGO.out.eq,HZS.out]
    have hsl:∃ a c,v1=.slice a 0 c:=by
     rcases hpt.2 with ⟨rfl,_⟩ | ⟨g,cap,cur,rfl,_⟩
     ·exact ⟨_,_,rfl⟩
     ·exact ⟨_,_,rfl⟩
    obtain ⟨a1,c1,rfl⟩:=hsl
    obtain ⟨k0,k1,f0,f1⟩:=cells2 x1
    have HKT:=hid_mk rk1.keep
    clear hcp hpt hrk hK1 o1 x1 cx1 rk1 hblk HGO HZS HLT HSB HD
    go_wp2
    rw [HR.out]
    exact bodyPost_ret (v:=.tuple #[.agg #[.slice none 0 0,.slice none 0 0],.bool false]) (by simp [results,Tryz.results24,go_sem,k0,k1]) rfl ⟨_,_,rfl,rfl,rfl,set7_2 HKT.out (Nat.le_refl _) _ _⟩
  | cons s0 p0 =>
  obtain ⟨hg1,hg2,cap1,cur1,hv1,_⟩:=PtAt.blk hpt (by simp)
  have hptW:PtAt W.heap.size w1 v1 (s0::p0):=own_from hpt hsz
  have hlen:r1.length<us.length:=HLT.out.2.1 (by simp)
  have hup:∀ q∈qs,blk q<blk v1:=fun q hq=>Nat.lt_of_lt_of_le (hblk q hq).2 hg1
  have hown:(w1.alloc (.cells #[v1] 47)).ownsRow W.heap.size 47 1 pv acc.length qs:=own_stayT cx1.ps fun g c hc _=>Below.heap_alloc _ _ _ (Array.getElem?_eq_some_iff.1 hc).1
  obtain ⟨pa,pn,pc,rfl⟩:=own_sl hown
  obtain ⟨k0,k1,f0,f1⟩:=cells2 o1
  have hn0:(((s0::p0).length:Int) == 0)=false:=by rw [beq_eq_false_iff_ne];simp;omega
  have HNE:Hid (∀ a,(∃ w2 v2,a=(w2,v2)∧(w1.alloc (.cells #[v1] 47)).grownBy w2 (Value.slice pa pn pc).ownBlock∧w2.ownsRow W.heap.size 47 1 v2 (acc.length+1) (qs++[v1]))→CvAt W.heap.size (a.1.setCell ⟨W.heap.size+1,0,none⟩ a.2) a.2 (.slice ca cn cc) (acc++[s0::p0],kk) (qs++[v1])∧Rk lo W b (ks++kidsC (acc++[s0::p0],kk)) r1 (a.1.setCell ⟨W.heap.size+1,0,none⟩ a.2)∧a.1.heap[W.heap.size+1]? = some (.cells #[.slice pa pn pc,.slice ca cn cc] 44 (0,0))∧(a.1.setCell ⟨W.heap.size+1,0,none⟩ a.2).heap[W.heap.size+1]? = some (.cells #[a.2,.slice ca cn cc] 44 (0,0))∧(a.1.setCell ⟨W.heap.size+1,0,none⟩ a.2).heap[W.heap.size]? = some (.cells #[.slice none 0 0,.slice none 0 0] 44 (0,0))):=fun a ⟨w2,v2,e,hgr,ho⟩=>by
   subst e
   simp only []
   have hal:Below w1.heap.size w1 (w1.alloc (.cells #[v1] 47)):=(Below.refl _ _).alloc (Nat.le_refl _) _
   have hne46:∀ (j:Nat) (c:Array Value),w1.heap[j]? = some (.cells c 44 (0,0))→w2.heap[j]? = w1.heap[j]?:=fun j c hj=>by
    have hl:=(Array.getElem?_eq_some_iff.1 hj).1
    rw [hgr.block j (Nat.lt_of_lt_of_le hl hal.size) (fun e=>?_),hal.block j hl]
    obtain ⟨_,c,hc⟩:=own_at cx1.ps e.symm
    have:=ty_ne hj hc
    cases this
   have o2:=(hne46 _ _ o1).trans o1
   have x2:=(hne46 _ _ x1).trans x1
   have hC:=cx1.addPart hal hgr ho hptW hup
   have hR:=(rk1.then hal).grow hgr hbl (own_ty hown (by decide))
   refine ⟨hC.set _ o2 (by decide),?_,o2,by rw [set_at 0 _ _ o2];rfl,(heap_ne (by omega)).trans x2⟩
   have e:ks++kidsC (acc++[s0::p0],kk)=ks++kidsC (acc,kk)++kidsOf (s0::p0):=by simp [kidsC]
   rw [e]
   exact hR.else hbl _ (by omega) o2 (by decide)
  have hal3:acc.length≤1000000:=by have:=HGO.out.la;omega
  have hkl3:kk.length≤1000000:=by have:=HGO.out.lk;omega
  have hszA:W.heap.size≤(w1.alloc (.cells #[v1] 47)).heap.size:=by have:=rk1.keep.size;simp;omega
  have HV1:=hid_mk hv1
  have hvs1:∃ va n1 vc,v1=.slice va n1 vc∧((n1:Int) == 0)=false:=⟨_,_,_,hv1,hn0⟩
  have HHL:=hid_mk hlen
  have HOS:Hid (∀ u∈[v1],u.oneCell'=true):=by
   intro u hu
   rw [List.mem_singleton.1 hu,HV1.out]
   rfl
  have HON:Hid (∀ j u,[v1][j]? = some u→(w1.alloc (.cells #[v1] 47)).cell? (Addr.add ⟨w1.heap.size,0,none⟩ j)=some u):=one_news
  clear hcp hpt hrk hK1 o1 x1 cx1 rk1 hblk hv1 hptW hup hg1 hg2 hlen
  obtain ⟨va,n1,vc,rfl,hn1⟩:=hvs1
  clear HV1 hn0
  go_wp2_with (at_builtin;with_reducible refine wpList_append_own _ rfl _ _ 41 rfl W.heap.size 47 i0 z0 1 24 Tryz.underlying41 hi hz0 hz1 hz2 hz3 (by decide) (.slice pa pn pc) acc.length qs rfl hown ⟨w1.heap.size,0,none⟩ 1 1 [.slice va n1 vc] rfl rfl HON.out HOS.out ?c1 ?c2 ?c3 ?_)
  case c1=>unfold maxLen;omega
  case c2=>omega
  case c3=>exact hszA
  intro v2 w2 ho2 hgr2 _
  obtain ⟨hC3,hR3,o2,o3,x3⟩:=HNE.out (w2,v2) ⟨w2,v2,rfl,hgr2,ho2⟩
  simp only [] at hC3 hR3 o2 o3 x3
  obtain ⟨qa,qn,qc,rfl⟩:=own_sl ho2
  obtain ⟨d0,d1,g0,g1⟩:=cells2 o2
  obtain ⟨w3,hw3⟩:∃ w3,w3=w2.setCell ⟨W.heap.size+1,0,none⟩ (.slice qa qn qc):=⟨_,rfl⟩
  rw [← hw3] at hC3 hR3 o3 x3
  have hcb:=HD.out _ r1 w3 hR3
  have HW3:=hid_mk hw3
  have HC3:=hid_mk hC3
  have HR3:=hid_mk hR3
  have HO3:=hid_mk o3
  have HX3:=hid_mk x3
  have HCB:=hid_mk (combR_ok r1)
  have HCS:=hid_mk (combR_sub r1)
  generalize combR r1=cr at *
  obtain ⟨k,r2⟩:=cr
  clear HNE ho2 hgr2 hown hC3 hR3 o2 o3 x3 hw3 HD k0 k1 f0 f1
  go_wp2_with (go_at_call 51;fail)
  rw [← HW3.out]
  refine hcb.mono ?_
  rintro e w4 ⟨rfl,hrk4⟩
  have hK4:=hrk4.keep
  have o4:w4.heap[W.heap.size+1]? = some (.cells #[.slice qa qn qc,.slice ca cn cc] 44 (0,0)):=(hK4.typ _ (Array.getElem?_eq_some_iff.1 HO3.out).1 (by omega) (.inr fun c fr e=>by have:=ty_ne HO3.out e;cases this)).trans HO3.out
  have x4:w4.heap[W.heap.size]? = some (.cells #[.slice none 0 0,.slice none 0 0] 44 (0,0)):=(hK4.typ _ (Array.getElem?_eq_some_iff.1 HX3.out).1 (by omega) (.inr fun c fr e=>by have:=ty_ne HX3.out e;cases this)).trans HX3.out
  have cx4:=HC3.out.keepT hK4 hbl
  have rk4:=HR3.out.from hrk4
  clear hcb hrk4 hK4 HC3 HR3 HO3 HX3 HW3 d0 d1 g0 g1
  have hsz4:W.heap.size≤w4.heap.size:=rk4.keep.size
  obtain ⟨d0,d1,g0,g1⟩:=cells2 o4
  by_cases hk0:k=0
  ·have HR:Hid (R=some ((acc++[s0::p0],kk),r2)):=by
    rw [Hid,HGO.out.eq,HZS.out]
    simp only [hk0,if_true,List.append_nil]
   obtain ⟨t0,t1,h0,h1⟩:=cells2 x4
   have HX4:=hid_mk x4
   have HC4:=hid_mk cx4
   have HR4:=hid_mk rk4
   subst hk0
   clear x4 o4 cx4 rk4 HGO HZS HLT HSB HCB HCS
   go_wp2
   rw [HR.out]
   refine bodyPost_ret (v:=.tuple #[.agg #[.slice qa qn qc,.slice ca cn cc],.bool true]) (by simp [results,Tryz.results24,go_sem,t0,t1]) rfl ⟨_,_,_,rfl,(HC4.out.set _ HX4.out (by decide)).set _ (set_at 0 _ _ HX4.out) (by decide),(HR4.out.else hbl _ (Nat.le_refl _) HX4.out (by decide)).else hbl _ (Nat.le_refl _) (set_at 0 _ _ HX4.out) (by decide)⟩
  ·have hk1:(k == 0)=false:=by rw [beq_eq_false_iff_ne];exact hk0
   have hown4:(w4.alloc (.cells #[.int .i64 k] 3)).ownsRow W.heap.size 3 1 (.slice ca cn cc) kk.length (kk.map (Value.int .i64)):=own_stayT cx4.cs fun g c hc _=>Below.heap_alloc _ _ _ (Array.getElem?_eq_some_iff.1 hc).1
   have HNX:Hid (∀ w5 v5,(w4.alloc (.cells #[.int .i64 k] 3)).grownBy w5 (Value.slice ca cn cc).ownBlock→w5.ownsRow W.heap.size 3 1 v5 (kk.length+1) (kk.map (Value.int .i64)++[.int .i64 k])→CxGo lo W b ks vs R (.slice qa qn qc) v5 (acc++[s0::p0]) (kk++[k]) r2 (qs++[.slice va n1 vc]) (w5.setCell ⟨W.heap.size+1,1,none⟩ v5)∧w5.heap[W.heap.size+1]? = some (.cells #[.slice qa qn qc,.slice ca cn cc] 44 (0,0))):=fun w5 v5 hgr ho=>by
    have hal:Below w4.heap.size w4 (w4.alloc (.cells #[.int .i64 k] 3)):=(Below.refl _ _).alloc (Nat.le_refl _) _
    have hne46:∀ (j:Nat) (c:Array Value),w4.heap[j]? = some (.cells c 44 (0,0))→w5.heap[j]? = w4.heap[j]?:=fun j c hj=>by
     have hl:=(Array.getElem?_eq_some_iff.1 hj).1
     rw [hgr.block j (Nat.lt_of_lt_of_le hl hal.size) (fun e=>?_),hal.block j hl]
     obtain ⟨_,c,hc⟩:=own_at cx4.cs e.symm
     have:=ty_ne hj hc
     cases this
    have o5:=(hne46 _ _ o4).trans o4
    have x5:=(hne46 _ _ x4).trans x4
    have hC:=cx4.addComb hal hgr ho
    have hR:=(rk4.then hal).grow hgr hbl (own_ty hown4 (by decide))
    have ek:kidsC (acc++[s0::p0],kk++[k])=kidsC (acc++[s0::p0],kk):=rfl
    have ek2:kidsC (acc++[s0::p0],kk)=kidsC (acc,kk)++kidsOf (s0::p0):=by simp [kidsC]
    refine ⟨⟨by rw [set_at 1 _ _ o5];rfl,(heap_ne (by omega)).trans x5,hC.set _ o5 (by decide),?_,?_,fun u hu=>HGO.out.mem u (HLT.out.2.2.2 u (HCB.out.2 u hu)),?_,fun p hp=>?_,?_,?_⟩,o5⟩
    ·rw [ek]
     exact hR.else hbl _ (by omega) o5 (by decide)
    ·rw [HGO.out.eq,HZS.out]
     simp only [hk0,if_false]
     cases cxZ r2 with
     | none=>rfl
     | some x =>
       obtain ⟨⟨ps,js⟩,r'⟩:=x
       simp
    ·rw [ek,ek2,List.append_assoc]
     exact ((List.Sublist.refl _).append (((List.Sublist.refl _).append HCS.out).trans HSB.out)).trans HGO.out.sub
    ·rcases List.mem_append.1 hp with hp | hp
     ·exact HGO.out.ne p hp
     ·rw [List.mem_singleton.1 hp]
      simp
    ·have h1:=HGO.out.la
     have h2:=HCB.out.1
     have h3:=HHL.out
     simp only [List.length_append,List.length_singleton] at h2 ⊢
     omega
    ·have:=HGO.out.lk
     simp only [List.length_append,List.length_singleton]
     omega
   have HLT2:Hid (r2.length<us.length):=Nat.lt_of_le_of_lt HCB.out.1 HHL.out
   have HOS4:Hid (∀ u∈[Value.int .i64 k],u.oneCell'=true):=by
    intro u hu
    rw [List.mem_singleton.1 hu]
    rfl
   have HON4:Hid (∀ j u,[Value.int .i64 k][j]? = some u→(w4.alloc (.cells #[.int .i64 k] 3)).cell? (Addr.add ⟨w4.heap.size,0,none⟩ j)=some u):=one_news
   have hszB:W.heap.size≤(w4.alloc (.cells #[.int .i64 k] 3)).heap.size:=by simp;omega
   clear x4 o4 cx4 rk4 HGO HZS HLT HSB HCB HCS hk0 HHL
   go_wp2_with (at_builtin;with_reducible refine wpList_append_own _ rfl _ _ 42 rfl W.heap.size 3 j0 y0 1 8 Tryz.underlying42 hj hy0 hy1 hy2 hy3 (by decide) (.slice ca cn cc) kk.length (kk.map (Value.int .i64)) rfl hown4 ⟨w4.heap.size,0,none⟩ 1 1 [.int .i64 k] rfl rfl HON4.out HOS4.out ?c1 ?c2 ?c3 ?_)
   case c1=>unfold maxLen;omega
   case c2=>omega
   case c3=>exact hszB
   intro v5 w5 ho5 hgr5 _
   obtain ⟨hgo,o5⟩:=HNX.out w5 v5 hgr5 ho5
   obtain ⟨ea,en,ec,rfl⟩:=own_sl ho5
   obtain ⟨m0,m1,n0,n1⟩:=cells2 o5
   have HGN:=hid_mk hgo
   clear HNX hown4 ho5 hgr5 hgo o5 d0 d1 g0 g1
   go_wp2
   go_roundg us.length
   case measure=>exact HLK.out
   case rel=>exact ⟨_,_,_,_,_,_,HLT2.out,HGN⟩
theorem LvAt.blks {B:Nat} {w:World} {v:Value} {l:List Cv} {xs:List (Value×Value×List Value)} (h:LvAt B w v l xs) (hne:∀ c∈l,∀ p∈c.1,p≠[]):∀ q∈xs.flatMap (fun x=>x.2.2),B≤blk q∧blk q<w.heap.size:=fun q hq=>by
 obtain ⟨x,hx,hq⟩:=List.mem_flatMap.1 hq
 obtain ⟨i,hi,rfl⟩:=List.mem_iff_getElem.1 hx
 have hil:i<l.length:=by rw [← h.len];exact hi
 exact (h.cx i hil hi).blks (hne _ (List.getElem_mem hil)) q hq
theorem LvAt.add {B:Nat} {w wa w2:World} {v v' pv cv:Value} {acc:List Cv} {xs:List (Value×Value×List Value)} {c:Cv} {qs:List Value} (h:LvAt B w v acc xs) (ha:Below w.heap.size w wa) (hg:wa.grownBy w2 v.ownBlock) (ho:w2.ownsRow B 44 2 v' (acc.length+1) ((xs.flatMap fun x=>[x.1,x.2.1])++[pv,cv])) (hc:CvAt B w pv cv c qs) (hu:∀ q∈xs.flatMap (fun x=>x.2.2),∀ q'∈qs,blk q<blk q'):LvAt B w2 v' (acc++[c]) (xs++[(pv,cv,qs)]):=by
 have hst:∀ (T:TypeId) (g:Nat) (cur:Array Value),T≠44→w.heap[g]? = some (.cells cur T (0,0))→w2.heap[g]? = w.heap[g]?:=fun T g cur hT hh=>by
  have hl:=(Array.getElem?_eq_some_iff.1 hh).1
  rw [hg.block g (Nat.lt_of_lt_of_le hl ha.size) (fun e=>?_),ha.block g hl]
  obtain ⟨_,c,hc⟩:=own_at h.row e.symm
  exact hT (ty_ne hh hc)
 have hcs:∀ {pv cv c qs},CvAt B w pv cv c qs→CvAt B w2 pv cv c qs:=fun q=>q.stayT fun T g cur hT hg _=>hst T g cur (by rintro rfl;rcases hT with e | e | e <;> cases e) hg
 refine ⟨by rw [List.length_append,List.flatMap_append];exact ho,by simp [h.len],fun i hi hi'=>?_,?_⟩
 ·by_cases hil:i<acc.length
  ·have hix:i<xs.length:=by rw [h.len];exact hil
   rw [List.getElem_append_left hix,List.getElem_append_left hil]
   exact hcs (h.cx i hil hix)
  ·have hie:i=acc.length:=by simp at hi;omega
   subst hie
   have e1:(acc++[c])[acc.length]'hi=c:=by simp
   have e2:(xs++[(pv,cv,qs)])[acc.length]'hi'=(pv,cv,qs):=by
    rw [List.getElem_append_right (by rw [h.len];exact Nat.le_refl _)]
    simp
   rw [e1,e2]
   exact hcs hc
 ·rw [List.flatMap_append]
  refine List.pairwise_append.2 ⟨h.up,by simpa using hc.up,fun x hx y hy=>hu x hx y (by simpa using hy)⟩
def LsPost (lo:Nat) (W:World) (b:Nat) (ks:List (List V)) (R:Option (List Cv)) (e:Ending) (w':World):Prop:=match R with
 | none=>e=.returned (.tuple #[.slice none 0 0,.bool false])∧KeepT b W w'
 | some l=>∃ v xs,e=.returned (.tuple #[v,.bool true])∧LvAt W.heap.size w' v l xs∧Rk lo W b (ks++kidsL l) [] w'
structure LsGo (lo:Nat) (W:World) (b:Nat) (ks:List (List V)) (vs:List V) (R:Option (List Cv)) (v:Value) (acc:List Cv) (us:List V) (xs:List (Value×Value×List Value)) (w:World):Prop where
 lv:LvAt W.heap.size w v acc xs
 rk:Rk lo W b (ks++kidsL acc) us w
 eq:R=match lsZ us with | none=>none | some l=>some (acc++l)
 mem:∀ u∈us,u∈vs
 sub:List.Sublist (kidsL acc++us.map V.kids) (vs.map V.kids)
 ne:∀ c∈acc,∀ p∈c.1,p≠[]
 la:acc.length+us.length≤vs.length
theorem two_new {w:World} {x y:Value} {T:TypeId}:∀ j u,[x,y][j]? = some u→(w.alloc (.cells #[x,y] T)).cell? (Addr.add ⟨w.heap.size,0,none⟩ j)=some u:=fun j u hu=>by
 rw [Addr.add_mid,Nat.zero_add,cellAt (heap_alloc_last w _) j]
 simpa using hu
theorem list_any {W:World} {lo b:Nat} {ks:List (List V)} {vs:List V} (h:Rk lo W b ks vs W) (hsg:Signs W) (hb:sgB<b) (hf:Fit vs) (hkn:ks.length+vs.length≤1000000) :
  Calls Tryz.prog 12 #[.pointer (some ⟨b,0,none⟩)] W (LsPost lo W b ks (lsZ vs)):=by
 obtain ⟨i0,z0,hi,hz0,hz1,hz2,hz3⟩:=info46
 have hbl:b<W.heap.size:=h.lt
 have hvl:=hf.len
 have HG:Hid (∀ ks' us w,Rk lo W b ks' us w→Signs w):=fun ks' us w hk=>hsg.keepT hk.keep hb
 have HC:Hid (∀ ks' us w,Rk lo W b ks' us w→Fit us→ks'.length+us.length≤1000000→Calls Tryz.prog 24 #[.pointer (some ⟨b,0,none⟩)] w (CxPost lo w b ks' (cxZ us))):=fun ks' us w hk hfu hl=>complex_any hk.self (HG.out _ _ w hk) hb hfu hl
 have HS:Hid (∀ ks' us w,Rk lo W b ks' us w→Calls Tryz.prog 23 #[.pointer (some ⟨b,0,none⟩)] w fun e w'=>e=.returned (.bool (ahd us 0 13))∧Rk lo w b ks' (spc us) w'):=fun ks' us w hk=>by
  obtain ⟨kids,hrd,hn⟩:=hk.self.open
  exact (spaces_any hrd).mono fun e w' q=>⟨q.1,hn _ _ q.2⟩
 have HA:Hid (∀ ks' us w,Rk lo W b ks' us w→Calls Tryz.prog 25 #[.pointer (some ⟨b,0,none⟩),.int .i64 0,.int .i64 18] w fun e w'=>e=.returned (.bool (ahd us 0 18))∧w'=w):=fun ks' us w hk=>by
  obtain ⟨kids,hrd,hn⟩:=hk.self.open
  exact ahead_any hrd 0 18
 have HP:Hid (∀ ks' us w,Rk lo W b ks' us w→1≤us.length→Calls Tryz.prog 26 #[.pointer (some ⟨b,0,none⟩),.int .i64 1] w fun e w'=>e=.returned (.tuple #[])∧Rk lo w b ks' (us.drop 1) w'):=fun ks' us w hk hl=>by
  obtain ⟨kids,hrd,hn⟩:=hk.self.open
  exact (skip_any hrd 1 hl).mono fun e w' q=>⟨q.1,hn _ _ q.2⟩
 have HGO:Hid (LsGo lo W b ks vs (lsZ vs) (.slice none 0 0) [] vs [] W):=by
  refine ⟨⟨⟨rfl,.inl ⟨rfl,rfl⟩⟩,rfl,fun i hi=>absurd hi (by simp),by simp⟩,by simpa [kidsL] using h,?_,fun u hu=>hu,by simp [kidsL],fun c hc=>absurd hc (by simp),by simp⟩
  cases lsZ vs with
  | none=>rfl
  | some x=>rfl
 have HF:=hid_mk hf
 generalize lsZ vs=R at *
 clear h hsg hf HG
 go_enter Tryz.func12,Tryz.ntmps12
 go_wp2_with (fail)
 go_loopg [4] (vs.length+1) (fun k a4 wq=>∃ va vn vc acc us xs,a4=.slice va vn vc∧us.length<k∧Hid (LsGo lo W b ks vs R (.slice va vn vc) acc us xs wq))
 case atStart=>exact ⟨_,_,_,_,_,_,rfl,by omega,HGO⟩
 case round =>
  clear HGO
  obtain ⟨va,vn,vc,acc,us,xs,rfl,hlk,HGO⟩:=hrel
  have hsp:=HS.out _ us wr HGO.out.rk
  have HZS:=hid_mk (lsZ_step us)
  have HSO:=hid_mk (spc_ok us)
  have HSS:=hid_mk (spc_sub us)
  have hln:us.length≤vs.length:=by have:=HGO.out.la;omega
  have HFU:=hid_mk ((HF.out.sub hln HGO.out.mem).spc)
  have HLK:=hid_mk hlk
  have hal3:acc.length≤1000000:=by have:=HGO.out.la;omega
  unfold lsStep at HZS
  generalize spc us=u1 at *
  clear HS hlk hln
  go_wp2_with (go_at_call 23;fail)
  refine hsp.mono ?_
  rintro e w1 ⟨rfl,hrk1⟩
  have hkk:(ks++kidsL acc).length+u1.length≤1000000:=by
   have h1:=HGO.out.sub.length_le
   have h2:=HSO.out.1
   simp at h1
   rw [List.length_append]
   omega
  have rk1:=HGO.out.rk.from hrk1
  have lv1:=HGO.out.lv.keepT hrk1.keep hbl
  have hcx:=HC.out _ u1 w1 rk1 HFU.out hkk
  have HOK:=hid_mk (fun c r=>cxZ_ok _ u1 (Nat.le_refl _) c r)
  have HCS:=hid_mk (fun c r=>cxZ_sub _ u1 (Nat.le_refl _) c r)
  generalize cxZ u1=cr at *
  have HRK1:=hid_mk rk1
  have HLV1:=hid_mk lv1
  clear hsp hrk1 rk1 lv1 HC hkk
  cases cr with
  | none =>
    have HR:Hid (R=none):=by rw [Hid,HGO.out.eq,HZS.out]
    clear HOK HCS HZS HSO HSS HA HP HLV1 HFU HF HGO
    go_wp2_with (go_at_call 24;fail)
    refine hcx.mono ?_
    rintro e w2 ⟨x,y,rfl,rfl,rfl,hkp⟩
    have HKP:Hid (KeepT b W (w2.alloc (.cells #[.slice none 0 0,.slice none 0 0] 44))):=(HRK1.out.keep.trans hkp).trans (KeepT.of ((Below.refl _ _).alloc (Nat.le_refl _) _))
    clear hcx hkp
    go_wp2
    go_ret2
    rw [HR.out]
    exact ⟨rfl,HKP.out⟩
  | some x =>
  obtain ⟨c,r⟩:=x
  obtain ⟨hrl,hrm,hcok⟩:=HOK.out c r rfl
  have hcs:=HCS.out c r rfl
  have HOK2:Hid (r.length<u1.length∧(∀ u∈r,u∈u1)∧CvOk u1 c):=⟨hrl,hrm,hcok⟩
  have HCS2:=hid_mk hcs
  clear HOK HCS hrl hrm hcok hcs
  go_wp2_with (go_at_call 24;fail)
  refine hcx.mono ?_
  rintro e w2 ⟨pv,cv,qs,rfl,hcv,hrk2⟩
  obtain ⟨pa,pn,pc,rfl⟩:=own_sl hcv.ps
  obtain ⟨ca,cn,cc,rfl⟩:=own_sl hcv.cs
  have hsz1:W.heap.size≤w1.heap.size:=HRK1.out.keep.size
  have rk2:=HRK1.out.from hrk2
  have lv2:=HLV1.out.keepT hrk2.keep hbl
  have cv2:=hcv.from hsz1
  have hblk:=HLV1.out.blks HGO.out.ne
  have hblk2:=hcv.blks (fun p hp=>(HOK2.out.2.2.2 p hp).1)
  obtain ⟨w3,hw3⟩:∃ w3,w3=w2.alloc (.cells #[.slice pa pn pc,.slice ca cn cc] 44):=⟨_,rfl⟩
  have hB3:Below w2.heap.size w2 w3:=by rw [hw3];exact (Below.refl _ _).alloc (Nat.le_refl _) _
  have x3:w3.heap[w2.heap.size]? = some (.cells #[.slice pa pn pc,.slice ca cn cc] 44 (0,0)):=by rw [hw3];exact heap_alloc_last w2 _
  obtain ⟨k0,k1,_,_⟩:=cells2 x3
  have hB4:Below w2.heap.size w2 (w3.alloc (.cells #[.slice pa pn pc,.slice ca cn cc] 44)):=hB3.alloc hB3.size _
  have hown:(w3.alloc (.cells #[.slice pa pn pc,.slice ca cn cc] 44)).ownsRow W.heap.size 44 2 (.slice va vn vc) acc.length (xs.flatMap fun x=>[x.1,x.2.1]):=(lv2.keep hB4).row
  have HNX:Hid (∀ w5 v5,(w3.alloc (.cells #[.slice pa pn pc,.slice ca cn cc] 44)).grownBy w5 (Value.slice va vn vc).ownBlock→w5.ownsRow W.heap.size 44 2 v5 (acc.length+1) ((xs.flatMap fun x=>[x.1,x.2.1])++[.slice pa pn pc,.slice ca cn cc])→LvAt W.heap.size w5 v5 (acc++[c]) (xs++[(.slice pa pn pc,.slice ca cn cc,qs)])∧Rk lo W b (ks++kidsL (acc++[c])) r w5):=fun w5 v5 hgr ho=>by
   refine ⟨lv2.add hB4 hgr ho cv2 fun q hq q' hq'=>Nat.lt_of_lt_of_le (hblk q hq).2 (hblk2 q' hq').1,?_⟩
   have e:ks++kidsL (acc++[c])=ks++kidsL acc++kidsC c:=by simp [kidsL]
   rw [e]
   exact (rk2.then hB4).grow hgr hbl (own_ty hown (by decide))
  have hszA:W.heap.size≤(w3.alloc (.cells #[.slice pa pn pc,.slice ca cn cc] 44)).heap.size:=by have h1:=rk2.keep.size;have h2:=hB4.size;omega
  have HOS:Hid (∀ u∈[Value.slice pa pn pc,.slice ca cn cc],u.oneCell'=true):=by
   intro u hu
   simp only [List.mem_cons,List.not_mem_nil,or_false] at hu
   rcases hu with rfl | rfl <;> rfl
  have HON:Hid (∀ j u,[Value.slice pa pn pc,.slice ca cn cc][j]? = some u→(w3.alloc (.cells #[.slice pa pn pc,.slice ca cn cc] 44)).cell? (Addr.add ⟨w3.heap.size,0,none⟩ j)=some u):=two_new
  have HW3:=hid_mk hw3
  clear hcx hcv hrk2 rk2 lv2 cv2 hblk hblk2 hw3 hB3 x3 hB4 HRK1 HLV1 HFU HF
  go_upto_region 6 with (fail)
  rw [← HW3.out]
  clear HW3
  go_wp2_with (at_builtin;with_reducible refine wpList_append_own _ rfl _ _ 26 rfl W.heap.size 44 i0 z0 2 48 Tryz.underlying26 hi hz0 hz1 hz2 hz3 (by decide) (.slice va vn vc) acc.length (xs.flatMap fun x=>[x.1,x.2.1]) rfl hown ⟨w3.heap.size,0,none⟩ 1 1 [.slice pa pn pc,.slice ca cn cc] rfl rfl HON.out HOS.out ?c1 ?c2 ?c3 ?_)
  case c1=>unfold maxLen;omega
  case c2=>omega
  case c3=>exact hszA
  intro v5 w5 ho5 hgr5 _
  obtain ⟨hlv5,hrk5⟩:=HNX.out w5 v5 hgr5 ho5
  obtain ⟨ea,en,ec,rfl⟩:=own_sl ho5
  have hah:=HA.out _ r w5 hrk5
  obtain ⟨kidq,hrdq,_⟩:=hrk5.open
  obtain ⟨ra,rn,rcap,hrn,_,_,h51,_,_⟩:=hrdq.see
  have c50:w5.cell? ⟨b,0,none⟩=some (.slice ra rn rcap):=cellAt h51 0
  have HLV5:=hid_mk hlv5
  have HRK5:=hid_mk hrk5
  have HRN:=hid_mk hrn
  clear HNX hown ho5 hgr5 hlv5 hrk5 hrdq h51 hrn HA k0 k1
  cases r with
  | nil =>
    have HR:Hid (R=some (acc++[c])):=by rw [Hid,HGO.out.eq,HZS.out];rfl
    have hr0:rn=0:=HRN.out
    subst hr0
    clear hah HP HZS HGO HOK2 HCS2 HRN
    go_wp2
    go_ret2
    rw [HR.out]
    exact ⟨_,_,rfl,HLV5.out,HRK5.out⟩
  | cons r0 rr =>
  have hr0:((rn:Int) == 0)=false:=by rw [beq_eq_false_iff_ne,HRN.out];simp;omega
  cases hcm:ahd (r0::rr) 0 18 with
  | false =>
    have HR:Hid (R=none):=by
     rw [Hid,HGO.out.eq,HZS.out]
     simp only [hcm]
     rfl
    have HKP:=hid_mk HRK5.out.keep
    rw [hcm] at hah
    clear hcm HP HZS HGO HOK2 HCS2 HRN HLV5 HRK5
    go_wp2_with (go_at_call 25;fail)
    refine hah.mono ?_
    rintro e w6 ⟨rfl,rfl⟩
    clear hah
    go_wp2
    go_ret2
    rw [HR.out]
    exact ⟨rfl,HKP.out⟩
  | true =>
    have hsk:=HP.out _ _ w5 HRK5.out (by simp)
    rw [hcm] at hah
    rw [show (r0::rr).drop 1=rr from rfl] at hsk
    have HNX:Hid (∀ w7,Rk lo w5 b (ks++kidsL (acc++[c])) rr w7→LsGo lo W b ks vs R (.slice ea en ec) (acc++[c]) rr (xs++[(.slice pa pn pc,.slice ca cn cc,qs)]) w7):=fun w7 hk=>by
     refine ⟨HLV5.out.keepT hk.keep hbl,HRK5.out.from hk,?_,fun u hu=>HGO.out.mem u (HSO.out.2 u (HOK2.out.2.1 u (by simp [hu]))),?_,fun c' hc'=>?_,?_⟩
     ·rw [HGO.out.eq,HZS.out]
      simp only [hcm,List.isEmpty_cons,Bool.false_eq_true,if_false,if_true]
      rw [show (r0::rr).drop 1=rr from rfl]
      cases lsZ rr with
      | none=>rfl
      | some l=>simp
     ·rw [show kidsL (acc++[c])=kidsL acc++kidsC c by simp [kidsL],List.append_assoc]
      refine ((List.Sublist.refl _).append (List.Sublist.trans ?_ (HCS2.out.trans HSS.out))).trans HGO.out.sub
      exact (List.Sublist.refl _).append (List.sublist_cons_self _ _)
     ·rcases List.mem_append.1 hc' with h | h
      ·exact HGO.out.ne c' h
      ·rw [List.mem_singleton.1 h]
       exact fun p hp=>(HOK2.out.2.2.2 p hp).1
     ·have h1:=HGO.out.la
      have h2:=HOK2.out.1
      have h3:=HSO.out.1
      simp only [List.length_append,List.length_cons,List.length_nil] at h2 ⊢
      omega
    have HLT:Hid (rr.length<us.length):=by
     have h2:=HOK2.out.1
     have h3:=HSO.out.1
     rw [Hid]
     simp only [List.length_cons] at h2
     omega
    clear hcm HP HZS HGO HOK2 HCS2 HRN HLV5 HRK5 HSO HSS
    go_wp2_with (go_at_call 25;fail)
    refine hah.mono ?_
    rintro e w6 ⟨rfl,rfl⟩
    clear hah
    go_wp2_with (go_at_call 26;fail)
    refine hsk.mono ?_
    rintro e w7 ⟨rfl,hk7⟩
    have HGN:=hid_mk (HNX.out w7 hk7)
    clear hsk hk7 HNX
    go_wp2
    go_roundg us.length
    case measure=>exact HLK.out
    case rel=>exact ⟨_,_,_,_,_,_,rfl,HLT.out,HGN⟩
end Go.Proofs.YtdneaeokljoijaaGreatDoor.L
