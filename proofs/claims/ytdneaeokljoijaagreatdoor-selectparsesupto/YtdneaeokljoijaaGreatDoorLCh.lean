/- The reader of selectors: a choice. -/
import Derived.Test.YtdneaeokljoijaaGreatDoorYApp
import Derived.Test.YtdneaeokljoijaaGreatDoorYSameV
import Derived.Deep.MidRow
import Derived.Deep.RegionHeld3
import Derived.Lib.LazyBuf
import Derived.Deep.AppendLies
import Derived.Deep.RegionLaw
set_option maxRecDepth 100000
set_option maxHeartbeats 8000000
namespace Go.Proofs.YtdneaeokljoijaaGreatDoor.Y
open Go.RowKit
open Go.Proofs.YtdneaeokljoijaaGreatDoor.L (T5 V VsAt t5Cells vCells cell_of_heap)
def trimZ (vs:List V):List V:=aheadZ (vs.dropWhile spaceV)
theorem ris_any (w:World) (tk:Int) (tx un:ByteArray) (wh fl:Bool) (kid:Value) (k:Int) :
  Calls Tryz.prog 33 #[.agg #[.int .i64 tk,.string tx,.string un,.bool wh,.bool fl,kid],.int .i64 k] w fun e w'=>e=.returned (.bool (tk == k))∧Below w.heap.size w w':=by
 go_enter Tryz.func33,Tryz.ntmps33
 go_wp2
 go_ret
 exact ⟨rfl,(Below.refl _ w).alloc (Nat.le_refl _) _⟩
theorem space_eq (x:V):spaceV x=(x.tok.k == 13):=by
 unfold spaceV hasZ
 simp
 rfl
theorem rtrim_any {P:Nat→Prop} {w:World} {v:Value} {vs:List V} (hv:VsAt P w v vs) (hn:vs.length≤100000) :
  Calls Tryz.prog 16 #[v] w fun e w'=>∃ out,e=.returned out∧VsAt (fun b=>P b∨w.heap.size≤b) w' out (trimZ vs)∧Below w.heap.size w w':=by
 have HV:=hid_mk hv
 obtain ⟨a,cap,rfl,hl,hcap⟩:=hv.slice
 clear hv
 go_enter Tryz.func16,Tryz.ntmps16
 go_upto_block 0 with fail
 go_cut [0] (fun a0 wx=>VsAt P w a0 (vs.dropWhile spaceV)∧Below w.heap.size w wx)
 case first =>
  go_wp2_with fail
  go_loopw [0] (fun a0 wr=>∃ (us:List V),VsAt P w a0 us∧us.length≤vs.length∧Hid (vs.dropWhile spaceV=us.dropWhile spaceV)∧Below w.heap.size w wr) (fun a0 _=>sliceLen a0)
  case atStart=>exact ⟨vs,HV.out,Nat.le_refl _,(rfl:_=_),Below.refl _ _⟩
  case round =>
   obtain ⟨us,hus,hul,hE,hB⟩:=hrel
   cases us with
   | nil =>
     obtain ⟨a0,c0,rfl,_,_⟩:=hus.slice
     have HUS:=hid_mk hus
     have HW:=hE.out
     rw [List.dropWhile_nil] at HW
     have HW2:=hid_mk HW
     clear hus HW hE HV
     go_wp2_with fail
     go_meet
     exact ⟨by rw [HW2.out];exact HUS.out,hB⟩
   | cons x r =>
     obtain ⟨a0,c0,rfl,hl0,hc0⟩:=hus.slice
     have HUS:=hid_mk hus
     obtain ⟨_,_,_,hcs⟩:=hus.cells
     obtain ⟨b,off,kv,rfl,hbl,hcc,hkid⟩:=hcs 0 (by simp)
     have hq:=fun j y hy=>(hB.cell (p:=⟨b,off+0 * 6+j,none⟩) hbl).trans (hcc j y hy)
     simp only [Nat.zero_mul,Nat.add_zero,List.getElem_cons_zero] at hq hkid
     obtain ⟨⟨tk,tx,un,wh,fl⟩,xk⟩:=x
     obtain ⟨ka,kc,rfl,_,_⟩:=hkid.slice
     generalize (V.mk ⟨tk,tx,un,wh,fl⟩ xk).kids.length=kn at *
     have q0:wr.cell? ⟨b,off,none⟩=some (.int .i64 tk):=hq 0 _ rfl
     have q1:wr.cell? ⟨b,off+1,none⟩=some (.string tx):=hq 1 _ rfl
     have q2:wr.cell? ⟨b,off+2,none⟩=some (.string un):=hq 2 _ rfl
     have q3:wr.cell? ⟨b,off+3,none⟩=some (.bool wh):=hq 3 _ rfl
     have q4:wr.cell? ⟨b,off+4,none⟩=some (.bool fl):=hq 4 _ rfl
     have q5:wr.cell? ⟨b,off+5,none⟩=some (.slice ka kn kc):=hq 5 _ rfl
     have hc2:=ris_any wr tk tx un wh fl (.slice ka kn kc) 13
     have HE:=hE.out
     rw [List.dropWhile_cons,show spaceV (V.mk ⟨tk,tx,un,wh,fl⟩ xk)=(tk == 13) from space_eq _] at HE
     have HE2:=hid_mk HE
     rw [List.length_cons] at hul hl0
     generalize (tk == 13)=y at *
     have HB:=hid_mk hB
     clear hE HE hcs hcc hq hkid hB hus HV
     simp only [List.length_cons]
     go_wp2_with (go_at_call 33;fail)
     refine hc2.mono ?_
     rintro e w' ⟨rfl,hB2⟩
     have HB2:Hid (Below w.heap.size w w'):=HB.out.trans (hB2.mono HB.out.size)
     clear hc2 q0 q1 q2 q3 q4 q5 hB2
     cases y with
     | true =>
       have HR:Hid (vs.dropWhile spaceV=r.dropWhile spaceV):=by
        show _=_
        rw [HE2.out,if_pos rfl]
       clear HE2
       go_wp2
       all_goals
        go_roundw
        case rel=>exact ⟨r,VsAt.dropO HUS.out 1 (by simp) (by simp) rfl (fun h=>by simp only [List.length_cons] at h;rw [if_neg (by omega)]),by omega,HR.out,HB2.out⟩
        case measure=>simp [sliceLen]
     | false =>
       have HR:Hid (vs.dropWhile spaceV=V.mk ⟨tk,tx,un,wh,fl⟩ xk::r):=by
        show _=_
        rw [HE2.out,if_neg (by decide)]
       clear HE2
       go_wp2_with fail
       go_meet
       exact ⟨by rw [HR.out];exact HUS.out,HB2.out⟩
 case rest =>
 obtain ⟨hu1,hB1⟩:=hcut
 have HU1:=hid_mk hu1
 have HB1:=hid_mk hB1
 have hl1:(vs.dropWhile spaceV).length≤vs.length:=(List.dropWhile_sublist spaceV (l:=vs)).length_le
 have HTZ:Hid (trimZ vs=aheadZ (vs.dropWhile spaceV)):=(rfl:_=_)
 obtain ⟨a1,c1,rfl,_,_⟩:=hu1.slice
 clear hu1 hB1 HV
 generalize vs.dropWhile spaceV=vs1 at *
 go_upto_block 2 with fail
 go_cut [0] (fun a0 wx=>VsAt P w a0 (aheadZ vs1)∧Below w.heap.size w wx)
 case first =>
  go_wp2_with fail
  go_loopw [0] (fun a0 wr=>∃ (us:List V),VsAt P w a0 us∧us.length≤vs1.length∧Hid (aheadZ vs1=aheadZ us)∧Below w.heap.size w wr) (fun a0 _=>sliceLen a0)
  case atStart=>exact ⟨vs1,HU1.out,Nat.le_refl _,(rfl:_=_),HB1.out⟩
  case round =>
   obtain ⟨us,hus,hul,hE,hB⟩:=hrel
   rcases List.eq_nil_or_concat us with rfl | ⟨r,x,rfl⟩
   ·obtain ⟨a0,c0,rfl,_,_⟩:=hus.slice
    have HUS:=hid_mk hus
    have HW:=hE.out
    rw [aheadZ_nil] at HW
    have HW2:=hid_mk HW
    clear hus HW hE HU1
    go_wp2_with fail
    go_meet
    exact ⟨by rw [HW2.out];exact HUS.out,hB⟩
   ·rw [List.concat_eq_append] at hus hul hE
    obtain ⟨a0,c0,rfl,hl0,hc0⟩:=hus.slice
    have HUS:=hid_mk hus
    obtain ⟨_,_,_,hcs⟩:=hus.cells
    have hll:(r++[x]).length=r.length+1:=by simp
    obtain ⟨b,off,kv,rfl,hbl,hcc,hkid⟩:=hcs r.length (by omega)
    have hq:=fun j y hy=>(hB.cell (p:=⟨b,off+r.length * 6+j,none⟩) hbl).trans (hcc j y hy)
    have hgx:(r++[x])[r.length]'(by omega)=x:=by simp
    rw [hgx] at hq hkid
    obtain ⟨⟨tk,tx,un,wh,fl⟩,xk⟩:=x
    obtain ⟨ka,kc,rfl,_,_⟩:=hkid.slice
    generalize (V.mk ⟨tk,tx,un,wh,fl⟩ xk).kids.length=kn at *
    have q0:wr.cell? ⟨b,off+r.length * 6,none⟩=some (.int .i64 tk):=hq 0 _ rfl
    have q1:wr.cell? ⟨b,off+r.length * 6+1,none⟩=some (.string tx):=hq 1 _ rfl
    have q2:wr.cell? ⟨b,off+r.length * 6+2,none⟩=some (.string un):=hq 2 _ rfl
    have q3:wr.cell? ⟨b,off+r.length * 6+3,none⟩=some (.bool wh):=hq 3 _ rfl
    have q4:wr.cell? ⟨b,off+r.length * 6+4,none⟩=some (.bool fl):=hq 4 _ rfl
    have q5:wr.cell? ⟨b,off+r.length * 6+5,none⟩=some (.slice ka kn kc):=hq 5 _ rfl
    have hc2:=ris_any wr tk tx un wh fl (.slice ka kn kc) 13
    have HE:=hE.out
    rw [aheadZ_snoc,show spaceV (V.mk ⟨tk,tx,un,wh,fl⟩ xk)=(tk == 13) from space_eq _] at HE
    have HE2:=hid_mk HE
    have HTK:Hid ((r++[V.mk ⟨tk,tx,un,wh,fl⟩ xk]).take r.length=r):=by show _=_;simp
    rw [hll] at hul hl0
    rw [hll]
    generalize (tk == 13)=y at *
    have HB:=hid_mk hB
    clear hE HE hcs hcc hq hkid hB hus HU1 hgx
    go_wp2_with (go_at_call 33;fail)
    refine hc2.mono ?_
    rintro e w' ⟨rfl,hB2⟩
    have HB2:Hid (Below w.heap.size w w'):=HB.out.trans (hB2.mono HB.out.size)
    clear hc2 q0 q1 q2 q3 q4 q5 hB2
    cases y with
    | true =>
      have HR:Hid (aheadZ vs1=aheadZ r):=by
       show _=_
       rw [HE2.out,if_pos rfl]
      have HT:=HUS.out.take r.length (by omega)
      rw [HTK.out] at HT
      have HT2:=hid_mk HT
      clear HE2 HT
      go_wp2
      go_roundw
      case rel=>exact ⟨r,HT2.out,by omega,HR.out,HB2.out⟩
      case measure=>simp [sliceLen]
    | false =>
      have HR:Hid (aheadZ vs1=r++[V.mk ⟨tk,tx,un,wh,fl⟩ xk]):=by
       show _=_
       rw [HE2.out,if_neg (by decide)]
      have HU:=HUS.out
      rw [hll] at HU
      have HU2:=hid_mk HU
      clear HE2 HU
      go_wp2_with fail
      go_meet
      exact ⟨by rw [HR.out];exact HU2.out,HB2.out⟩
 case rest =>
 obtain ⟨hu2,hB2⟩:=hcut
 have hl2:=aheadZ_le vs1
 obtain ⟨a2,c2,rfl,_,_⟩:=hu2.slice
 have gl:Below wc.heap.size wc (wc.alloc (.cells #[] 34)):=(Below.refl _ wc).alloc (Nat.le_refl _) _
 have hws:=hB2.size
 have HR0:Hid (Row (fun b=>P b∨w.heap.size≤b) wc.heap.size (wc.alloc (.cells #[] 34)) (.slice (some ⟨wc.heap.size,0,none⟩) 0 0) []) :=
  ⟨World.ownsRow_lit (base:=wc.heap.size) (e:=34) (size:=6) wc #[] 0 (Nat.le_refl _) (by decide) rfl,fun g hg=>by have:wc.heap.size=g:=Option.some.inj hg;exact .inr (by omega),fun p hp=>by cases hp⟩
 have HPN:Hid (P (wc.alloc (.cells #[] 34)).heap.size∨w.heap.size≤(wc.alloc (.cells #[] 34)).heap.size):=.inr (by have:=gl.size;omega)
 have HS0:Hid (VsAt (fun b=>(P b∨w.heap.size≤b)∧(Value.slice (some ⟨wc.heap.size,0,none⟩) 0 0).ownBlock≠some b) (wc.alloc (.cells #[] 34)) (.slice a2 (aheadZ vs1).length c2) (aheadZ vs1)) :=
  (((hu2.keep hB2).wider (Q:=fun b=>P b∧b<wc.heap.size) (fun b hp h=>⟨hp,h⟩)).keep gl).wider (fun b hb _=>⟨.inl hb.1,fun e=>by have:wc.heap.size=b:=Option.some.inj e;omega⟩)
 have hn0:([]:List (T5×Value×List V)).length+(aheadZ vs1).length≤1000000:=by simp;omega
 have HB2:=hid_mk hB2
 clear hu2 hB2 HU1 HB1
 generalize aheadZ vs1=vs2 at *
 go_wp2_with (at_builtin;go_must (refine wpList_append_row (P:=fun b=>P b∨w.heap.size≤b) (ps:=[]) (vs:=vs2) rfl _ _ rfl rfl rfl HR0.out HS0.out hn0 gl.size HPN.out ?_);intro v8 w8 qs8 hrow8 hq8 hg8;have hv8:=hrow8.vals;rw [List.map_append,List.map_nil,List.nil_append,hq8] at hv8;obtain ⟨a8,c8,rfl,_,_⟩:=hv8.slice)
 have g8:=bgrown gl hg8 (fun j e=>by have:wc.heap.size=j:=Option.some.inj e;omega)
 have HB8:Hid (Below w.heap.size w w8):=HB2.out.trans (g8.mono HB2.out.size)
 have HV8:=hid_mk hv8
 clear hrow8 hq8 hg8 g8 hv8 HR0 HS0 gl
 go_ret
 exact ⟨_,rfl,by rw [HTZ.out];exact HV8.out,HB8.out⟩
end Go.Proofs.YtdneaeokljoijaaGreatDoor.Y
namespace Go.Proofs.YtdneaeokljoijaaGreatDoor.L
open Go.RowKit
theorem cells7 {W:World} {b:Nat} {x0 x1 x2 x3 x4 x5 x6:Value} {T:TypeId} (h:W.heap[b]? = some (.cells #[x0,x1,x2,x3,x4,x5,x6] T (0,0))) :
  (W.cell? ⟨b,0,none⟩=some x0∧W.cell? ⟨b,1,none⟩=some x1∧W.cell? ⟨b,2,none⟩=some x2∧W.cell? ⟨b,3,none⟩=some x3∧W.cell? ⟨b,4,none⟩=some x4∧W.cell? ⟨b,5,none⟩=some x5∧W.cell? ⟨b,6,none⟩=some x6) ∧
  (W.frozen? ⟨b,0,none⟩=false∧W.frozen? ⟨b,1,none⟩=false∧W.frozen? ⟨b,2,none⟩=false∧W.frozen? ⟨b,3,none⟩=false∧W.frozen? ⟨b,4,none⟩=false∧W.frozen? ⟨b,5,none⟩=false∧W.frozen? ⟨b,6,none⟩=false) :=
 ⟨⟨cellAt h 0,cellAt h 1,cellAt h 2,cellAt h 3,cellAt h 4,cellAt h 5,cellAt h 6⟩,by simp [World.frozen?,h],by simp [World.frozen?,h],by simp [World.frozen?,h],by simp [World.frozen?,h],by simp [World.frozen?,h],by simp [World.frozen?,h],by simp [World.frozen?,h]⟩
def SqPost (W:World) (r:Option S6) (e:Ending) (w':World):Prop:=(∃ s0,e=.returned (.tuple #[.agg (sC s0).toArray,.bool r.isSome])∧∀ s,r=some s→s0=s)∧Below W.heap.size W w'
theorem SqPost.no {W w':World} {s0:S6} (h:Below W.heap.size W w'):SqPost W none (.returned (.tuple #[.agg (sC s0).toArray,.bool false])) w':=⟨⟨s0,rfl,fun s e=>by cases e⟩,h⟩
theorem SqPost.yes {W w':World} {s:S6} (h:Below W.heap.size W w'):SqPost W (some s) (.returned (.tuple #[.agg (sC s).toArray,.bool true])) w':=⟨⟨s,rfl,fun s' e=>by cases e;rfl⟩,h⟩
theorem Below.set7 {B:Nat} {W w:World} (h:Below B W w) {b:Nat} (hb:B≤b) (x0 x1 x2 x3 x4 x5 x6:Value) :
  Below B W (((((((w.setCell ⟨b,0,none⟩ x0).setCell ⟨b,1,none⟩ x1).setCell ⟨b,2,none⟩ x2).setCell ⟨b,3,none⟩ x3).setCell ⟨b,4,none⟩ x4).setCell ⟨b,5,none⟩ x5).setCell ⟨b,6,none⟩ x6) :=
 ((((((h.setCell hb _).setCell hb _).setCell hb _).setCell hb _).setCell hb _).setCell hb _).setCell hb _
theorem heap_ne {W:World} {o i k:Nat} {x:Value} (h:k≠o):(W.setCell ⟨o,i,none⟩ x).heap[k]? = W.heap[k]?:=Below.heap_setCell _ _ _ _ h
theorem Below.set {B:Nat} {W w:World} (h:Below B W w) {o i:Nat} (ho:B≤o) (x:Value):Below B W (w.setCell ⟨o,i,none⟩ x):=h.setCell ho x
theorem Rd.else {W0 W:World} {lo b:Nat} {kids:Value} {vs:List V} (h:Rd lo W0 b kids vs W) {o i:Nat} (x:Value) (ho:b<o):Rd lo (W.setCell ⟨o,i,none⟩ x) b kids vs (W.setCell ⟨o,i,none⟩ x):=by
 obtain ⟨r,h1,h2⟩:=h.at'
 exact ⟨⟨r,(heap_ne (by omega)).trans h1,h2.stay (by simp) fun g hg _=>heap_ne (by omega)⟩,KeepX.of (Below.refl _ _)⟩
theorem inSq_any {W:World} {v:Value} {P:Nat→Prop} {vs:List V} (hv:VsAt P W v vs) (hsg:Signs W) (hf:Fit vs):Calls Tryz.prog 119 #[v] W (SqPost W (inSqR vs)):=by
 obtain ⟨lo,hlo⟩:∃ lo,lo=W.heap.size:=⟨_,rfl⟩
 obtain ⟨a,cap,rfl,hc1,hc2⟩:=hv.slice
 obtain ⟨W1,hW1⟩:∃ W1,W1=(W.alloc (.cells #[.int .i64 0,.string ⟨#[]⟩,.int .i64 0,.string ⟨#[]⟩,.int .i64 0,.int .i64 0,.slice none 0 0] 46)).alloc (.cells #[.slice a vs.length cap,.slice none 0 0] 54):=⟨_,rfl⟩
 have hB1:Below W.heap.size W W1:=by rw [hW1];exact ((Below.refl _ _).alloc (Nat.le_refl _) _).alloc (by simp) _
 have x0:W1.heap[W.heap.size]? = some (.cells #[.int .i64 0,.string ⟨#[]⟩,.int .i64 0,.string ⟨#[]⟩,.int .i64 0,.int .i64 0,.slice none 0 0] 46 (0,0)):=by
  rw [hW1,Below.heap_alloc _ _ _ (by simp)]
  exact heap_alloc_last W _
 have x1:W1.heap[W.heap.size+1]? = some (.cells #[.slice a vs.length cap,.slice none 0 0] 54 (0,0)):=by
  have e:W.heap.size+1=(W.alloc (.cells #[.int .i64 0,.string ⟨#[]⟩,.int .i64 0,.string ⟨#[]⟩,.int .i64 0,.int .i64 0,.slice none 0 0] 46)).heap.size:=by simp
  rw [hW1,e]
  exact heap_alloc_last _ _
 have hR1:Rd lo W1 (W.heap.size+1) (.slice none 0 0) vs W1:=⟨⟨_,x1,(hv.wider fun g _ hl=>by omega).keep hB1⟩,KeepX.of (Below.refl _ _)⟩
 have hsp:=spaces_any hR1
 have HI:Hid (inSqR vs=match spc vs with | v::r=>if (v.tok.k == 1)=true then sqO (foldS v.tok.tx) (spc r) else none | []=>none):=rfl
 have hfu:=hf.spc
 have HSG:Hid (∀ w',Below W.heap.size W w'→Signs w'):=fun w' h=>hsg.keep h
 generalize inSqR vs=R at *
 generalize spc vs=us at *
 have HW1:=hid_mk hW1
 clear hv hsg hf hR1 x1 hW1 hlo
 go_enter Tryz.func119,Tryz.ntmps119
 go_wp2_with (go_at_call 23;fail)
 rw [← HW1.out]
 refine hsp.mono ?_
 rintro e w2 ⟨rfl,hR2⟩
 have hB2:Below W.heap.size W w2:=hB1.trans (hR2.keep.below (by omega) hB1.size)
 have x2:w2.heap[W.heap.size]? = some (.cells #[.int .i64 0,.string ⟨#[]⟩,.int .i64 0,.string ⟨#[]⟩,.int .i64 0,.int .i64 0,.slice none 0 0] 46 (0,0)):=(hR2.keep.block _ (Array.getElem?_eq_some_iff.1 x0).1 (by omega)).trans x0
 have ha:=ahead_any hR2 0 1
 have HR2:=hid_mk hR2.self
 clear hsp hR2 HW1 x0 hB1
 go_wp2_with (go_at_call 25;fail)
 refine ha.mono ?_
 rintro e wa ⟨rfl,rfl⟩
 clear ha
 cases us with
 | nil =>
   have HE:Hid (R=none):=HI.out
   rw [show ahd [] 0 1=false from rfl]
   obtain ⟨⟨k0,k1,k2,k3,k4,k5,k6⟩,f0,f1,f2,f3,f4,f5,f6⟩:=cells7 x2
   have HB:=hid_mk hB2
   clear x2 hB2 HI HR2 HSG hfu
   go_wp2
   rw [HE.out]
   refine bodyPost_ret (v:=.tuple #[.agg #[.int .i64 0,.string ⟨#[]⟩,.int .i64 0,.string ⟨#[]⟩,.int .i64 0,.int .i64 0,.slice none 0 0],.bool false]) (by simp [results,Tryz.results119,go_sem,k0,k1,k2,k3,k4,k5,k6]) rfl (SqPost.no (s0:=⟨0,⟨#[]⟩,0,⟨#[]⟩,0,0⟩) (Below.set7 HB.out (Nat.le_refl _) _ _ _ _ _ _ _))
 | cons u r0 =>
 rw [ahd_cons]
 cases hk:(u.tok.k == 1) with
 | false =>
   have HE:Hid (R=none):=by rw [Hid,HI.out];simp only [];rw [if_neg (by rw [hk];decide)]
   obtain ⟨⟨k0,k1,k2,k3,k4,k5,k6⟩,f0,f1,f2,f3,f4,f5,f6⟩:=cells7 x2
   have HB:=hid_mk hB2
   clear x2 hB2 HI HR2 HSG hfu hk
   go_wp2
   rw [HE.out]
   refine bodyPost_ret (v:=.tuple #[.agg #[.int .i64 0,.string ⟨#[]⟩,.int .i64 0,.string ⟨#[]⟩,.int .i64 0,.int .i64 0,.slice none 0 0],.bool false]) (by simp [results,Tryz.results119,go_sem,k0,k1,k2,k3,k4,k5,k6]) rfl (SqPost.no (s0:=⟨0,⟨#[]⟩,0,⟨#[]⟩,0,0⟩) (Below.set7 HB.out (Nat.le_refl _) _ _ _ _ _ _ _))
 | true =>
 have HE:Hid (R=sqO (foldS u.tok.tx) (spc r0)):=by rw [Hid,HI.out];simp only [];rw [if_pos hk]
 have hus:u.tok.tx.size≤1000000000000:=hfu.tx' u (by simp)
 have hfr:Fit (spc r0):=(hfu.drop 1).spc
 obtain ⟨a',n,cap',hn,hc1',hc2',h1,_,hs⟩:=HR2.out.see
 have c0:wa.cell? ⟨W.heap.size+1,0,none⟩=some (.slice a' n cap'):=cellAt h1 0
 obtain ⟨hl,g,off,kv,rfl,q0,q1,q4,q5,hkv⟩:=hs 0 u rfl
 rw [Nat.zero_mul,Nat.add_zero] at q0 q1 q4 q5
 have hfo:=fold_any u.tok.tx wa hus
 have HX:=hid_mk x2
 have HB:=hid_mk hB2
 clear h1 hs hn hk q0 q4 q5 hkv HI x2 hB2 hfu
 go_wp2_with (go_at_call 72;fail)
 refine hfo.mono ?_
 rintro e w3 ⟨rfl,hB3⟩
 generalize foldS u.tok.tx=nm at *
 obtain ⟨W4,hW4⟩:∃ W4,W4=w3.alloc (.cells #[.int .i64 4,.string nm,.int .i64 0,.string ⟨#[]⟩,.int .i64 0,.int .i64 0,.slice none 0 0] 46):=⟨_,rfl⟩
 have hB4:Below wa.heap.size wa W4:=by rw [hW4];exact hB3.alloc hB3.size _
 have y4:W4.heap[w3.heap.size]? = some (.cells #[.int .i64 4,.string nm,.int .i64 0,.string ⟨#[]⟩,.int .i64 0,.int .i64 0,.slice none 0 0] 46 (0,0)):=by rw [hW4];exact heap_alloc_last w3 _
 have hR4:=(HR2.out.then hB4).self
 have hbo:W.heap.size+1<w3.heap.size:=Nat.lt_of_lt_of_le HR2.out.lt hB3.size
 have x4:W4.heap[W.heap.size]? = some (.cells #[.int .i64 0,.string ⟨#[]⟩,.int .i64 0,.string ⟨#[]⟩,.int .i64 0,.int .i64 0,.slice none 0 0] 46 (0,0)):=(hB4.block _ (Array.getElem?_eq_some_iff.1 HX.out).1).trans HX.out
 have hBW:Below W.heap.size W W4:=HB.out.trans (hB4.mono HB.out.size)
 have hsk:=skip_any hR4 1 (by simp)
 have HW4:=hid_mk hW4
 clear hfo hB3 hW4 hB4 hR4 HR2 HX HB q1 c0
 go_wp2_with (go_at_call 26;fail)
 rw [← HW4.out]
 refine hsk.mono ?_
 rintro e w5 ⟨rfl,hR5⟩
 have hsp:=spaces_any hR5.self
 have HR5:=hid_mk hR5
 clear hsk hR5 HW4
 rw [show (u::r0).drop 1=r0 from rfl] at hsp HR5
 go_wp2_with (go_at_call 23;fail)
 refine hsp.mono ?_
 rintro e w6 ⟨rfl,hR6⟩
 have hk6:=HR5.out.keep.trans hR6.keep
 have y6:w6.heap[w3.heap.size]? = some (.cells #[.int .i64 4,.string nm,.int .i64 0,.string ⟨#[]⟩,.int .i64 0,.int .i64 0,.slice none 0 0] 46 (0,0)):=(hk6.block _ (Array.getElem?_eq_some_iff.1 y4).1 (by omega)).trans y4
 have x6:w6.heap[W.heap.size]? = some (.cells #[.int .i64 0,.string ⟨#[]⟩,.int .i64 0,.string ⟨#[]⟩,.int .i64 0,.int .i64 0,.slice none 0 0] 46 (0,0)):=(hk6.block _ (Array.getElem?_eq_some_iff.1 x4).1 (by omega)).trans x4
 have hB6:Below W.heap.size W w6:=hBW.trans (hk6.below (by omega) hBW.size)
 have hR6':=hR6.self
 generalize w3.heap.size=o at *
 generalize spc r0=r at *
 clear hsp HR5 hR6 hk6 y4 x4 hBW
 obtain ⟨a6,n6,cap6,hn6,hc61,hc62,h61,_,_⟩:=hR6'.see
 have d0:w6.cell? ⟨W.heap.size+1,0,none⟩=some (.slice a6 n6 cap6):=cellAt h61 0
 cases r with
 | nil =>
   have HE2:Hid (R=some ⟨4,nm,0,⟨#[]⟩,0,0⟩):=HE.out
   have hn0:n6=0:=hn6
   subst hn0
   obtain ⟨⟨k0,k1,k2,k3,k4,k5,k6⟩,f0,f1,f2,f3,f4,f5,f6⟩:=cells7 x6
   obtain ⟨⟨t0,t1,t2,t3,t4,t5,t6⟩,_⟩:=cells7 y6
   have HB:=hid_mk hB6
   clear x6 y6 hB6 hR6' h61 hn6 HE HSG
   go_wp2
   rw [HE2.out]
   refine bodyPost_ret (v:=.tuple #[.agg #[.int .i64 4,.string nm,.int .i64 0,.string ⟨#[]⟩,.int .i64 0,.int .i64 0,.slice none 0 0],.bool true]) (by simp [results,Tryz.results119,go_sem,k0,k1,k2,k3,k4,k5,k6]) rfl (SqPost.yes (s:=⟨4,nm,0,⟨#[]⟩,0,0⟩) (Below.set7 HB.out (Nat.le_refl _) _ _ _ _ _ _ _))
 | cons z r1 =>
 have HE2:Hid (R=sqV nm (opR (z::r1)).1 (spc ((z::r1).drop (opR (z::r1)).2))):=HE.out
 have hn0:((n6:Int) == 0)=false:=by
  have:n6=r1.length+1:=hn6
  rw [beq_eq_false_iff_ne]
  omega
 have hop:=operator_any hR6' (HSG.out w6 hB6)
 have hfv:Fit (spc ((z::r1).drop (opR (z::r1)).2)):=(hfr.drop _).spc
 generalize (opR (z::r1)).1=op at *
 generalize (z::r1).drop (opR (z::r1)).2=r2 at *
 have HX:=hid_mk x6
 have HY:=hid_mk y6
 have HB:=hid_mk hB6
 have HR6:=hid_mk hR6'
 clear x6 y6 hB6 hR6' h61 hn6 HE HSG hfr
 go_wp2_with (go_at_call 126;fail)
 refine hop.mono ?_
 rintro e w7 ⟨rfl,hR7⟩
 have y7:w7.heap[o]? = some (.cells #[.int .i64 4,.string nm,.int .i64 0,.string ⟨#[]⟩,.int .i64 0,.int .i64 0,.slice none 0 0] 46 (0,0)):=(hR7.keep.block _ (Array.getElem?_eq_some_iff.1 HY.out).1 (by omega)).trans HY.out
 have x7:w7.heap[W.heap.size]? = some (.cells #[.int .i64 0,.string ⟨#[]⟩,.int .i64 0,.string ⟨#[]⟩,.int .i64 0,.int .i64 0,.slice none 0 0] 46 (0,0)):=(hR7.keep.block _ (Array.getElem?_eq_some_iff.1 HX.out).1 (by omega)).trans HX.out
 have hB7:Below W.heap.size W w7:=HB.out.trans (hR7.keep.below (by omega) HB.out.size)
 obtain ⟨⟨t0,t1,t2,t3,t4,t5,t6⟩,g0,g1,g2,g3,g4,g5,g6⟩:=cells7 y7
 obtain ⟨W8,hW8⟩:∃ W8,W8=w7.setCell ⟨o,2,none⟩ (.int .i64 op):=⟨_,rfl⟩
 have hR8:Rd lo W8 (W.heap.size+1) (.slice none 0 0) r2 W8:=by rw [hW8];exact hR7.else _ hbo
 have y8:W8.heap[o]? = some (.cells #[.int .i64 4,.string nm,.int .i64 op,.string ⟨#[]⟩,.int .i64 0,.int .i64 0,.slice none 0 0] 46 (0,0)):=by rw [hW8,set_at 2 _ _ y7];rfl
 have x8:W8.heap[W.heap.size]? = some (.cells #[.int .i64 0,.string ⟨#[]⟩,.int .i64 0,.string ⟨#[]⟩,.int .i64 0,.int .i64 0,.slice none 0 0] 46 (0,0)):=by rw [hW8,heap_ne (by omega)];exact x7
 have hB8:Below W.heap.size W W8:=by rw [hW8];exact Below.set hB7 (by omega) _
 have hsp:=spaces_any hR8
 have HW8:=hid_mk hW8
 have HX8:=hid_mk x8
 have HY8:=hid_mk y8
 have HB8:=hid_mk hB8
 clear hop hR7 x7 y7 hB7 HX HY HB HR6 hR8 hW8 x8 y8 hB8 d0
 go_wp2_with (go_at_call 23;fail)
 rw [← HW8.out]
 refine hsp.mono ?_
 rintro e w9 ⟨rfl,hR9⟩
 have y9:w9.heap[o]? = some (.cells #[.int .i64 4,.string nm,.int .i64 op,.string ⟨#[]⟩,.int .i64 0,.int .i64 0,.slice none 0 0] 46 (0,0)):=(hR9.keep.block _ (Array.getElem?_eq_some_iff.1 HY8.out).1 (by omega)).trans HY8.out
 have x9:w9.heap[W.heap.size]? = some (.cells #[.int .i64 0,.string ⟨#[]⟩,.int .i64 0,.string ⟨#[]⟩,.int .i64 0,.int .i64 0,.slice none 0 0] 46 (0,0)):=(hR9.keep.block _ (Array.getElem?_eq_some_iff.1 HX8.out).1 (by omega)).trans HX8.out
 have hB9:Below W.heap.size W w9:=HB8.out.trans (hR9.keep.below (by omega) HB8.out.size)
 have ha1:=ahead_any hR9.self 0 1
 have ha5:=ahead_any hR9.self 0 5
 have HR9:=hid_mk hR9.self
 generalize spc r2=r3 at *
 clear hsp hR9 HX8 HY8 HB8 HW8 t0 t1 t2 t3 t4 t5 t6 g0 g1 g2 g3 g4 g5 g6
 obtain ⟨⟨t0,t1,t2,t3,t4,t5,t6⟩,g0,g1,g2,g3,g4,g5,g6⟩:=cells7 y9
 cases ho:(op == 0) with
 | true =>
   have HE3:Hid (R=none):=by
    have ho':(op != 0)=false:=by rw [bne,ho];rfl
    rw [Hid,HE2.out]
    unfold sqV
    cases r3 with
    | nil=>rfl
    | cons x y=>simp only [ho',Bool.false_and];rfl
   obtain ⟨⟨k0,k1,k2,k3,k4,k5,k6⟩,f0,f1,f2,f3,f4,f5,f6⟩:=cells7 x9
   have HB:=hid_mk hB9
   clear ha1 ha5 HR9 x9 y9 hB9 HE2 hfv
   go_wp2
   rw [HE3.out]
   refine bodyPost_ret (v:=.tuple #[.agg #[.int .i64 0,.string ⟨#[]⟩,.int .i64 0,.string ⟨#[]⟩,.int .i64 0,.int .i64 0,.slice none 0 0],.bool false]) (by simp [results,Tryz.results119,go_sem,k0,k1,k2,k3,k4,k5,k6]) rfl (SqPost.no (s0:=⟨0,⟨#[]⟩,0,⟨#[]⟩,0,0⟩) (Below.set7 HB.out (Nat.le_refl _) _ _ _ _ _ _ _))
 | false =>
 have ho':(op != 0)=true:=by rw [bne,ho];rfl
 cases hq:(ahd r3 0 1 || ahd r3 0 5) with
 | false =>
   rw [Bool.or_eq_false_iff] at hq
   have HE3:Hid (R=none):=by
    rw [Hid,HE2.out]
    unfold sqV
    cases r3 with
    | nil=>rfl
    | cons x y =>
      rw [ahd_cons,ahd_cons] at hq
      simp only [hq.1,hq.2,Bool.or_self,Bool.and_false,Bool.false_and]
      rfl
   rw [hq.1] at ha1
   rw [hq.2] at ha5
   obtain ⟨⟨k0,k1,k2,k3,k4,k5,k6⟩,f0,f1,f2,f3,f4,f5,f6⟩:=cells7 x9
   have HB:=hid_mk hB9
   clear HR9 x9 y9 hB9 HE2 hfv hq ho'
   go_wp2_with (go_at_call 25;fail)
   refine ha1.mono ?_
   rintro e wb ⟨rfl,rfl⟩
   clear ha1
   go_wp2_with (go_at_call 25;fail)
   refine ha5.mono ?_
   rintro e wb ⟨rfl,rfl⟩
   clear ha5
   go_wp2
   rw [HE3.out]
   refine bodyPost_ret (v:=.tuple #[.agg #[.int .i64 0,.string ⟨#[]⟩,.int .i64 0,.string ⟨#[]⟩,.int .i64 0,.int .i64 0,.slice none 0 0],.bool false]) (by simp [results,Tryz.results119,go_sem,k0,k1,k2,k3,k4,k5,k6]) rfl (SqPost.no (s0:=⟨0,⟨#[]⟩,0,⟨#[]⟩,0,0⟩) (Below.set7 HB.out (Nat.le_refl _) _ _ _ _ _ _ _))
 | true =>
 cases r3 with
 | nil=>cases hq
 | cons x r4 =>
 rw [ahd_cons,ahd_cons] at hq
 rw [ahd_cons] at ha1 ha5
 have HE3:Hid (R=if (spc r4).isEmpty=true then some ⟨4,nm,op,x.tok.tx,0,0⟩ else none):=by
  rw [Hid,HE2.out]
  unfold sqV
  simp only [ho',hq,Bool.true_and]
 obtain ⟨a9,n9,cap9,hn9,hc91,hc92,h91,_,hs9⟩:=HR9.out.see
 have d0:w9.cell? ⟨W.heap.size+1,0,none⟩=some (.slice a9 n9 cap9):=cellAt h91 0
 obtain ⟨hl9,g',off',kv',rfl,_,q1,_⟩:=hs9 0 x rfl
 rw [Nat.zero_mul,Nat.add_zero] at q1
 obtain ⟨W10,hW10⟩:∃ W10,W10=w9.setCell ⟨o,3,none⟩ (.string x.tok.tx):=⟨_,rfl⟩
 have hR10:Rd lo W10 (W.heap.size+1) (.slice none 0 0) (x::r4) W10:=by rw [hW10];exact HR9.out.else _ hbo
 have y10:W10.heap[o]? = some (.cells #[.int .i64 4,.string nm,.int .i64 op,.string x.tok.tx,.int .i64 0,.int .i64 0,.slice none 0 0] 46 (0,0)):=by rw [hW10,set_at 3 _ _ y9];rfl
 have x10:W10.heap[W.heap.size]? = some (.cells #[.int .i64 0,.string ⟨#[]⟩,.int .i64 0,.string ⟨#[]⟩,.int .i64 0,.int .i64 0,.slice none 0 0] 46 (0,0)):=by rw [hW10,heap_ne (by omega)];exact x9
 have hB10:Below W.heap.size W W10:=by rw [hW10];exact Below.set hB9 (by omega) _
 have hsk:=skip_any hR10 1 (by simp)
 have HW10:=hid_mk hW10
 have HX10:=hid_mk x10
 have HY10:=hid_mk y10
 have HB10:=hid_mk hB10
 have HQ:=hid_mk hq
 generalize x.tok.tx=tx at *
 clear HR9 h91 hs9 hn9 hW10 x10 y10 hB10 x9 y9 hB9 HE2 hR10 hfv hq ho'
 generalize (x.tok.k == 1)=b1 at *
 generalize (x.tok.k == 5)=b5 at *
 have HN:=hid_mk hsk
 cases b1 with
 | true =>
   clear ha5
   go_wp2_with (go_at_call 25;fail)
   refine ha1.mono ?_
   rintro e wb ⟨rfl,rfl⟩
   clear ha1 HN
   go_wp2_with (go_at_call 26;fail)
   rw [← HW10.out]
   refine hsk.mono ?_
   rintro e w11 ⟨rfl,hR11⟩
   have hsp:=spaces_any hR11.self
   have HR11:=hid_mk hR11
   rw [show (x::r4).drop 1=r4 from rfl] at hsp HR11
   clear hsk hR11 HW10 d0 q1 t0 t1 t2 t3 t4 t5 t6 g0 g1 g2 g3 g4 g5 g6 HQ
   go_wp2_with (go_at_call 23;fail)
   refine hsp.mono ?_
   rintro e w12 ⟨rfl,hR12⟩
   have hk12:=HR11.out.keep.trans hR12.keep
   have y12:=(hk12.block _ (Array.getElem?_eq_some_iff.1 HY10.out).1 (by omega)).trans HY10.out
   have x12:=(hk12.block _ (Array.getElem?_eq_some_iff.1 HX10.out).1 (by omega)).trans HX10.out
   have hB12:Below W.heap.size W w12:=HB10.out.trans (hk12.below (by omega) HB10.out.size)
   obtain ⟨a12,n12,cap12,hn12,_,_,h12,_,_⟩:=hR12.see
   have d0:w12.cell? ⟨W.heap.size+1,0,none⟩=some (.slice a12 n12 cap12):=cellAt h12 0
   obtain ⟨⟨k0,k1,k2,k3,k4,k5,k6⟩,f0,f1,f2,f3,f4,f5,f6⟩:=cells7 x12
   obtain ⟨⟨t0,t1,t2,t3,t4,t5,t6⟩,_⟩:=cells7 y12
   have HB:=hid_mk hB12
   have HE4:Hid (R=if n12=0 then some ⟨4,nm,op,tx,0,0⟩ else none):=by
    rw [Hid,HE3.out,hn12]
    cases spc r4 with
    | nil=>rfl
    | cons _ _=>rfl
   clear hsp HR11 hR12 hk12 y12 x12 hB12 hn12 h12 HX10 HY10 HB10 HE3
   by_cases hz:n12=0
   ·have HE5:Hid (R=some ⟨4,nm,op,tx,0,0⟩):=by rw [Hid,HE4.out,if_pos hz]
    subst hz
    clear HE4
    go_upto_region 17 with (fail)
    go_region
    go_wp2
    rw [HE5.out]
    refine bodyPost_ret (v:=.tuple #[.agg #[.int .i64 4,.string nm,.int .i64 op,.string tx,.int .i64 0,.int .i64 0,.slice none 0 0],.bool true]) (by simp [results,Tryz.results119,go_sem,k0,k1,k2,k3,k4,k5,k6]) rfl (SqPost.yes (s:=⟨4,nm,op,tx,0,0⟩) (Below.set7 HB.out (Nat.le_refl _) _ _ _ _ _ _ _).drew)
   ·have HE5:Hid (R=none):=by rw [Hid,HE4.out,if_neg hz]
    have hz':((n12:Int) == 0)=false:=by rw [beq_eq_false_iff_ne];omega
    clear HE4
    go_upto_region 17 with (fail)
    go_region
    go_wp2
    rw [HE5.out]
    refine bodyPost_ret (v:=.tuple #[.agg #[.int .i64 4,.string nm,.int .i64 op,.string tx,.int .i64 0,.int .i64 0,.slice none 0 0],.bool false]) (by simp [results,Tryz.results119,go_sem,k0,k1,k2,k3,k4,k5,k6]) rfl (SqPost.no (s0:=⟨4,nm,op,tx,0,0⟩) (Below.set7 HB.out (Nat.le_refl _) _ _ _ _ _ _ _).drew)
 | false =>
   have hb5:b5=true:=HQ.out
   subst hb5
   go_wp2_with (go_at_call 25;fail)
   refine ha1.mono ?_
   rintro e wb ⟨rfl,rfl⟩
   clear ha1
   go_wp2_with (go_at_call 25;fail)
   refine ha5.mono ?_
   rintro e wb ⟨rfl,rfl⟩
   clear ha5 HN
   go_wp2_with (go_at_call 26;fail)
   rw [← HW10.out]
   refine hsk.mono ?_
   rintro e w11 ⟨rfl,hR11⟩
   have hsp:=spaces_any hR11.self
   have HR11:=hid_mk hR11
   rw [show (x::r4).drop 1=r4 from rfl] at hsp HR11
   clear hsk hR11 HW10 d0 q1 t0 t1 t2 t3 t4 t5 t6 g0 g1 g2 g3 g4 g5 g6 HQ
   go_wp2_with (go_at_call 23;fail)
   refine hsp.mono ?_
   rintro e w12 ⟨rfl,hR12⟩
   have hk12:=HR11.out.keep.trans hR12.keep
   have y12:=(hk12.block _ (Array.getElem?_eq_some_iff.1 HY10.out).1 (by omega)).trans HY10.out
   have x12:=(hk12.block _ (Array.getElem?_eq_some_iff.1 HX10.out).1 (by omega)).trans HX10.out
   have hB12:Below W.heap.size W w12:=HB10.out.trans (hk12.below (by omega) HB10.out.size)
   obtain ⟨a12,n12,cap12,hn12,_,_,h12,_,_⟩:=hR12.see
   have d0:w12.cell? ⟨W.heap.size+1,0,none⟩=some (.slice a12 n12 cap12):=cellAt h12 0
   obtain ⟨⟨k0,k1,k2,k3,k4,k5,k6⟩,f0,f1,f2,f3,f4,f5,f6⟩:=cells7 x12
   obtain ⟨⟨t0,t1,t2,t3,t4,t5,t6⟩,_⟩:=cells7 y12
   have HB:=hid_mk hB12
   have HE4:Hid (R=if n12=0 then some ⟨4,nm,op,tx,0,0⟩ else none):=by
    rw [Hid,HE3.out,hn12]
    cases spc r4 with
    | nil=>rfl
    | cons _ _=>rfl
   clear hsp HR11 hR12 hk12 y12 x12 hB12 hn12 h12 HX10 HY10 HB10 HE3
   by_cases hz:n12=0
   ·have HE5:Hid (R=some ⟨4,nm,op,tx,0,0⟩):=by rw [Hid,HE4.out,if_pos hz]
    subst hz
    clear HE4
    go_upto_region 17 with (fail)
    go_region
    go_wp2
    rw [HE5.out]
    refine bodyPost_ret (v:=.tuple #[.agg #[.int .i64 4,.string nm,.int .i64 op,.string tx,.int .i64 0,.int .i64 0,.slice none 0 0],.bool true]) (by simp [results,Tryz.results119,go_sem,k0,k1,k2,k3,k4,k5,k6]) rfl (SqPost.yes (s:=⟨4,nm,op,tx,0,0⟩) (Below.set7 HB.out (Nat.le_refl _) _ _ _ _ _ _ _).drew)
   ·have HE5:Hid (R=none):=by rw [Hid,HE4.out,if_neg hz]
    have hz':((n12:Int) == 0)=false:=by rw [beq_eq_false_iff_ne];omega
    clear HE4
    go_upto_region 17 with (fail)
    go_region
    go_wp2
    rw [HE5.out]
    refine bodyPost_ret (v:=.tuple #[.agg #[.int .i64 4,.string nm,.int .i64 op,.string tx,.int .i64 0,.int .i64 0,.slice none 0 0],.bool false]) (by simp [results,Tryz.results119,go_sem,k0,k1,k2,k3,k4,k5,k6]) rfl (SqPost.no (s0:=⟨4,nm,op,tx,0,0⟩) (Below.set7 HB.out (Nat.le_refl _) _ _ _ _ _ _ _).drew)
def VC (w:World) (b o:Nat) (t:T5) (k:Value):Prop:=w.cell? ⟨b,o,none⟩=some (.int .i64 t.k)∧w.cell? ⟨b,o+1,none⟩=some (.string t.tx)∧w.cell? ⟨b,o+2,none⟩=some (.string t.un)∧w.cell? ⟨b,o+3,none⟩=some (.bool t.wh)∧w.cell? ⟨b,o+4,none⟩=some (.bool t.fl)∧w.cell? ⟨b,o+5,none⟩=some k
theorem VsAt.item {P:Nat→Prop} {W:World} {v:Value} {x:V} {r:List V} (h:VsAt P W v (x::r)):∃ b off cap ka kn kc,v=.slice (some ⟨b,off,none⟩) (r.length+1) cap∧r.length+1≤cap∧cap≤9223372036854775807∧(∀ w,Below W.heap.size W w→VC w b off x.tok (.slice ka kn kc))∧VsAt P W (.slice ka kn kc) x.kids ∧
  (∀ a' n' c',n'=r.length→c'=cap - 1→(0<r.length→a'=some ⟨b,off+6,none⟩)→VsAt P W (.slice a' n' c') r):=by
 obtain ⟨a,cap,rfl,h1,h2⟩:=h.slice
 have h0:=h
 obtain ⟨_,_,_,hcs⟩:=h.cells
 obtain ⟨b,off,kv,rfl,hbl,hcc,hk⟩:=hcs 0 (by simp)
 simp only [Nat.zero_mul,Nat.add_zero,List.getElem_cons_zero] at hcc hk
 obtain ⟨ka,kc,rfl,_,_⟩:=hk.slice
 refine ⟨b,off,cap,ka,_,kc,rfl,h1,h2,fun w hb=>?_,hk,fun a' n' c' hn hc ha=>?_⟩
 ·have hq:=fun j y hy=>(hb.cell (p:=⟨b,off+j,none⟩) hbl).trans (hcc j y hy)
  exact ⟨hq 0 _ rfl,hq 1 _ rfl,hq 2 _ rfl,hq 3 _ rfl,hq 4 _ rfl,hq 5 _ rfl⟩
 ·have:=Y.VsAt.dropO h0 1 (by simp) (a':=a') (n':=n') (c':=c') (by simp [hn]) hc (fun h=>by rw [Nat.one_mul];exact ha (by simpa using h))
  simpa using this
theorem VsAt.item2 {P:Nat→Prop} {W:World} {v:Value} {x y:V} {r:List V} (h:VsAt P W v (x::y::r)):∃ b off cap ka kn kc la ln lc,v=.slice (some ⟨b,off,none⟩) (r.length+1+1) cap∧r.length+1+1≤cap∧cap≤9223372036854775807∧(∀ w,Below W.heap.size W w→VC w b off x.tok (.slice ka kn kc)∧VC w b (off+6) y.tok (.slice la ln lc))∧VsAt P W (.slice ka kn kc) x.kids∧VsAt P W (.slice la ln lc) y.kids ∧
  (∀ a' n' c',n'=r.length→c'=cap - 2→(0<r.length→a'=some ⟨b,off+12,none⟩)→VsAt P W (.slice a' n' c') r)∧(∀ a' n' c',n'=r.length+1→c'=cap - 1→a'=some ⟨b,off+6,none⟩→VsAt P W (.slice a' n' c') (y::r)):=by
 obtain ⟨b,off,cap,ka,kn,kc,e,h1,h2,h3,h4,h5⟩:=h.item
 have h6:=h5 (some ⟨b,off+6,none⟩) _ _ rfl rfl (fun _=>rfl)
 obtain ⟨b',off',cap',la,ln,lc,e',g1,g2,g3,g4,g5⟩:=h6.item
 cases e'
 refine ⟨b,off,cap,ka,kn,kc,la,ln,lc,e,h1,h2,fun w hb=>⟨h3 w hb,g3 w hb⟩,h4,g4,fun a' n' c' hn hc ha=>g5 a' n' c' hn (by omega) (fun h=>by rw [show off+6+6=off+12 by omega];exact ha h),fun a' n' c' hn hc ha=>h5 a' n' c' (by simpa using hn) hc (fun _=>ha)⟩
theorem trim_eq (l:List V):Y.trimZ l=trm l:=by
 have e:Y.spaceV=spB:=funext fun x=>Y.space_eq x
 unfold Y.trimZ Y.aheadZ trm
 rw [e]
 rfl
theorem trim_any {P:Nat→Prop} {w:World} {v:Value} {vs:List V} (hv:VsAt P w v vs) (hn:vs.length≤100000) :
  Calls Tryz.prog 16 #[v] w fun e w'=>∃ a n c,e=.returned (.slice a n c)∧VsAt (fun b=>P b∨w.heap.size≤b) w' (.slice a n c) (trm vs)∧n=(trm vs).length∧n≤c∧c≤9223372036854775807∧Below w.heap.size w w':=(Y.rtrim_any hv hn).mono fun e w' ⟨out,h1,h2,h3⟩=>by
 rw [trim_eq] at h2
 obtain ⟨a,c,e',g1,g2⟩:=h2.slice
 subst e'
 exact ⟨a,_,c,h1,h2,rfl,g1,g2,h3⟩
end Go.Proofs.YtdneaeokljoijaaGreatDoor.L
namespace Go.Proofs.YtdneaeokljoijaaGreatDoor.Y
open Go.RowKit
open Go.Proofs.YtdneaeokljoijaaGreatDoor.L (T5 V VsAt t5Cells vCells cell_of_heap)
def Part (B0:Nat) (w:World) (g i:Nat) (vs:List V):Prop :=
 B0≤g∧g<w.heap.size∧w.there g 0 (vs.length * 6)∧∃ kv:Nat→Value,∀ j (h:j<vs.length),j<i→w.rangeAt g (j * 6) (vCells (vs[j]'h).tok (kv j))∧VsAt (fun b=>B0≤b∧b≠g) w (kv j) (vs[j]'h).kids
theorem Part.keep {B0:Nat} {w w':World} {g i:Nat} {vs:List V} (h:Part B0 w g i vs) (hb:Below w.heap.size w w'):Part B0 w' g i vs:=by
 obtain ⟨h1,h2,h3,kv,h4⟩:=h
 refine ⟨h1,Nat.lt_of_lt_of_le h2 hb.size,fun j hj=>?_,kv,fun j hj hi=>⟨fun k v hv=>?_,(h4 j hj hi).2.keep hb⟩⟩
 ·rw [hb.cell (p:=⟨g,0+j,none⟩) h2,hb.frozen (p:=⟨g,0+j,none⟩) h2]
  exact h3 j hj
 ·rw [hb.cell (p:=⟨g,j * 6+k,none⟩) h2]
  exact (h4 j hj hi).1 k v hv
theorem Part.start {w w':World} {vs:List V} {xs:List Value} (hown:w'.ownsRow w.heap.size 34 6 (.slice (some ⟨w.heap.size,0,none⟩) vs.length vs.length) vs.length xs):Part w.heap.size w' w.heap.size 0 vs:=by
 refine ⟨Nat.le_refl _,(hown.lt _ rfl).2,fun j hj=>?_,fun _=>.slice none 0 0,fun j _ h=>by omega⟩
 rw [Nat.zero_add]
 refine ⟨?_,hown.frozenAt j⟩
 rw [hown.cellAt j hj]
 have:=hown.1
 simp [this,hj]
theorem size_setCellsV (b:Nat):∀ (vs:List Value) (o:Nat) (w:World),(w.setCells b o vs).heap.size=w.heap.size
 | [],_,_=>rfl
 | v::r,o,w=>(size_setCellsV b r (o+1) _).trans (by simp)
theorem heap_setCellsV (g:Nat):∀ (vs:List Value) (o:Nat) (w:World) (b:Nat),b≠g→(w.setCells g o vs).heap[b]? = w.heap[b]?
 | [],_,_,_,_=>rfl
 | v::r,o,w,b,h=>(heap_setCellsV g r (o+1) _ b h).trans (Below.heap_setCell w ⟨g,o,none⟩ v b h)
theorem Part.step {B0:Nat} {w:World} {g i:Nat} {vs:List V} (h:Part B0 w g i vs) (hi:i<vs.length) {kid:Value} (hk:VsAt (fun b=>B0≤b∧b≠g) w kid (vs[i]'hi).kids):Part B0 (w.setCells g (i * 6) (vCells (vs[i]'hi).tok kid)) g (i+1) vs:=by
 obtain ⟨h1,h2,h3,kv,h4⟩:=h
 have hs:(w.setCells g (i * 6) (vCells (vs[i]'hi).tok kid)).heap.size=w.heap.size:=size_setCellsV ..
 have hoth:∀ b,B0≤b∧b≠g→b<w.heap.size→(w.setCells g (i * 6) (vCells (vs[i]'hi).tok kid)).heap[b]? = w.heap[b]?:=fun b hb hlt=>heap_setCellsV g _ (i * 6) w b hb.2
 refine ⟨h1,by omega,World.there_setCells h3 _ _ _,fun j=>if j=i then kid else kv j,fun j hj hlt=>?_⟩
 by_cases e:j=i
 ·subst e
  simp only [if_true]
  refine ⟨World.rangeAt_setCells_same w g (j * 6) _ (fun k hk6=>?_),hk.stay (by omega) hoth⟩
  have hk6':k<6:=by simpa [vCells] using hk6
  have:=h3 (j * 6+k) (by omega)
  rwa [Nat.zero_add] at this
 ·simp only [if_neg e]
  obtain ⟨r1,r2⟩:=h4 j hj (by omega)
  refine ⟨World.rangeAt_setCells_apart r1 g (i * 6) _ (.inr (.inl ?_)),r2.stay (by omega) hoth⟩
  simp [vCells]
  omega
theorem Part.done {B0:Nat} {w:World} {g:Nat} {vs:List V} (h:Part B0 w g vs.length vs) (hm:vs.length≤9223372036854775807):VsAt (fun b=>B0≤b) w (.slice (some ⟨g,0,none⟩) vs.length vs.length) vs:=by
 obtain ⟨h1,h2,h3,kv,h4⟩:=h
 refine .mk _ _ vs g 0 kv (Nat.le_refl _) hm (fun _=>⟨rfl,h2,h1⟩) (fun i hi j y hy=>?_) (fun i hi=>(h4 i hi hi).2.wider (fun b hb _=>hb.1))
 rw [Nat.zero_add]
 exact (h4 i hi hi).1 j y hy
inductive V.most:List V→Prop
 | mk (vs:List V) (h:vs.length≤1000000000) (hk:∀ x∈vs,V.most x.kids):V.most vs
theorem V.most.len {vs:List V} (h:V.most vs):vs.length≤1000000000:=by cases h;assumption
theorem V.most.kid {vs:List V} (h:V.most vs) {x:V} (hx:x∈vs):V.most x.kids:=by
 cases h with
 | mk _ _ hk=>exact hk x hx
end Go.Proofs.YtdneaeokljoijaaGreatDoor.Y
namespace Go.Proofs.YtdneaeokljoijaaGreatDoor.Y
open Go.RowKit
open Go.Proofs.YtdneaeokljoijaaGreatDoor.L (T5 V VsAt t5Cells vCells cell_of_heap)
structure B2 where
 p:Value
 pv:List V
 b:Value
 bv:List V
def B2.said (x:B2):List V×List V:=(x.pv,x.bv)
def rulesZ:Nat→List V→List (List V×List V)
 | 0,_=>[]
 | _+1,[]=>[]
 | f+1,x::r =>
   if hasZ [13,14,15] x.tok.k then rulesZ f r
   else if hasZ [3] x.tok.k then rulesZ f ((x::r).drop (nextZ [17,23] (x::r)+1))
   else if h:nextZ [23] (x::r)<(x::r).length then ((x::r).take (nextZ [23] (x::r)),((x::r)[nextZ [23] (x::r)]'h).kids)::rulesZ f ((x::r).drop (nextZ [23] (x::r)+1))
   else []
theorem rulesZ_nil (g:Nat):rulesZ g []=[]:=by cases g <;> rfl
theorem V.most.drop {vs:List V} (h:V.most vs) (k:Nat):V.most (vs.drop k):=.mk _ (by have:=h.len;simp;omega) (fun x hx=>h.kid (List.mem_of_mem_drop hx))
theorem V.most.take {vs:List V} (h:V.most vs) (k:Nat):V.most (vs.take k):=.mk _ (by have:=h.len;simp;omega) (fun x hx=>h.kid (List.mem_of_mem_take hx))
theorem VsAt.first {P:Nat→Prop} {W:World} {b off n cap:Nat} {vs:List V} (h:VsAt P W (.slice (some ⟨b,off,none⟩) n cap) vs) (h0:0<vs.length):P b:=by
 generalize hv:Value.slice (some ⟨b,off,none⟩) n cap=v at h
 cases h with
 | mk a' cap' vs b' off' kv h1 h2 ha hc hr =>
   obtain ⟨e,_,hp⟩:=ha h0
   subst e
   cases hv
   exact hp
end Go.Proofs.YtdneaeokljoijaaGreatDoor.Y
namespace Go.Proofs.YtdneaeokljoijaaGreatDoor.Y
open Go.RowKit
open Go.Proofs.YtdneaeokljoijaaGreatDoor.L (T5 V VsAt t5Cells vCells cell_of_heap)
def valsZ (ts:List T5):List V:=(someZ ts.length ts 0 0).1
theorem values_any {W:World} {v:Value} {ts:List T5} (hv:TsAt W v ts) (hn:ts.length≤100000) :
  Calls Tryz.prog 19 #[v] W fun e w'=>∃ out,e=.returned out∧VsAt (fun b=>W.heap.size≤b) w' out (valsZ ts)∧Below W.heap.size W w':=by
 have hr:=read_any ts.length ts (Nat.le_refl _) W v hv W (Below.refl _ _) 0 0 (.func (.func 35) #[] #[]) (.inl ⟨rfl,rfl⟩) (by omega) (by omega) hn
 have HZ:Hid ((someZ ts.length ts 0 0).1=valsZ ts):=(rfl:_=_)
 generalize someZ ts.length ts 0 0=Z at *
 obtain ⟨a,cap,rfl,hl,hcap,_⟩:=hv
 obtain ⟨zk,zr⟩:=Z
 go_enter Tryz.func19,Tryz.ntmps19
 go_wp2_with (go_at_call 34;fail)
 refine hr.mono ?_
 rintro e w1 ⟨out,rest,rfl,ho,ht,hb⟩
 have HO:=hid_mk ho
 obtain ⟨oa,oc,rfl,_,_⟩:=ho.slice
 obtain ⟨ra,rc,rfl,_⟩:=ht
 clear ho hr
 go_wp2
 go_ret
 exact ⟨_,rfl,by rw [← HZ.out];exact HO.out,hb⟩
end Go.Proofs.YtdneaeokljoijaaGreatDoor.Y
namespace Go.Proofs.YtdneaeokljoijaaGreatDoor.L
open Go.RowKit
theorem alloc_size (W:World) (cs:Array Value) (T:TypeId):(W.alloc (.cells cs T)).heap.size=W.heap.size+1:=by simp
theorem attr_any {W:World} {lo b:Nat} {kids:Value} {vs:List V} (h:Rd lo W b kids vs W) (hsg:Signs W) (hf:Fit vs) :
  Calls Tryz.prog 107 #[.pointer (some ⟨b,0,none⟩)] W (Way lo W b kids vs (attrR vs)):=by
 have ha:=ahead_any h 0 19
 cases vs with
 | nil =>
   rw [show ahd [] 0 19=false from rfl] at ha
   clear h hsg hf
   go_enter Tryz.func107,Tryz.ntmps107
   go_wp2_with (go_at_call 25;fail)
   refine ha.mono ?_
   rintro e w1 ⟨rfl,rfl⟩
   clear ha
   go_wp2
   go_ret
   exact ⟨rfl,Below.refl _ _⟩
 | cons v r =>
 rw [ahd_cons] at ha
 cases hk:(v.tok.k == 19) with
 | false =>
   have HE:Hid (attrR (v::r)=none):=by rw [Hid,attrR,if_neg (by rw [hk];decide)]
   rw [HE.out]
   rw [hk] at ha
   clear h hsg hf HE hk
   go_enter Tryz.func107,Tryz.ntmps107
   go_wp2_with (go_at_call 25;fail)
   refine ha.mono ?_
   rintro e w1 ⟨rfl,rfl⟩
   clear ha
   go_wp2
   go_ret
   exact ⟨rfl,Below.refl _ _⟩
 | true =>
 have HE:Hid (attrR (v::r)=match inSqR v.kids with | some s=>some ([s],1) | none=>none):=by rw [Hid,attrR,if_pos hk];rfl
 obtain ⟨a,n,cap,hn,hc1,hc2,h1,_,hs⟩:=h.see
 have c0:W.cell? ⟨b,0,none⟩=some (.slice a n cap):=cellAt h1 0
 obtain ⟨hl,g,off,kv,rfl,q0,q1,q4,q5,hkv⟩:=hs 0 v rfl
 rw [Nat.zero_mul,Nat.add_zero] at q0 q1 q4 q5
 have hsq:=inSq_any hkv hsg (hf.kids v (by simp))
 obtain ⟨a',cap',rfl,_,_⟩:=hkv.slice
 have HT:Hid (∀ l w3,Below W.heap.size W w3→l.length≤10→Calls Tryz.prog 104 #[.pointer (some ⟨b,0,none⟩),.int .i64 1,.slice (some ⟨w3.heap.size,0,none⟩) l.length l.length] (w3.alloc (.cells (ssC l).toArray 46)) (Way lo W b kids (v::r) (some (l,1)))):=fun l w3 hB hl=>told_lit h l 1 (by simp) hl w3 hB
 rw [HE.out]
 rw [hk] at ha
 generalize inSqR v.kids=R at *
 clear h h1 hs hn hk q0 q1 q4 hkv hf hsg HE
 go_enter Tryz.func107,Tryz.ntmps107
 go_wp2_with (go_at_call 25;fail)
 refine ha.mono ?_
 rintro e w1 ⟨rfl,rfl⟩
 clear ha
 go_wp2_with (go_at_call 119;fail)
 refine hsq.mono ?_
 rintro e w2 ⟨⟨s0,rfl,hag⟩,hB2⟩
 have hB3:Below w1.heap.size w1 (w2.alloc (.cells (sC s0).toArray 46)):=hB2.alloc hB2.size _
 unfold sC s7 at hB3
 simp only [List.toArray] at hB3 ⊢
 unfold sC s7
 cases R with
 | none =>
   have HB3:=hid_mk hB3
   obtain ⟨s1,s2,s3,s4,s5,s6⟩:=s0
   clear hsq HT hag q5 c0 hB2 hB3
   simp only [Option.isSome_none]
   dsimp only at HB3
   go_wp2
   go_ret
   exact ⟨rfl,HB3.out⟩
 | some s =>
   have hag:=hag s rfl
   subst hag
   have htl:=HT.out [s0] _ hB3 (by simp)
   rw [alloc_size] at htl
   clear hsq HT hB2 hB3 q5 c0
   obtain ⟨s1,s2,s3,s4,s5,s6⟩:=s0
   unfold ssC sC s7 at htl
   simp only [List.flatMap_cons,List.flatMap_nil,List.append_nil] at htl
   simp only [Option.isSome_some]
   go_wp2_with (go_at_call 104;fail)
   refine htl.mono ?_
   rintro e w3 ⟨v',rfl,ho,hr⟩
   have HZ:Hid (Way lo w1 b kids (v::r) (some ([⟨s1,s2,s3,s4,s5,s6⟩],1)) (.returned v') w3):=⟨v',rfl,ho,hr⟩
   clear htl ho hr
   go_wp2
   go_ret
   exact HZ.out
def kidTk (t:N.Tk):N.Tk:=⟨t.k,t.tx,t.un,t.wh,t.fl,.slice none 0 0⟩
theorem gathered_kid:∀ ts:List N.Tk,N.gathered (ts.map kidTk)=N.gathered ts
 | []=>rfl
 | t::r=>by
   rw [List.map_cons,N.gathered,N.gathered,gathered_kid r]
   rfl
theorem VsAt.vals {P:Nat→Prop} {W:World} {v:Value} {vs:List V} (h:VsAt P W v vs):∃ ts,N.ValsAt W v ts∧N.gathered ts=N.gathered (vs.map toTk)∧ts.length=vs.length∧∀ t∈ts,∃ u∈vs,t.tx=u.tok.tx∧t.un=u.tok.un:=by
 cases h with
 | mk a cap vs b off kv h1 h2 ha hc hr =>
   have hl:(vs.mapIdx fun i v=>(⟨v.tok.k,v.tok.tx,v.tok.un,v.tok.wh,v.tok.fl,kv i⟩:N.Tk)).length=vs.length:=by simp
   refine ⟨vs.mapIdx fun i v=>⟨v.tok.k,v.tok.tx,v.tok.un,v.tok.wh,v.tok.fl,kv i⟩,⟨a,cap,by rw [hl],by rw [hl];exact h1,h2,fun t ht=>?_,fun h0=>?_⟩,?_,hl,fun t ht=>?_⟩
   ·obtain ⟨i,hi,rfl⟩:=List.mem_mapIdx.1 ht
    obtain ⟨a',c',e,_,_⟩:=(hr i hi).slice
    simp only []
    rw [e]
    exact ⟨a',_,c',rfl⟩
   ·rw [hl] at h0
    obtain ⟨e,hb,_⟩:=ha h0
    refine ⟨b,off,e,hb,fun i hi j y hy=>?_⟩
    rw [hl] at hi
    refine hc i hi j y ?_
    rw [← hy]
    simp [N.tkCells,vCells]
   ·rw [← gathered_kid]
    congr 1
    refine List.ext_getElem (by simp) fun i h1 h2=>?_
    simp [kidTk,toTk]
   ·obtain ⟨i,hi,rfl⟩:=List.mem_mapIdx.1 ht
    exact ⟨_,List.getElem_mem hi,rfl,rfl⟩
theorem fnR_at {vs:List V} (h:fnR vs≠0):∃ u,vs[1]? = some u∧2≤vs.length:=by
 unfold fnR at h
 cases hu:vs[1]? with
 | none=>rw [hu] at h;exact absurd rfl h
 | some u=>exact ⟨u,rfl,(List.getElem?_eq_some_iff.1 hu).1⟩
theorem place_any {W:World} {lo b:Nat} {kids:Value} {vs:List V} (h:Rd lo W b kids vs W) (hsg:Signs W) (hf:Fit vs) :
  Calls Tryz.prog 109 #[.pointer (some ⟨b,0,none⟩)] W (Way lo W b kids vs (placeR vs)):=by
 have hfn:=function_any h hsg hf.tx'
 cases hp:plcB (fnR vs) with
 | false =>
   have HE:Hid (placeR vs=none):=by
    rw [Hid]
    unfold placeR
    cases vs[1]? with
    | none=>rfl
    | some u=>simp only [hp,Bool.false_and];rfl
   rw [HE.out]
   generalize fnR vs=z at *
   have n1:(z != 8)=true:=by
    rw [bne_iff_ne]
    rintro rfl
    cases hp
   have n2:(z != 9)=true:=by
    rw [bne_iff_ne]
    rintro rfl
    cases hp
   clear h hsg hf HE hp
   go_enter Tryz.func109,Tryz.ntmps109
   go_wp2_with (go_at_call 120;fail)
   refine hfn.mono ?_
   rintro e w1 ⟨rfl,hB1⟩
   have HB:=hid_mk hB1
   clear hfn hB1
   go_wp2
   go_ret
   exact ⟨rfl,HB.out⟩
 | true =>
 have hz:fnR vs=8∨fnR vs=9:=by simpa [plcB] using hp
 obtain ⟨u,hu,hlen⟩:=fnR_at (vs:=vs) (by rcases hz with e | e <;> rw [e] <;> decide)
 have HE0:Hid (placeR vs=if (nthR u.kids).2.2=true then some ([⟨fnR vs,⟨#[]⟩,0,⟨#[]⟩,(nthR u.kids).1,(nthR u.kids).2.1⟩],2) else none):=by
  rw [Hid]
  unfold placeR
  rw [hu]
  simp only [hp,Bool.true_and]
 have hfu:=hf.kids u (List.mem_of_getElem? hu)
 have HT:Hid (∀ l w3,Below W.heap.size W w3→l.length≤10→Calls Tryz.prog 104 #[.pointer (some ⟨b,0,none⟩),.int .i64 2,.slice (some ⟨w3.heap.size,0,none⟩) l.length l.length] (w3.alloc (.cells (ssC l).toArray 46)) (Way lo W b kids vs (some (l,2)))):=fun l w3 hB hl=>told_lit h l 2 hlen hl w3 hB
 have HR:=hid_mk h
 have HNT:Hid (∀ w (kv:Value),VsAt (·<min lo b) w kv u.kids→Calls Tryz.prog 121 #[kv] w fun e w'=>e=.returned (.tuple #[.int .i64 (nthR u.kids).1,.int .i64 (nthR u.kids).2.1,.bool (nthR u.kids).2.2])∧Below w.heap.size w w'):=fun w kv hkv=>by
  obtain ⟨ts,h1,h2,h3,h4⟩:=VsAt.vals hkv
  have hq:=N.parse_any w kv ts h1 (by rw [h3];exact hfu.len) (fun t ht=>by
   obtain ⟨x,hx,e1,e2⟩:=h4 t ht
   rw [e1,e2]
   exact hfu.tx x hx)
  unfold nthR
  rw [← h2]
  exact hq
 generalize nthR u.kids=q at *
 generalize placeR vs=R at *
 generalize fnR vs=z at *
 clear h hsg hf hp hfu
 go_enter Tryz.func109,Tryz.ntmps109
 go_wp2_with (go_at_call 120;fail)
 refine hfn.mono ?_
 rintro e w1 ⟨rfl,hB1⟩
 obtain ⟨a,n,cap,hn,hc1,hc2,h1,_,hs⟩:=(HR.out.then hB1).see
 have c0:w1.cell? ⟨b,0,none⟩=some (.slice a n cap):=cellAt h1 0
 obtain ⟨hl,g,off,kv,rfl,q0,q1,q4,q5,hkv⟩:=hs 1 u hu
 rw [Nat.one_mul] at q0 q1 q4 q5
 have hnt:=HNT.out w1 kv hkv
 obtain ⟨a',cap',rfl,_,_⟩:=hkv.slice
 have HB:=hid_mk hB1
 clear hfn hB1 HR HNT h1 hs hn q0 q1 q4 hkv hu
 have hzz:(z != 8)=false∨((z != 8)=true∧(z != 9)=false):=by
  rcases hz with e | e
  ·exact .inl (by rw [e];rfl)
  ·exact .inr ⟨by rw [e];rfl,by rw [e];rfl⟩
 clear hz
 rcases hzz with n1 | ⟨n1,n2⟩
 all_goals
  go_wp2_with (go_at_call 121;fail)
  refine hnt.mono ?_
  rintro e w2 ⟨rfl,hB2⟩
  have HB2:Hid (Below W.heap.size W w2):=HB.out.trans (hB2.mono HB.out.size)
  clear hnt hB2 HB q5 c0
  obtain ⟨qa,qb,qc⟩:=q
  cases qc with
  | false =>
    have HE:Hid (R=none):=by rw [Hid,HE0.out,if_neg (by simp)]
    clear HT HE0
    simp only []
    go_wp2
    go_ret
    rw [HE.out]
    exact ⟨rfl,HB2.out⟩
  | true =>
    simp only []
    have HE:Hid (R=some ([⟨z,⟨#[]⟩,0,⟨#[]⟩,qa,qb⟩],2)):=by rw [Hid,HE0.out,if_pos rfl]
    clear HE0
    have htl:=HT.out [⟨z,⟨#[]⟩,0,⟨#[]⟩,qa,qb⟩] w2 HB2.out (by simp)
    clear HT
    rw [show (ssC [⟨z,⟨#[]⟩,0,⟨#[]⟩,qa,qb⟩]).toArray=#[.int .i64 z,.string ⟨#[]⟩,.int .i64 0,.string ⟨#[]⟩,.int .i64 qa,.int .i64 qb,.slice none 0 0] from rfl] at htl
    go_wp2_with (go_at_call 104;fail)
    refine htl.mono ?_
    rintro e w3 ⟨v',rfl,ho,hr⟩
    have HZ:=hid_mk (show Way lo W b kids vs (some ([⟨z,⟨#[]⟩,0,⟨#[]⟩,qa,qb⟩],2)) (.returned v') w3 from ⟨v',rfl,ho,hr⟩)
    clear htl ho hr
    go_wp2
    go_ret
    rw [HE.out]
    exact HZ.out
theorem listed_any (W:World) (k:Int):Calls Tryz.prog 28 #[.int .i64 k] W fun e w'=>e=.returned (.bool (lstB k))∧w'=W:=by
 have HE:Hid (lstB k=(k == 5 || k == 6 || k == 7)):=rfl
 generalize lstB k=r at *
 cases h5:(k == 5)
 ·cases h6:(k == 6)
  ·have HR:Hid (r=(k == 7)):=by rw [Hid,HE.out,h5,h6];rfl
   clear HE
   go_enter Tryz.func28,Tryz.ntmps28
   go_wp2
   go_ret
   exact ⟨by rw [HR.out];rfl,rfl⟩
  ·have HR:Hid (r=true):=by rw [Hid,HE.out,h5,h6];rfl
   clear HE
   go_enter Tryz.func28,Tryz.ntmps28
   go_wp2
   go_ret
   exact ⟨by rw [HR.out];rfl,rfl⟩
 ·have HR:Hid (r=true):=by rw [Hid,HE.out,h5];rfl
  clear HE
  go_enter Tryz.func28,Tryz.ntmps28
  go_wp2
  go_ret
  exact ⟨by rw [HR.out];rfl,rfl⟩
def Oth (lo:Nat) (W:World) (b:Nat) (ks:List (List V)) (vs:List V) (r:Option (List Sv×Nat)) (e:Ending) (w':World):Prop:=match r with
 | none=>e=.returned (.slice none 0 0)∧Rk lo W b ks vs w'
 | some (l,n)=>∃ v,e=.returned v∧w'.ownsRow W.heap.size 46 7 v l.length (ssC (l.map Prod.fst))∧Rk lo W b (ks++kidsOf l) (vs.drop n) w'
theorem info31:∃ i z,Tryz.prog.info? 22=some i∧i.zero=some z∧i.size=1∧i.bytes=24∧z.cells.size=1:=⟨_,_,by rfl,by rfl,by rfl,by rfl,by rfl⟩
theorem cells2 {W:World} {b:Nat} {x0 x1:Value} {T:TypeId} (h:W.heap[b]? = some (.cells #[x0,x1] T (0,0))):W.cell? ⟨b,0,none⟩=some x0∧W.cell? ⟨b,1,none⟩=some x1∧W.frozen? ⟨b,0,none⟩=false∧W.frozen? ⟨b,1,none⟩=false :=
 ⟨cellAt h 0,cellAt h 1,by simp [World.frozen?,h],by simp [World.frozen?,h]⟩
theorem Rk.more {W w1 w2:World} {lo b:Nat} {ks:List (List V)} {vs:List V} {rest kids kids' kv:Value} {cs:List Value} {us:List V} (hb:W.heap[b]? = some (.cells #[rest,kids] 54 (0,0))) (hv:VsAt (·<min lo b) W rest vs) (ho:W.ownsRow (b+1) 22 1 kids ks.length cs)
  (hks:∀ i (h:i<ks.length),∃ v,cs[i]? = some v∧VsAt (·<min lo b) W v (ks[i]'h)) (hkv:VsAt (·<min lo b) W kv us) (ha:Below W.heap.size W w1) (hg:w1.grownBy w2 kids.ownBlock) (ho2:w2.ownsRow (b+1) 22 1 kids' (ks.length+1) (cs++[kv])) :
  Rk lo W b (ks++[us]) vs (w2.setCell ⟨b,1,none⟩ kids')∧w2.heap[b]? = some (.cells #[rest,kids] 54 (0,0)):=by
 have hbl:b<W.heap.size:=(Array.getElem?_eq_some_iff.1 hb).1
 have hown:∀ j,kids.ownBlock=some j→b<j∧∃ c,W.heap[j]? = some (.cells c 22 (0,0)):=fun j hj=>by
  rcases ho.2 with ⟨rfl,_⟩ | ⟨g,cap,cur,rfl,h1,h2,_⟩
  ·cases hj
  ·cases hj
   exact ⟨h1,cur,h2⟩
 have hk:∀ j,j<W.heap.size→(j≤b∨∀ c fr,W.heap[j]?≠some (.cells c 22 fr))→w2.heap[j]? = W.heap[j]?:=fun j hj hc=>by
  rw [hg.block j (Nat.lt_of_lt_of_le hj ha.size) (fun e=>?_),ha.block j hj]
  obtain ⟨h1,c,h2⟩:=hown j e.symm
  rcases hc with hc | hc
  ·omega
  ·exact hc _ _ h2
 have hb2:w2.heap[b]? = some (.cells #[rest,kids] 54 (0,0)):=(hk b hbl (.inl (Nat.le_refl _))).trans hb
 have hsz:W.heap.size≤w2.heap.size:=Nat.le_trans ha.size hg.size
 have hlow:∀ j,j<b→(w2.setCell ⟨b,1,none⟩ kids').heap[j]? = W.heap[j]?:=fun j hj=>(heap_ne (by omega)).trans (hk j (by omega) (.inl (by omega)))
 have hst:∀ {v l},VsAt (·<min lo b) W v l→VsAt (·<min lo b) (w2.setCell ⟨b,1,none⟩ kids') v l:=fun h=>h.stay (by simpa using hsz) fun j hj _=>hlow j (by omega)
 refine ⟨⟨⟨kids',cs++[kv],⟨⟨rest,by rw [set_at 1 _ _ hb2];rfl,hst hv⟩,KeepX.of (Below.refl _ _)⟩,?_,fun i hi=>?_⟩,⟨hg.os.trans ha.os,hg.tape.trans ha.tape,hg.output.trans ha.output,by simpa using hsz,fun j hj hn hc=>(heap_ne hn).trans (hk j hj (hc.imp Nat.le_of_lt id))⟩⟩,hb2⟩
 ·rw [List.length_append]
  exact own_stay ho2 fun g _ hB _=>heap_ne (by omega)
 ·have hl:cs.length=ks.length:=by have:=ho.1;omega
  by_cases hik:i<ks.length
  ·obtain ⟨v,e,hv'⟩:=hks i hik
   refine ⟨v,by rw [List.getElem?_append_left (by omega)];exact e,?_⟩
   rw [List.getElem_append_left hik]
   exact hst hv'
  ·have hie:i=ks.length:=by simp at hi;omega
   subst hie
   refine ⟨kv,by rw [List.getElem?_append_right (by omega),hl];simp,?_⟩
   rw [List.getElem_append_right (Nat.le_refl _)]
   simpa using hst hkv
theorem choice_any {W:World} {lo b:Nat} {ks:List (List V)} {vs:List V} (h:Rk lo W b ks vs W) (hsg:Signs W) (hf:Fit vs) (hkn:ks.length≤1000000) :
  Calls Tryz.prog 110 #[.pointer (some ⟨b,0,none⟩)] W (Oth lo W b ks vs (choiceR vs)):=by
 obtain ⟨kids0,hrd0,_⟩:=h.open
 have hfn:=function_any hrd0 hsg hf.tx'
 cases hp:lstB (fnR vs) with
 | false =>
   have HE:Hid (choiceR vs=none):=by
    rw [Hid]
    unfold choiceR
    cases vs[1]? with
    | none=>rfl
    | some u=>simp only [hp];rfl
   have hli:=fun w=>listed_any w (fnR vs)
   rw [HE.out]
   rw [hp] at hli
   generalize fnR vs=z at *
   have HK:=hid_mk h
   clear h hsg hf HE hp hrd0
   go_enter Tryz.func110,Tryz.ntmps110
   go_wp2_with (go_at_call 120;fail)
   refine hfn.mono ?_
   rintro e w1 ⟨rfl,hB1⟩
   have HB:=hid_mk hB1
   clear hfn hB1
   go_wp2_with (go_at_call 28;fail)
   refine (hli w1).mono ?_
   rintro e w2 ⟨rfl,rfl⟩
   clear hli
   go_wp2
   go_ret
   exact ⟨rfl,HK.out.then HB.out⟩
 | true =>
 obtain ⟨u,hu,hlen⟩:=fnR_at (vs:=vs) (by intro e;rw [e] at hp;cases hp)
 have HE:Hid (choiceR vs=some ([(⟨fnR vs,⟨#[]⟩,0,⟨#[]⟩,0,0⟩,u.kids)],2)):=by
  rw [Hid]
  unfold choiceR
  rw [hu]
  simp only [hp,if_true]
 have HKO:Hid (kidsOf [((⟨fnR vs,⟨#[]⟩,0,⟨#[]⟩,0,0⟩:S6),u.kids)]=[u.kids]):=by
  rw [Hid]
  simp [kidsOf,hp]
 have hli:=fun w=>listed_any w (fnR vs)
 rw [hp] at hli
 generalize choiceR vs=R at *
 generalize fnR vs=z at *
 obtain ⟨i0,z0,hi0,hz0,hz1,hz2,hz3⟩:=info31
 have HK:=hid_mk h
 clear h hsg hf hp hrd0
 go_enter Tryz.func110,Tryz.ntmps110
 go_wp2_with (go_at_call 120;fail)
 refine hfn.mono ?_
 rintro e w1 ⟨rfl,hB1⟩
 have HK1:=hid_mk (HK.out.then hB1)
 clear hfn hB1 HK
 go_wp2_with (go_at_call 28;fail)
 refine (hli w1).mono ?_
 rintro e w2 ⟨rfl,rfl⟩
 clear hli
 obtain ⟨kids,cs,hrd,hown,hks⟩:=HK1.out.rd
 obtain ⟨a,n,cap,hn,hc1,hc2,h1,hvs,hs⟩:=hrd.see
 have hbl:b<w2.heap.size:=hrd.lt
 obtain ⟨hl,g,off,kv,rfl,q0,q1,q4,q5,hkv⟩:=hs 1 u hu
 rw [Nat.one_mul] at q0 q1 q4 q5
 obtain ⟨c0,c1,f0,f1⟩:=cells2 h1
 obtain ⟨a',cap',rfl,_,_⟩:=hkv.slice
 have hsl:∃ ka kn kc,kids=.slice ka kn kc:=by
  rcases hown.2 with ⟨rfl,_⟩ | ⟨g,cap,cur,rfl,_⟩
  ·exact ⟨_,_,_,rfl⟩
  ·exact ⟨_,_,_,rfl⟩
 have HM:Hid (∀ x w3 kids',(w2.alloc (.cells #[x] 22)).drew.grownBy w3 kids.ownBlock→x=.slice a' u.kids.length cap'→w3.ownsRow (b+1) 22 1 kids' (ks.length+1) (cs++[x])→Rk lo w2 b (ks++[u.kids]) vs (w3.setCell ⟨b,1,none⟩ kids')∧w3.heap[b]? = some (.cells #[.slice (some ⟨g,off,none⟩) n cap,kids] 54 (0,0))):=fun x w3 kids' hg e ho2=>by
  subst e
  exact Rk.more h1 hvs hown hks hkv (((Below.refl _ _).alloc (Nat.le_refl _) _).drew) hg ho2
 have hH:w2.heap[w2.heap.size]? = none:=Array.getElem?_eq_none (Nat.le_refl _)
 have hkne:kids.ownBlock≠some b:=fun e=>by
  have:=(hown.lt b e).1
  omega
 have HOW:=hid_mk hown
 obtain ⟨ka,kn,kc,rfl⟩:=hsl
 clear hks hvs hs hrd hn h1 q0 q1 q4 hkv hu
 have hl1:(1:Int)<(n:Int):=by omega
 go_upto_region 4 with (fail)
 go_region_law
  ((refine step_append_lies _ (by rfl) _ _ _ (by rfl) (b+1) 22 i0 z0 1 24 Tryz.underlying52 hi0 hz0 hz1 hz2 hz3 (by omega) (.slice ka kn kc) ks.length cs (by rfl) ((hown.alloc _).drew)
     ⟨w2.heap.size,0,none⟩ 1 1 [.slice a' u.kids.length cap'] (by rfl) (by rfl) (World.news_of_block (cs:=#[.slice a' u.kids.length cap']) (t:=22) (fr:=(0,0)) (heap_alloc_last w2 _)) (by simp [Value.oneCell'])
     (by omega) (by unfold maxLen;omega) (by omega) (by simp;omega) (w2.heap.size+1) (by simp) ?_
    intro gg cap5 w5 hown5 hgrow hgat hglt
    obtain ⟨hR5,hb5⟩:=HM.out _ w5 _ hgrow rfl hown5
    obtain ⟨d0,d1,e0,e1⟩:=cells2 hb5
    have HR5:=hid_mk hR5
    clear hown5 hgrow hgat hglt hb5 hR5))
 all_goals
  obtain ⟨W6,hW6⟩:∃ W6,W6=w5.setCell ⟨b,1,none⟩ (.slice (some ⟨gg,0,none⟩) (ks.length+1) cap5):=⟨_,rfl⟩
  rw [← hW6] at HR5 ⊢
  obtain ⟨kids6,hrd6,hnx⟩:=HR5.out.open
  have htl:=told_lit hrd6 [⟨z,⟨#[]⟩,0,⟨#[]⟩,0,0⟩] 2 hlen (by simp) W6 (Below.refl _ _)
  rw [show (ssC [⟨z,⟨#[]⟩,0,⟨#[]⟩,0,0⟩]).toArray=#[.int .i64 z,.string ⟨#[]⟩,.int .i64 0,.string ⟨#[]⟩,.int .i64 0,.int .i64 0,.slice none 0 0] from rfl] at htl
  have HNX:=hid_mk hnx
  clear hW6 hrd6 hnx d0 d1 e0 e1 c0 c1 f0 f1 q5 hown HOW HM hkne hH hi0 hz0 hz1 hz2 hz3
  go_wp2_with (go_at_call 104;fail)
  refine htl.mono ?_
  rintro e w7 ⟨v',rfl,ho,hr⟩
  have HZ:Hid (Oth lo W b ks vs R (.returned v') w7):=by
   rw [Hid,HE.out]
   refine ⟨v',rfl,own_from ho (Nat.le_trans HK1.out.keep.size HR5.out.keep.size),?_⟩
   rw [HKO.out]
   exact HK1.out.from (HNX.out _ _ hr)
  clear htl ho hr HNX
  go_wp2
  go_ret
  exact HZ.out
end Go.Proofs.YtdneaeokljoijaaGreatDoor.L
