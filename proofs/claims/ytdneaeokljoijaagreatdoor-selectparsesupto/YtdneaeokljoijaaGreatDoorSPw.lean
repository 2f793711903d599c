/- gouachelaw05.SelectParses: the walk. -/
import Derived.Test.YtdneaeokljoijaaGreatDoorYCd
import Derived.Test.YtdneaeokljoijaaGreatDoorRPw
import Derived.Test.YtdneaeokljoijaaGreatDoorRSn
set_option maxRecDepth 100000
set_option maxHeartbeats 8000000
namespace Go.Proofs.YtdneaeokljoijaaGreatDoor.L
open Go.RowKit
theorem cl_slice {w:World} {u:Value} {l:List Cx} (h:ClAt w u l):∃ ua un uc,u=.slice ua un uc:=by
 obtain ⟨_,_,⟨a,c,e,_⟩,_⟩:=h.at
 exact ⟨_,_,_,e⟩
def PaQ (L:List Cx) (c:Bool) (W:World) (e:Ending) (w':World):Prop:=∃ a n d,e=.returned (.tuple #[.slice a n d,.bool c])∧ClAt w' (.slice a n d) L∧Below W.heap.size W w'
theorem pz_q {R:Option (List Cx)} {W:World} {e:Ending} {w':World} (h:PzPost W R e w'):PaQ (R.getD []) R.isSome W e w':=by
 cases R with
 | none =>
   obtain ⟨h1,h2⟩:=h
   exact ⟨none,0,0,h1,ClAt.nil w',h2⟩
 | some l =>
   obtain ⟨u,h1,h2,h3⟩:=h
   obtain ⟨a,n,c,rfl⟩:∃ a n c,u=.slice a n c:=cl_slice h2
   exact ⟨a,n,c,h1,h2,h3⟩
theorem pa_q {R:Option (List Cx)} {W:World} {e:Ending} {w':World} (h:PaP W R e w'):PaQ (R.getD []) R.isSome W e w':=by
 cases R with
 | none =>
   obtain ⟨h1,h2⟩:=h
   exact ⟨none,0,0,h1,ClAt.nil w',h2⟩
 | some l =>
   obtain ⟨a,n,c,h1,h2,h3⟩:=h
   exact ⟨a,n,c,h1,h2.here,h3⟩
theorem selparses_any {P0:Nat→Prop} {v:Value} {vs:List V} (W:World) (hv:VsAt P0 W v vs) (hc:Y.countL vs≤1048576) (ht:Y.TxB 2000000 vs) (hsg:Signs W):Calls Tryz.prog 3 #[v] W fun e w'=>e=.returned (.bool true)∧Below W.heap.size W w':=by
 have h4:=Y.deep_some hv W 80 (Below.refl _ _) (by omega) (by omega)
 have H5:Hid (∀ w,Below W.heap.size W w→Calls Tryz.prog 5 #[v] w fun e w'=>e=.returned (.int .i64 (Y.countL vs:Nat))∧Below w.heap.size w w'):=fun w hb=>Y.count_any hv w hb (by omega)
 have H7:Hid (Y.countL vs≤1000→∀ w,Below W.heap.size W w→Calls Tryz.prog 7 #[v] w (PaQ ((parseZ vs).getD []) (parseZ vs).isSome w)):=fun h w hb=>(parse_any (hv.keep hb) (hsg.keep hb) (Y.fit_of 1000 vs h (by omega) ht) (by rw [Y.cnt_eqL];omega)).mono fun e w' h=>pz_q h
 have H8:Hid (Y.countL vs≤1000→∀ w,Below W.heap.size W w→Calls Tryz.prog 8 #[v] w (PaQ ((parseZ vs).getD []) (parseZ vs).isSome w)):=fun h w hb=>(rparse_any _ _ w v vs (Nat.lt_succ_self _) (hv.keep hb) (Y.fit_of 1000 vs h (by omega) ht)).mono fun e w' h=>pa_q h
 have HSG:Hid (∀ w,Below W.heap.size W w→Signs w):=fun w h=>hsg.keep h
 obtain ⟨va,vc,rfl,_,_⟩:=hv.slice
 generalize (parseZ vs).getD []=LL at *
 generalize (parseZ vs).isSome=c at *
 generalize Y.countL vs=cn at *
 generalize vs.length=vn at *
 clear hv ht hsg
 go_enter Tryz.func3,Tryz.ntmps3
 go_wp2_with (go_at_call 4;fail)
 refine h4.mono ?_
 rintro e w1 ⟨⟨b,rfl⟩,hb1⟩
 have HB1:=hid_mk hb1
 clear h4 hb1
 cases b with
 | true =>
   have hli:=lives_any w1 (HSG.out w1 HB1.out)
   clear H5 H7 H8
   go_wp2_with (go_at_call 6;fail)
   refine hli.mono ?_
   rintro e w4 ⟨rfl,hb4⟩
   have HB4:Hid (Below W.heap.size W w4):=HB1.out.trans (hb4.mono HB1.out.size)
   clear hli hb4
   go_wp2
   go_ret
   exact ⟨rfl,HB4.out⟩
 | false =>
   have h5:=H5.out w1 HB1.out
   clear H5
   go_wp2_with (go_at_call 5;fail)
   refine h5.mono ?_
   rintro e w2 ⟨rfl,hb2⟩
   have HB2:Hid (Below W.heap.size W w2):=HB1.out.trans (hb2.mono HB1.out.size)
   clear h5 hb2 HB1
   by_cases hcn:1000<cn
   ·have hd:decide ((1000:Int)<(cn:Int))=true:=decide_eq_true (by omega)
    have hi:(1000:Int)<(cn:Int):=by omega
    have hli:=lives_any w2 (HSG.out w2 HB2.out)
    clear H7 H8
    go_wp2_with (go_at_call 6;fail)
    refine hli.mono ?_
    rintro e w4 ⟨rfl,hb4⟩
    have HB4:Hid (Below W.heap.size W w4):=HB2.out.trans (hb4.mono HB2.out.size)
    clear hli hb4
    go_wp2
    go_ret
    exact ⟨rfl,HB4.out⟩
   ·have hd:decide ((1000:Int)<(cn:Int))=false:=decide_eq_false (by omega)
    have hi:¬ (1000:Int)<(cn:Int):=by omega
    have h7:=H7.out (by omega) w2 HB2.out
    have H8':=hid_mk (H8.out (by omega))
    clear H7 H8
    go_wp2_with (go_at_call 7;fail)
    refine h7.mono ?_
    rintro e w3 ⟨ua,un,uc,rfl,hcl1,hb3⟩
    have HB3:Hid (Below W.heap.size W w3):=HB2.out.trans (hb3.mono HB2.out.size)
    have HCL1:=hid_mk hcl1
    have h8:=H8'.out w3 HB3.out
    clear h7 hcl1 hb3 HB2 H8'
    go_wp2_with (go_at_call 8;fail)
    refine h8.mono ?_
    rintro e w4 ⟨xa,xn,xc,rfl,hcl2,hb4⟩
    have HB4:Hid (Below W.heap.size W w4):=HB3.out.trans (hb4.mono HB3.out.size)
    have h9:=rsame_yes (HCL1.out.keep hb4) _ hcl2 w4 (Below.refl _ _)
    clear h8 hcl2 hb4 HB3 HCL1
    go_wp2_with (go_at_call 9;fail)
    refine h9.mono ?_
    rintro e w5 ⟨rfl,hb5⟩
    have HB5:Hid (Below W.heap.size W w5):=HB4.out.trans (hb5.mono HB4.out.size)
    have hli:=lives_any w5 (HSG.out w5 HB5.out)
    have hcc:(c == c)=true:=by simp
    clear h9 hb5 HB4
    go_wp2_with (go_at_call 6;fail)
    refine hli.mono ?_
    rintro e w6 ⟨rfl,hb6⟩
    have HB6:Hid (Below W.heap.size W w6):=HB5.out.trans (hb6.mono HB5.out.size)
    clear hli hb6
    go_wp2
    go_ret
    exact ⟨rfl,HB6.out⟩
end Go.Proofs.YtdneaeokljoijaaGreatDoor.L
