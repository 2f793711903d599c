/- A word in the second reading: an Ident, a Function, a URL. -/
import Derived.Test.YtemlnblifkdenaaGreatDoorYRefBad
set_option maxRecDepth 100000
set_option maxHeartbeats 8000000
namespace Go.Proofs.YtemlnblifkdenaaGreatDoor.Y
open Go.RowKit
def finQ (acc:List Int):Option (List Int)×List Int→Tok×List Int
 | (some t,r)=>(plainTok 5 (acc++t),r)
 | (none,r)=>(plainTok 6 [],r)
theorem finQ_cons (acc:List Int) (c:Int) (r:Option (List Int)×List Int):finQ acc (consO c r)=finQ (acc++[c]) r:=by
 obtain ⟨o,l⟩:=r
 cases o <;> simp [finQ,consO]
theorem strZ_fin (l:List Int):strZ l=finQ [] (quoZ (hd l 0) (l.drop 1) 0):=by
 unfold strZ
 split <;> rename_i h <;> rw [h] <;> rfl
theorem zero_cells {w:World} {n:Nat} (h:w.heap[n]? = some (.cells #[.int .i64 0,.string ⟨#[]⟩,.string ⟨#[]⟩,.bool false,.bool false] 65 (0,0))) :
  w.cell? ⟨n,0,none⟩=some (.int .i64 0)∧w.cell? ⟨n,1,none⟩=some (.string ⟨#[]⟩)∧w.cell? ⟨n,2,none⟩=some (.string ⟨#[]⟩)∧w.cell? ⟨n,3,none⟩=some (.bool false)∧w.cell? ⟨n,4,none⟩=some (.bool false) ∧
  w.frozen? ⟨n,0,none⟩=false∧w.frozen? ⟨n,1,none⟩=false∧w.frozen? ⟨n,2,none⟩=false∧w.frozen? ⟨n,3,none⟩=false∧w.frozen? ⟨n,4,none⟩=false:=by
 refine ⟨?_,?_,?_,?_,?_,?_,?_,?_,?_,?_⟩
 all_goals first | (simp only [World.cell?,h];rfl) | (simp only [World.frozen?,h];rfl)
theorem heap_alloc_old (w:World) (o:Obj) {k:Nat} (h:k<w.heap.size):(w.alloc o).heap[k]? = w.heap[k]?:=Below.heap_alloc w o k h
theorem zero_grown {w w':World} {B:Nat} {v:Value} {n:Nat} {xs:List Value} {k:Nat} {o:Obj} (h:w.ownsRow B 21 1 v n xs) (hk:k<B) (ho:w.heap[k]? = some o) (hg:w.grownBy w' v.ownBlock):w'.heap[k]? = some o:=by
 have hlt:k<w.heap.size:=(Array.getElem?_eq_some_iff.1 ho).1
 rw [hg.block k hlt ?_]
 ·exact ho
 ·intro hkv
  rcases h.2 with ⟨rfl,_⟩ | ⟨g,cap,cur,rfl,hb,hgg,_⟩
  ·simp [Value.ownBlock] at hkv
  ·simp [Value.ownBlock] at hkv
   omega
theorem quoZ_at {xs:List Int} {p:Nat} {e:Int} (h:p<xs.length):quoZ e (xs.drop p) 0=if hd xs p=e then (some [],xs.drop (p+1)) else if hd xs p=10 then (none,xs.drop p)
  else if hd xs p=92 then (if hd xs (p+1)=10 then quoZ e (xs.drop (p+2)) 0 else if p+1=xs.length then quoZ e (xs.drop (p+1)) 0 else consO (escT (xs.drop (p+1))).1 (quoZ e (xs.drop (p+1+(escT (xs.drop (p+1))).2)) 0))
  else consO (hd xs p) (quoZ e (xs.drop (p+1)) 0):=by
 rw [drop_hd h,quoZ,quoZ_skip e _ 1,quoZ_skip e _ (escT (xs.drop (p+1))).2,List.drop_drop,List.drop_drop,hd_drop,Nat.add_zero,← drop_hd h]
 have e1:(xs.drop (p+1)=[])=(p+1=xs.length):=by
  rw [List.drop_eq_nil_iff]
  exact propext ⟨fun h2=>by omega,fun h2=>by omega⟩
 simp only [e1,Nat.add_assoc]
theorem rquoted_any {w:World} {v:Value} {xs:List Int} (hv:RowAt .i32 w v xs) (fx:Fine xs) (i:Nat) (j:Int) (hj:j=i) (hi:i<xs.length) (hq:hd xs i=34∨hd xs i=39) :
  Calls Tryz.prog 84 #[v,.int .i64 j] w fun e w'=>∃ p:Nat,e=.returned (.tuple #[tokV (strZ (xs.drop i)).1,.int .i64 p])∧xs.drop p=(strZ (xs.drop i)).2∧i≤p∧p≤xs.length∧Below w.heap.size w w':=by
 subst hj
 have hl:=fx.1
 obtain ⟨i0,hi0,hz0,hz1,hz2⟩:=info_parts Tryz.info21
 have hB0:Below w.heap.size w (w.alloc (.cells #[.int .i64 0,.string ⟨#[]⟩,.string ⟨#[]⟩,.bool false,.bool false] 65)):=(Below.refl _ _).alloc (Nat.le_refl _) _
 have hrow0:=hv.below hB0
 have HH:Hid (RowAt .i32 w v xs∧Fine xs):=And.intro hv fx
 obtain ⟨b,off,cap,rfl,hcap,c0⟩:=row_cell hrow0 i hi
 have HST:Hid (strZ (xs.drop i)=finQ [] (quoZ (hd xs i) (xs.drop (i+1)) 0)):=by show strZ (xs.drop i)=_;rw [strZ_fin,hd_drop,List.drop_drop];rfl
 generalize hd xs i=q at c0 HST hq
 have hq1:-1<q:=by omega
 have q10:(q == 10)=false:=by simp;omega
 have q92:(q == 92)=false:=by simp;omega
 have HQ:=hid_mk hq
 clear hv fx hrow0 hq
 go_enter Tryz.func84,Tryz.ntmps84
 go_wp2
 go_loopw [1,7] (fun a1 out wr=>∃ (p:Nat) (acc:List Int),a1=.int .i64 (p:Int)∧wr.ownsRow (w.heap.size+1) 21 1 out acc.length (acc.map (Value.int .i32))∧i<p∧p≤xs.length∧Below w.heap.size w wr∧w.heap.size<wr.heap.size∧wr.heap[w.heap.size]? = some (.cells #[.int .i64 0,.string ⟨#[]⟩,.string ⟨#[]⟩,.bool false,.bool false] 65 (0,0))∧finQ acc (quoZ q (xs.drop p) 0)=strZ (xs.drop i)∧acc.length≤p∧∀ c∈acc,IsChar c) (fun a1 _ _=>xs.length+1 - (intOf a1).toNat)
 case atStart=>exact ⟨i+1,[],by go_num,World.ownsRow_nil _ _ _ _,by omega,by omega,hB0,by simp,heap_alloc_new w _,HST.out.symm,by simp,by simp⟩
 case round =>
  obtain ⟨p,acc,rfl,hown,hip,hp,hB,hsz,hblk,hF,hal,hch⟩:=hrel
  have HF:=hid_mk hF
  have HC:=hid_mk hch
  clear hF hch c0
  have hrow:=HH.out.1.below hB
  have ha:=rat_any hrow HH.out.2 p p rfl
  have hb:=rat_any hrow HH.out.2 (p+1) ((p:Int)+1) (by omega)
  by_cases hlt:p<xs.length
  ·have HA:=hid_mk (quoZ_at (e:=q) hlt)
   have hcb:=hd_bounds HH.out.2 p
   have HCH:=hid_mk (HH.out.2.2 (hd xs p) (by have:=drop_hd hlt;exact List.mem_of_mem_drop (i:=p) (by rw [this];simp)))
   have hc0:0≤hd xs p:=HCH.out.1
   have e1:(hd xs p == -1)=false:=by simp;omega
   by_cases hce:hd xs p=q
   ·-- the end
    have hcv:=conv_runes (ownsRow_row hown) HC.out
    have HV:Hid (strZ (xs.drop i)=(plainTok 5 acc,xs.drop (p+1))):=by
     have:=HF.out
     rw [HA.out,if_pos hce] at this
     show strZ (xs.drop i)=_
     rw [← this]
     simp [finQ]
    rw [hce] at ha
    have eq1:(q == -1)=false:=by simp;omega
    clear e1 hc0 hcb hce
    obtain ⟨k0,k1,k2,k3,k4,f0,f1,f2,f3,f4⟩:=zero_cells hblk
    go_wp2_with (go_at_call 81;fail)
    refine (ha).mono ?_
    rintro e w' ⟨rfl,rfl⟩
    go_wp2
    refine bodyPost_ret (v:=.tuple #[.agg #[.int .i64 5,.string (strT acc),.string ⟨#[]⟩,.bool false,.bool false],.int .i64 ((p+1:Nat):Int)]) (by simp [results,Tryz.results84,go_sem,k0,k1,k2,k3,k4]) rfl ⟨p+1,by rw [HV.out];rfl,by rw [HV.out],by omega,by omega,?_⟩
    exact ((((hB.setCell (Nat.le_refl _) _).setCell (Nat.le_refl _) _).setCell (Nat.le_refl _) _).setCell (Nat.le_refl _) _).setCell (Nat.le_refl _) _
   ·by_cases h10:hd xs p=10
    ·have HV:Hid (strZ (xs.drop i)=(plainTok 6 [],xs.drop p)):=by
      have:=HF.out
      rw [HA.out,if_neg hce,if_pos h10] at this
      show strZ (xs.drop i)=_
      rw [← this]
      rfl
     rw [h10] at ha hce
     have eq1:((10:Int) == q)=false:=by simpa using hce
     obtain ⟨k0,k1,k2,k3,k4,f0,f1,f2,f3,f4⟩:=zero_cells hblk
     clear e1 hc0 hcb hce h10
     go_wp2_with (go_at_call 81;fail)
     refine (ha).mono ?_
     rintro e w' ⟨rfl,rfl⟩
     go_wp2
     refine bodyPost_ret (v:=.tuple #[.agg #[.int .i64 6,.string (⟨#[]⟩),.string ⟨#[]⟩,.bool false,.bool false],.int .i64 ((p:Nat):Int)]) (by simp [results,Tryz.results84,go_sem,k0,k1,k2,k3,k4]) rfl ⟨p,by rw [HV.out];rfl,by rw [HV.out],by omega,by omega,?_⟩
     exact ((((hB.setCell (Nat.le_refl _) _).setCell (Nat.le_refl _) _).setCell (Nat.le_refl _) _).setCell (Nat.le_refl _) _).setCell (Nat.le_refl _) _
    ·by_cases h92:hd xs p=92
     ·have eq1:((92:Int) == q)=false:=by rw [h92] at hce;simpa using hce
      rw [if_neg hce,if_neg h10,if_pos h92] at HA
      rw [h92] at ha
      clear e1 hc0 hcb hce h10
      by_cases hlast:p+1=xs.length
      ·have hm1:hd xs (p+1)=-1:=hd_end (by omega)
       rw [hm1] at hb HA
       have HN:Hid (finQ acc (quoZ q (xs.drop (p+1)) 0)=strZ (xs.drop i)):=by
        have:=HF.out
        rw [HA.out,if_neg (by decide),if_pos hlast] at this
        exact this
       go_wp2_with (go_at_call 81;fail)
       refine (ha).mono ?_
       rintro e w' ⟨rfl,rfl⟩
       go_wp2_with (go_at_call 81;fail)
       refine (hb).mono ?_
       rintro e w' ⟨rfl,rfl⟩
       go_wp2
       go_roundw
       case rel=>exact ⟨p+1,acc,by go_num,hown,by omega,by omega,hB,hsz,hblk,HN.out,by omega,HC.out⟩
       case measure=>simp [intOf];omega
      ·by_cases hn10:hd xs (p+1)=10
       ·rw [hn10] at hb
        have HN:Hid (finQ acc (quoZ q (xs.drop (p+2)) 0)=strZ (xs.drop i)):=by
         have:=HF.out
         rw [HA.out,if_pos hn10] at this
         exact this
        go_wp2_with (go_at_call 81;fail)
        refine (ha).mono ?_
        rintro e w' ⟨rfl,rfl⟩
        go_wp2_with (go_at_call 81;fail)
        refine (hb).mono ?_
        rintro e w' ⟨rfl,rfl⟩
        go_wp2_with (go_at_call 81;fail)
        refine (hb).mono ?_
        rintro e w' ⟨rfl,rfl⟩
        go_wp2
        go_roundw
        case rel=>exact ⟨p+2,acc,by go_num,hown,by omega,by omega,hB,hsz,hblk,HN.out,by omega,HC.out⟩
        case measure=>simp [intOf];omega
       ·have HCH2:=hid_mk (escT_char (t:=xs.drop (p+1)) (fun c hc=>HH.out.2.2 c (List.mem_of_mem_drop hc)))
        have hsc:=rescaped_any hrow HH.out.2 p p rfl hlt
        have hle:=escT_len (xs.drop (p+1))
        rw [List.length_drop] at hle
        have HN:Hid (finQ (acc++[(escT (xs.drop (p+1))).1]) (quoZ q (xs.drop (p+1+(escT (xs.drop (p+1))).2)) 0)=strZ (xs.drop i)):=by
         have:=HF.out
         rw [HA.out,if_neg hn10,if_neg hlast,finQ_cons] at this
         exact this
        have n1:(hd xs (p+1) == -1)=false:=by
         have:=(HH.out.2.2 (hd xs (p+1)) (by have:=drop_hd (show p+1<xs.length by omega);exact List.mem_of_mem_drop (i:=p+1) (by rw [this];simp))).1
         simp;omega
        have n10:(hd xs (p+1) == 10)=false:=by simpa using hn10
        clear HA HF
        generalize hd xs (p+1)=c1 at *
        generalize escT (xs.drop (p+1))=ec at *
        obtain ⟨c,n⟩:=ec
        simp only at *
        go_wp2_with (go_at_call 81;fail)
        refine (ha).mono ?_
        rintro e w' ⟨rfl,rfl⟩
        go_wp2_with (go_at_call 81;fail)
        refine (hb).mono ?_
        rintro e w' ⟨rfl,rfl⟩
        go_wp2_with (go_at_call 81;fail)
        refine (hb).mono ?_
        rintro e w' ⟨rfl,rfl⟩
        go_wp2_with (go_at_call 119;fail)
        refine (hsc).mono ?_
        rintro e w' ⟨rfl,rfl⟩
        go_wp2_with (at_builtin;go_must (refine wpList_append_own _ rfl _ _ 47 rfl (w.heap.size+1) 21 i0 (.int .i32 0) 1 4 Tryz.underlying47 hi0 hz0 hz1 hz2 rfl (by decide) _ _ _ rfl (hown.alloc _) ⟨wr.heap.size,0,none⟩ 1 1 [.int .i32 c] rfl rfl (cell_one_new _ _ _) (by intro u hu;simp at hu;subst hu;rfl) (by unfold maxLen;omega) (by omega) (by simp;omega) ?_);intro v' w5 hown5 hgrow5 _)
        go_roundw
        case rel=>exact ⟨p+1+n,acc++[c],by first | rfl | go_num,by simpa using hown5,by omega,by omega,(hB.alloc hB.size _).grown hgrow5 (by have:=hB.size;simp;omega) (fun k hk=>by have:=(hown.lt k hk).1;omega),by have:=hgrow5.size;simp at this;omega,zero_grown (hown.alloc _) (Nat.lt_succ_self _) ((heap_alloc_old wr _ hsz).trans hblk) hgrow5,HN.out,by simp;omega,chars_snoc HC.out HCH2.out⟩
        case measure=>simp [intOf];omega
     ·have n92:(hd xs p == 92)=false:=by simpa using h92
      have n10:(hd xs p == 10)=false:=by simpa using h10
      have nq:(hd xs p == q)=false:=by simpa using hce
      have HN:Hid (finQ (acc++[hd xs p]) (quoZ q (xs.drop (p+1)) 0)=strZ (xs.drop i)):=by
       have:=HF.out
       rw [HA.out,if_neg hce,if_neg h10,if_neg h92,finQ_cons] at this
       exact this
      clear HA HF h92 h10 hce
      generalize hd xs p=c at *
      go_wp2_with (go_at_call 81;fail)
      refine (ha).mono ?_
      rintro e w' ⟨rfl,rfl⟩
      go_wp2_with (at_builtin;go_must (refine wpList_append_own _ rfl _ _ 47 rfl (w.heap.size+1) 21 i0 (.int .i32 0) 1 4 Tryz.underlying47 hi0 hz0 hz1 hz2 rfl (by decide) _ _ _ rfl (hown.alloc _) ⟨wr.heap.size,0,none⟩ 1 1 [.int .i32 c] rfl rfl (cell_one_new _ _ _) (by intro u hu;simp at hu;subst hu;rfl) (by unfold maxLen;omega) (by omega) (by simp;omega) ?_);intro v' w5 hown5 hgrow5 _)
      go_roundw
      case rel=>exact ⟨p+1,acc++[c],by first | rfl | go_num,by simpa using hown5,by omega,by omega,(hB.alloc hB.size _).grown hgrow5 (by have:=hB.size;simp;omega) (fun k hk=>by have:=(hown.lt k hk).1;omega),by have:=hgrow5.size;simp at this;omega,zero_grown (hown.alloc _) (Nat.lt_succ_self _) ((heap_alloc_old wr _ hsz).trans hblk) hgrow5,HN.out,by simp;omega,chars_snoc HC.out HCH.out⟩
      case measure=>simp [intOf];omega
  ·have hcv:=conv_runes (ownsRow_row hown) HC.out
   rw [hd_end hlt] at ha
   have HV:Hid (strZ (xs.drop i)=(plainTok 5 acc,xs.drop p)):=by
    have:=HF.out
    rw [List.drop_eq_nil_of_le (Nat.le_of_not_lt hlt)] at this ⊢
    show strZ (xs.drop i)=_
    rw [← this]
    simp [finQ,quoZ]
   obtain ⟨k0,k1,k2,k3,k4,f0,f1,f2,f3,f4⟩:=zero_cells hblk
   go_wp2_with (go_at_call 81;fail)
   refine (ha).mono ?_
   rintro e w' ⟨rfl,rfl⟩
   go_wp2
   refine bodyPost_ret (v:=.tuple #[.agg #[.int .i64 5,.string (strT acc),.string ⟨#[]⟩,.bool false,.bool false],.int .i64 ((p:Nat):Int)]) (by simp [results,Tryz.results84,go_sem,k0,k1,k2,k3,k4]) rfl ⟨p,by rw [HV.out];rfl,by rw [HV.out],by omega,by omega,?_⟩
   exact ((((hB.setCell (Nat.le_refl _) _).setCell (Nat.le_refl _) _).setCell (Nat.le_refl _) _).setCell (Nat.le_refl _) _).setCell (Nat.le_refl _) _
theorem blanksR_twice (l:List Int):blanksR (blanksR l)=blanksR l:=by
 induction l with
 | nil=>rfl
 | cons c t ih =>
   rw [blanksR]
   split
   ·exact ih
   ·rename_i h
    rw [blanksR,if_neg h]
theorem blanksR_hd:∀ (l:List Int),blankZ (hd (blanksR l) 0)=false
 | []=>by decide
 | c::t=>by
   rw [blanksR]
   split
   ·exact blanksR_hd t
   ·rename_i h;simpa [hd] using h
theorem url_off {l:List Int} (h:urlOn l=false):urlT l 0=[]∧urlR l 0=l:=by
 cases l with
 | nil=>exact ⟨rfl,rfl⟩
 | cons c t=>exact ⟨by rw [urlT,if_neg (by simp [h])],by rw [urlR,if_neg (by simp [h])]⟩
theorem url_plain {xs:List Int} {p:Nat} (hp:p<xs.length) (h:urlOn (xs.drop p)=true) (he:escB (xs.drop p)=false):urlT (xs.drop p) 0=hd xs p::urlT (xs.drop (p+1)) 0∧urlR (xs.drop p) 0=urlR (xs.drop (p+1)) 0:=by
 rw [drop_hd hp] at h he ⊢
 exact ⟨by rw [urlT,if_pos h,if_neg (by simp [he])],by rw [urlR,if_pos h,if_neg (by simp [he])]⟩
theorem url_esc {xs:List Int} {p:Nat} (hp:p<xs.length) (h:urlOn (xs.drop p)=true) (he:escB (xs.drop p)=true) :
  urlT (xs.drop p) 0=(escT (xs.drop (p+1))).1::urlT (xs.drop (p+1+(escT (xs.drop (p+1))).2)) 0∧urlR (xs.drop p) 0=urlR (xs.drop (p+1+(escT (xs.drop (p+1))).2)) 0:=by
 rw [drop_hd hp] at h he ⊢
 exact ⟨by rw [urlT,if_pos h,if_pos he,urlT_skip,List.drop_drop],by rw [urlR,if_pos h,if_pos he,urlR_skip,List.drop_drop]⟩
theorem urlOn_at {xs:List Int} {p:Nat} (hp:p<xs.length):urlOn (xs.drop p)=if blankZ (hd xs p) then false else if ctrlZ (hd xs p) then false else if hd xs p=92 then escB (xs.drop p) else (hd xs p != 34 && hd xs p != 39 && hd xs p != 40 && hd xs p != 41):=by
 unfold urlOn
 rw [if_neg (by simp;omega),hd_drop,Nat.add_zero]
theorem escB_no {xs:List Int} {p:Nat} (h:hd xs p≠92):escB (xs.drop p)=false:=by
 unfold escB
 rw [hd_drop,Nat.add_zero]
 simp [h]
theorem drop_ne {xs:List Int} {p:Nat} (h:p<xs.length):xs.drop p≠[]:=by simp;omega
theorem urlEnd_end (acc:List Int):urlEnd acc []=(plainTok 7 acc,[]):=rfl
theorem urlEnd_close {acc xs:List Int} {p:Nat} (hp:p<xs.length) (h:hd xs p=41):urlEnd acc (xs.drop p)=(plainTok 7 acc,xs.drop (p+1)):=by
 have hb:blanksR (xs.drop p)=xs.drop p:=blanksR_stop (by rw [h];decide)
 unfold urlEnd
 rw [hb,if_neg (drop_ne hp),hd_drop,Nat.add_zero,if_pos h,List.drop_drop]
theorem urlEnd_bad {acc xs:List Int} {p:Nat} (hp:p<xs.length) (hb:blankZ (hd xs p)=false) (h:hd xs p≠41):urlEnd acc (xs.drop p)=(plainTok 8 [],badR (xs.drop p) 0):=by
 have hb:blanksR (xs.drop p)=xs.drop p:=blanksR_stop hb
 unfold urlEnd
 rw [hb,if_neg (drop_ne hp),hd_drop,Nat.add_zero,if_neg h]
theorem urlEnd_blank {acc l m:List Int} (h:m=blanksR l):urlEnd acc m=urlEnd acc l:=by
 unfold urlEnd
 rw [h,blanksR_twice]
theorem rurl_any {w:World} {v:Value} {xs:List Int} (hv:RowAt .i32 w v xs) (fx:Fine xs) (i:Nat) (j:Int) (hj:j=i) (hi:i≤xs.length) :
  Calls Tryz.prog 124 #[v,.int .i64 j] w fun e w'=>∃ p:Nat,e=.returned (.tuple #[tokV (urlZ (xs.drop i)).1,.int .i64 p])∧xs.drop p=(urlZ (xs.drop i)).2∧i≤p∧p≤xs.length∧Below w.heap.size w w':=by
 subst hj
 have hl:=fx.1
 obtain ⟨i0,hi0,hz0,hz1,hz2⟩:=info_parts Tryz.info21
 have hB0:Below w.heap.size w (w.alloc (.cells #[.int .i64 0,.string ⟨#[]⟩,.string ⟨#[]⟩,.bool false,.bool false] 65)):=(Below.refl _ _).alloc (Nat.le_refl _) _
 have HH:Hid (RowAt .i32 w v xs∧Fine xs):=And.intro hv fx
 have hbl:=rblanks_any (hv.below hB0) fx i i rfl hi
 obtain ⟨a,cap,rfl,hcap,hcs⟩:=hv
 clear fx hcs
 go_enter Tryz.func124,Tryz.ntmps124
 go_wp2_with (go_at_call 83;fail)
 refine (hbl).mono ?_
 rintro e w' ⟨i',rfl,hdr,hi1,hi2,rfl⟩
 have HDR:=hid_mk hdr
 clear hdr
 go_wp2
 go_loopw [1,6] (fun a1 out wr=>∃ (p:Nat) (acc:List Int),a1=.int .i64 (p:Int)∧wr.ownsRow (w.heap.size+1) 21 1 out acc.length (acc.map (Value.int .i32))∧i≤p∧p≤xs.length∧Below w.heap.size w wr∧w.heap.size<wr.heap.size∧wr.heap[w.heap.size]? = some (.cells #[.int .i64 0,.string ⟨#[]⟩,.string ⟨#[]⟩,.bool false,.bool false] 65 (0,0))∧urlEnd (acc++urlT (xs.drop p) 0) (urlR (xs.drop p) 0)=urlZ (xs.drop i)∧acc.length≤p∧∀ c∈acc,IsChar c) (fun a1 _ _=>xs.length+1 - (intOf a1).toNat)
 case atStart=>exact ⟨i',[],rfl,World.ownsRow_nil _ _ _ _,hi1,hi2,hB0,by simp,heap_alloc_new w _,by rw [HDR.out];rfl,by simp,by simp⟩
 case round =>
  obtain ⟨p,acc,rfl,hown,hip,hp,hB,hsz,hblk,hF,hal,hch⟩:=hrel
  have HF:=hid_mk hF
  have HC:=hid_mk hch
  clear hF hch
  have hrow:=HH.out.1.below hB
  have ha:=rat_any hrow HH.out.2 p p rfl
  by_cases hlt:p<xs.length
  ·have HCH:=hid_mk (HH.out.2.2 (hd xs p) (by have:=drop_hd hlt;exact List.mem_of_mem_drop (i:=p) (by rw [this];simp)))
   have hc0:0≤hd xs p:=HCH.out.1
   have e1:(hd xs p == -1)=false:=by simp;omega
   have hON:=urlOn_at hlt
   by_cases h41:hd xs p=41
   ·have hcv:=conv_runes (ownsRow_row hown) HC.out
    have hoff:=url_off (l:=xs.drop p) (by rw [hON,h41];rfl)
    have HV:Hid (urlZ (xs.drop i)=(plainTok 7 acc,xs.drop (p+1))):=by
     have:=HF.out
     rw [hoff.1,hoff.2,List.append_nil,urlEnd_close hlt h41] at this
     exact this.symm
    rw [h41] at ha
    obtain ⟨k0,k1,k2,k3,k4,f0,f1,f2,f3,f4⟩:=zero_cells hblk
    clear e1 hc0 hON hoff h41
    go_wp2_with (go_at_call 81;fail)
    refine (ha).mono ?_
    rintro e w' ⟨rfl,rfl⟩
    go_wp2
    refine bodyPost_ret (v:=.tuple #[.agg #[.int .i64 7,.string (strT acc),.string ⟨#[]⟩,.bool false,.bool false],.int .i64 ((p+1:Nat):Int)]) (by simp [results,Tryz.results124,go_sem,k0,k1,k2,k3,k4]) rfl ⟨p+1,by rw [HV.out];rfl,by rw [HV.out],by omega,by omega,?_⟩
    exact ((((hB.setCell (Nat.le_refl _) _).setCell (Nat.le_refl _) _).setCell (Nat.le_refl _) _).setCell (Nat.le_refl _) _).setCell (Nat.le_refl _) _
   ·have e41:(hd xs p == 41)=false:=by simpa using h41
    have hbk:=refBlank_any (hd xs p) wr
    cases hbz:blankZ (hd xs p)
    ·rw [hbz] at hbk hON
     have hct:=rcontrol_any (hd xs p) wr
     have hes:=resc_any hrow HH.out.2 p p rfl (by omega)
     have hBM:Hid ((if blankZ (hd xs p) then 1 else 0)=0):=by show (if blankZ (hd xs p) then 1 else 0)=0;rw [hbz];rfl
     simp only [Bool.false_eq_true,if_false] at hON
     by_cases hbad:hd xs p=34∨hd xs p=39∨hd xs p=40∨ctrlZ (hd xs p)=true∨(hd xs p=92∧escB (xs.drop p)=false)
     ·have hoff:=url_off (l:=xs.drop p) (by
       rw [hON]
       rcases hbad with h | h | h | h | ⟨h,h'⟩
       ·rw [h];rfl
       ·rw [h];rfl
       ·rw [h];rfl
       ·rw [if_pos h]
       ·rw [if_neg (by rw [h];decide),if_pos h];exact h')
      have HV:Hid (urlZ (xs.drop i)=(plainTok 8 [],badR (xs.drop p) 0)):=by
       have:=HF.out
       rw [hoff.1,hoff.2,List.append_nil,urlEnd_bad hlt hbz h41] at this
       exact this.symm
      have hbd:=rbad_any hrow HH.out.2 p p rfl hp
      clear hON hoff HF
      rcases hbad with h | h | h | h | ⟨h,h'⟩
      ·rw [h] at ha hbk e1 e41
       clear hes hct h41 hbz hBM
       go_wp2_with (go_at_call 81;fail)
       refine (ha).mono ?_
       rintro e w' ⟨rfl,rfl⟩
       go_wp2_with (go_at_call 82;fail)
       refine (hbk).mono ?_
       rintro e w' ⟨rfl,rfl⟩
       go_wp2_with (go_at_call 140;fail)
       refine (hbd).mono ?_
       rintro e w6 ⟨p6,rfl,hd6,hp6,hp7,b6⟩
       have hB6:=hB.trans (b6.mono hB.size)
       have hblk6:w6.heap[w.heap.size]? = some (.cells #[.int .i64 0,.string ⟨#[]⟩,.string ⟨#[]⟩,.bool false,.bool false] 65 (0,0)):=(b6.block _ hsz).trans hblk
       obtain ⟨k0,k1,k2,k3,k4,f0,f1,f2,f3,f4⟩:=zero_cells hblk6
       have HD6:=hid_mk hd6
       clear hd6
       go_wp2
       refine bodyPost_ret (v:=.tuple #[.agg #[.int .i64 8,.string ⟨#[]⟩,.string ⟨#[]⟩,.bool false,.bool false],.int .i64 (p6:Int)]) (by simp [results,Tryz.results124,go_sem,k0,k1,k2,k3,k4]) rfl ⟨p6,by rw [HV.out];rfl,by rw [HV.out,HD6.out],by omega,by omega,?_⟩
       exact ((((hB6.setCell (Nat.le_refl _) _).setCell (Nat.le_refl _) _).setCell (Nat.le_refl _) _).setCell (Nat.le_refl _) _).setCell (Nat.le_refl _) _
      ·rw [h] at ha hbk e1 e41
       clear hes hct h41 hbz hBM
       go_wp2_with (go_at_call 81;fail)
       refine (ha).mono ?_
       rintro e w' ⟨rfl,rfl⟩
       go_wp2_with (go_at_call 82;fail)
       refine (hbk).mono ?_
       rintro e w' ⟨rfl,rfl⟩
       go_wp2_with (go_at_call 140;fail)
       refine (hbd).mono ?_
       rintro e w6 ⟨p6,rfl,hd6,hp6,hp7,b6⟩
       have hB6:=hB.trans (b6.mono hB.size)
       have hblk6:w6.heap[w.heap.size]? = some (.cells #[.int .i64 0,.string ⟨#[]⟩,.string ⟨#[]⟩,.bool false,.bool false] 65 (0,0)):=(b6.block _ hsz).trans hblk
       obtain ⟨k0,k1,k2,k3,k4,f0,f1,f2,f3,f4⟩:=zero_cells hblk6
       have HD6:=hid_mk hd6
       clear hd6
       go_wp2
       refine bodyPost_ret (v:=.tuple #[.agg #[.int .i64 8,.string ⟨#[]⟩,.string ⟨#[]⟩,.bool false,.bool false],.int .i64 (p6:Int)]) (by simp [results,Tryz.results124,go_sem,k0,k1,k2,k3,k4]) rfl ⟨p6,by rw [HV.out];rfl,by rw [HV.out,HD6.out],by omega,by omega,?_⟩
       exact ((((hB6.setCell (Nat.le_refl _) _).setCell (Nat.le_refl _) _).setCell (Nat.le_refl _) _).setCell (Nat.le_refl _) _).setCell (Nat.le_refl _) _
      ·rw [h] at ha hbk e1 e41
       clear hes hct h41 hbz hBM
       go_wp2_with (go_at_call 81;fail)
       refine (ha).mono ?_
       rintro e w' ⟨rfl,rfl⟩
       go_wp2_with (go_at_call 82;fail)
       refine (hbk).mono ?_
       rintro e w' ⟨rfl,rfl⟩
       go_wp2_with (go_at_call 140;fail)
       refine (hbd).mono ?_
       rintro e w6 ⟨p6,rfl,hd6,hp6,hp7,b6⟩
       have hB6:=hB.trans (b6.mono hB.size)
       have hblk6:w6.heap[w.heap.size]? = some (.cells #[.int .i64 0,.string ⟨#[]⟩,.string ⟨#[]⟩,.bool false,.bool false] 65 (0,0)):=(b6.block _ hsz).trans hblk
       obtain ⟨k0,k1,k2,k3,k4,f0,f1,f2,f3,f4⟩:=zero_cells hblk6
       have HD6:=hid_mk hd6
       clear hd6
       go_wp2
       refine bodyPost_ret (v:=.tuple #[.agg #[.int .i64 8,.string ⟨#[]⟩,.string ⟨#[]⟩,.bool false,.bool false],.int .i64 (p6:Int)]) (by simp [results,Tryz.results124,go_sem,k0,k1,k2,k3,k4]) rfl ⟨p6,by rw [HV.out];rfl,by rw [HV.out,HD6.out],by omega,by omega,?_⟩
       exact ((((hB6.setCell (Nat.le_refl _) _).setCell (Nat.le_refl _) _).setCell (Nat.le_refl _) _).setCell (Nat.le_refl _) _).setCell (Nat.le_refl _) _
      ·have n34:(hd xs p == 34)=false:=by
        have:hd xs p≠34:=fun e=>by rw [e] at h;exact absurd h (by decide)
        simpa using this
       have n39:(hd xs p == 39)=false:=by
        have:hd xs p≠39:=fun e=>by rw [e] at h;exact absurd h (by decide)
        simpa using this
       have n40:(hd xs p == 40)=false:=by
        have:hd xs p≠40:=fun e=>by rw [e] at h;exact absurd h (by decide)
        simpa using this
       rw [h] at hct
       clear hes h41 hbz hBM h
       generalize hd xs p=c at *
       go_wp2_with (go_at_call 81;fail)
       refine (ha).mono ?_
       rintro e w' ⟨rfl,rfl⟩
       go_wp2_with (go_at_call 82;fail)
       refine (hbk).mono ?_
       rintro e w' ⟨rfl,rfl⟩
       go_wp2_with (go_at_call 141;fail)
       refine (hct).mono ?_
       rintro e w' ⟨rfl,rfl⟩
       go_wp2_with (go_at_call 140;fail)
       refine (hbd).mono ?_
       rintro e w6 ⟨p6,rfl,hd6,hp6,hp7,b6⟩
       have hB6:=hB.trans (b6.mono hB.size)
       have hblk6:w6.heap[w.heap.size]? = some (.cells #[.int .i64 0,.string ⟨#[]⟩,.string ⟨#[]⟩,.bool false,.bool false] 65 (0,0)):=(b6.block _ hsz).trans hblk
       obtain ⟨k0,k1,k2,k3,k4,f0,f1,f2,f3,f4⟩:=zero_cells hblk6
       have HD6:=hid_mk hd6
       clear hd6
       go_wp2
       refine bodyPost_ret (v:=.tuple #[.agg #[.int .i64 8,.string ⟨#[]⟩,.string ⟨#[]⟩,.bool false,.bool false],.int .i64 (p6:Int)]) (by simp [results,Tryz.results124,go_sem,k0,k1,k2,k3,k4]) rfl ⟨p6,by rw [HV.out];rfl,by rw [HV.out,HD6.out],by omega,by omega,?_⟩
       exact ((((hB6.setCell (Nat.le_refl _) _).setCell (Nat.le_refl _) _).setCell (Nat.le_refl _) _).setCell (Nat.le_refl _) _).setCell (Nat.le_refl _) _
      ·rw [h] at ha hbk e1 e41 hct
       rw [h'] at hes
       have hct2:ctrlZ 92=false:=by decide
       rw [hct2] at hct
       clear h41 hbz hBM
       go_wp2_with (go_at_call 81;fail)
       refine (ha).mono ?_
       rintro e w' ⟨rfl,rfl⟩
       go_wp2_with (go_at_call 82;fail)
       refine (hbk).mono ?_
       rintro e w' ⟨rfl,rfl⟩
       go_wp2_with (go_at_call 141;fail)
       refine (hct).mono ?_
       rintro e w' ⟨rfl,rfl⟩
       go_wp2_with (go_at_call 86;fail)
       refine (hes).mono ?_
       rintro e w' ⟨rfl,rfl⟩
       go_wp2_with (go_at_call 140;fail)
       refine (hbd).mono ?_
       rintro e w6 ⟨p6,rfl,hd6,hp6,hp7,b6⟩
       have hB6:=hB.trans (b6.mono hB.size)
       have hblk6:w6.heap[w.heap.size]? = some (.cells #[.int .i64 0,.string ⟨#[]⟩,.string ⟨#[]⟩,.bool false,.bool false] 65 (0,0)):=(b6.block _ hsz).trans hblk
       obtain ⟨k0,k1,k2,k3,k4,f0,f1,f2,f3,f4⟩:=zero_cells hblk6
       have HD6:=hid_mk hd6
       clear hd6
       go_wp2
       refine bodyPost_ret (v:=.tuple #[.agg #[.int .i64 8,.string ⟨#[]⟩,.string ⟨#[]⟩,.bool false,.bool false],.int .i64 (p6:Int)]) (by simp [results,Tryz.results124,go_sem,k0,k1,k2,k3,k4]) rfl ⟨p6,by rw [HV.out];rfl,by rw [HV.out,HD6.out],by omega,by omega,?_⟩
       exact ((((hB6.setCell (Nat.le_refl _) _).setCell (Nat.le_refl _) _).setCell (Nat.le_refl _) _).setCell (Nat.le_refl _) _).setCell (Nat.le_refl _) _
     ·have n34:hd xs p≠34:=fun e=>hbad (.inl e)
      have n39:hd xs p≠39:=fun e=>hbad (.inr (.inl e))
      have n40:hd xs p≠40:=fun e=>hbad (.inr (.inr (.inl e)))
      have nct:ctrlZ (hd xs p)=false:=by
       cases hh:ctrlZ (hd xs p)
       ·rfl
       ·exact absurd (.inr (.inr (.inr (.inl hh)))) hbad
      have nes:hd xs p=92→escB (xs.drop p)=true:=by
       intro h
       cases hh:escB (xs.drop p)
       ·exact absurd (.inr (.inr (.inr (.inr ⟨h,hh⟩)))) hbad
       ·rfl
      rw [nct] at hct hON
      simp only [Bool.false_eq_true,if_false] at hON
      clear hbad
      by_cases h92:hd xs p=92
      ·have hE:=nes h92
       rw [if_pos h92,hE] at hON
       obtain ⟨hT2,hR2⟩:=url_esc hlt hON hE
       have HN:Hid (urlEnd ((acc++[(escT (xs.drop (p+1))).1])++urlT (xs.drop (p+1+(escT (xs.drop (p+1))).2)) 0) (urlR (xs.drop (p+1+(escT (xs.drop (p+1))).2)) 0)=urlZ (xs.drop i)):=by
        have:=HF.out
        rw [hT2,hR2] at this
        rw [List.append_assoc]
        exact this
       have HCH2:=hid_mk (escT_char (t:=xs.drop (p+1)) (fun c hc=>HH.out.2.2 c (List.mem_of_mem_drop hc)))
       have hsc:=rescaped_any hrow HH.out.2 p p rfl hlt
       have hle:=escT_len (xs.drop (p+1))
       rw [List.length_drop] at hle
       rw [h92] at ha hbk e1 e41 hct
       rw [hE] at hes
       clear hON hT2 hR2 HF nes n34 n39 n40 nct h41 hbz hE hc0
       clear hBM h92
       generalize escT (xs.drop (p+1))=ec at *
       obtain ⟨c,n⟩:=ec
       simp only at *
       go_wp2_with (go_at_call 81;fail)
       refine (ha).mono ?_
       rintro e w' ⟨rfl,rfl⟩
       go_wp2_with (go_at_call 82;fail)
       refine (hbk).mono ?_
       rintro e w' ⟨rfl,rfl⟩
       go_wp2_with (go_at_call 141;fail)
       refine (hct).mono ?_
       rintro e w' ⟨rfl,rfl⟩
       go_wp2_with (go_at_call 86;fail)
       refine (hes).mono ?_
       rintro e w' ⟨rfl,rfl⟩
       go_wp2_with (go_at_call 119;fail)
       refine (hsc).mono ?_
       rintro e w' ⟨rfl,rfl⟩
       go_wp2_with (at_builtin;go_must (refine wpList_append_own _ rfl _ _ 47 rfl (w.heap.size+1) 21 i0 (.int .i32 0) 1 4 Tryz.underlying47 hi0 hz0 hz1 hz2 rfl (by decide) _ _ _ rfl (hown.alloc _) ⟨wr.heap.size,0,none⟩ 1 1 [.int .i32 c] rfl rfl (cell_one_new _ _ _) (by intro u hu;simp at hu;subst hu;rfl) (by unfold maxLen;omega) (by omega) (by simp;omega) ?_);intro v' w5 hown5 hgrow5 _)
       go_roundw
       case rel=>exact ⟨p+1+n,acc++[c],by first | rfl | go_num,by simpa using hown5,by omega,by omega,(hB.alloc hB.size _).grown hgrow5 (by have:=hB.size;simp;omega) (fun k hk=>by have:=(hown.lt k hk).1;omega),by have:=hgrow5.size;simp at this;omega,zero_grown (hown.alloc _) (Nat.lt_succ_self _) ((heap_alloc_old wr _ hsz).trans hblk) hgrow5,HN.out,by simp;omega,chars_snoc HC.out HCH2.out⟩
       case measure=>simp [intOf];omega
      ·rw [if_neg h92] at hON
       have hON2:urlOn (xs.drop p)=true:=by rw [hON];simp [n34,n39,n40,h41]
       obtain ⟨hT2,hR2⟩:=url_plain hlt hON2 (escB_no h92)
       have HN:Hid (urlEnd ((acc++[hd xs p])++urlT (xs.drop (p+1)) 0) (urlR (xs.drop (p+1)) 0)=urlZ (xs.drop i)):=by
        have:=HF.out
        rw [hT2,hR2] at this
        rw [List.append_assoc]
        exact this
       have m34:(hd xs p == 34)=false:=by simpa using n34
       have m39:(hd xs p == 39)=false:=by simpa using n39
       have m40:(hd xs p == 40)=false:=by simpa using n40
       have m92:(hd xs p == 92)=false:=by simpa using h92
       clear hBM hON hON2 hT2 hR2 HF nes n34 n39 n40 nct h41 hbz h92 hes
       generalize hd xs p=c at *
       go_wp2_with (go_at_call 81;fail)
       refine (ha).mono ?_
       rintro e w' ⟨rfl,rfl⟩
       go_wp2_with (go_at_call 82;fail)
       refine (hbk).mono ?_
       rintro e w' ⟨rfl,rfl⟩
       go_wp2_with (go_at_call 141;fail)
       refine (hct).mono ?_
       rintro e w' ⟨rfl,rfl⟩
       go_wp2_with (at_builtin;go_must (refine wpList_append_own _ rfl _ _ 47 rfl (w.heap.size+1) 21 i0 (.int .i32 0) 1 4 Tryz.underlying47 hi0 hz0 hz1 hz2 rfl (by decide) _ _ _ rfl (hown.alloc _) ⟨wr.heap.size,0,none⟩ 1 1 [.int .i32 c] rfl rfl (cell_one_new _ _ _) (by intro u hu;simp at hu;subst hu;rfl) (by unfold maxLen;omega) (by omega) (by simp;omega) ?_);intro v' w5 hown5 hgrow5 _)
       go_roundw
       case rel=>exact ⟨p+1,acc++[c],by first | rfl | go_num,by simpa using hown5,by omega,by omega,(hB.alloc hB.size _).grown hgrow5 (by have:=hB.size;simp;omega) (fun k hk=>by have:=(hown.lt k hk).1;omega),by have:=hgrow5.size;simp at this;omega,zero_grown (hown.alloc _) (Nat.lt_succ_self _) ((heap_alloc_old wr _ hsz).trans hblk) hgrow5,HN.out,by simp;omega,chars_snoc HC.out HCH.out⟩
       case measure=>simp [intOf];omega
    ·rw [hbz] at hbk hON
     have hoff:=url_off (l:=xs.drop p) (by rw [hON];rfl)
     have HV0:Hid (urlEnd acc (xs.drop p)=urlZ (xs.drop i)):=by
      have:=HF.out
      rw [hoff.1,hoff.2,List.append_nil] at this
      exact this
     have hBM:Hid ((if blankZ (hd xs p) then 1 else 0)=1):=by show (if blankZ (hd xs p) then 1 else 0)=1;rw [hbz];rfl
     have hbl2:=rblanks_any hrow HH.out.2 p p rfl hp
     have HBZ:=hid_mk hbz
     clear hON hoff HF hbz h41
     generalize hc:hd xs p=c at *
     have HCC:=hid_mk hc
     clear hc
     go_wp2_with (go_at_call 81;fail)
     refine (ha).mono ?_
     rintro e w' ⟨rfl,rfl⟩
     go_wp2_with (go_at_call 82;fail)
     refine (hbk).mono ?_
     rintro e w' ⟨rfl,rfl⟩
     go_wp2_with (go_at_call 83;fail)
     refine (hbl2).mono ?_
     rintro e w' ⟨p2,rfl,hdr2,hp21,hp22,rfl⟩
     have ha2:=rat_any hrow HH.out.2 p2 p2 rfl
     have HV1:Hid (urlEnd acc (xs.drop p2)=urlZ (xs.drop i)):=by
      show urlEnd acc (xs.drop p2)=urlZ (xs.drop i)
      rw [← HV0.out]
      exact urlEnd_blank hdr2
     have hnb:blankZ (hd xs p2)=false:=by
      have h:=blanksR_hd (xs.drop p)
      rw [← hdr2,hd_drop,Nat.add_zero] at h
      exact h
     have hpp:p<p2:=by
      rcases Nat.lt_or_ge p p2 with h | h
      ·exact h
      ·exfalso
       have:p2=p:=by omega
       rw [this,HCC.out,HBZ.out] at hnb
       cases hnb
     clear hdr2
     by_cases hgood:hd xs p2=41∨p2=xs.length
     ·have hoff2:urlT (xs.drop p2) 0=[]∧urlR (xs.drop p2) 0=xs.drop p2:=by
       rcases hgood with h | h
       ·by_cases hlt2:p2<xs.length
        ·exact url_off (by rw [urlOn_at hlt2,h];rfl)
        ·rw [hd_end hlt2] at h;exact absurd h (by decide)
       ·rw [h,List.drop_length];exact ⟨rfl,rfl⟩
      have HN:Hid (urlEnd (acc++urlT (xs.drop p2) 0) (urlR (xs.drop p2) 0)=urlZ (xs.drop i)):=by
       show urlEnd (acc++urlT (xs.drop p2) 0) (urlR (xs.drop p2) 0)=urlZ (xs.drop i)
       rw [hoff2.1,hoff2.2,List.append_nil]
       exact HV1.out
      clear hoff2 hnb hBM
      by_cases h41:hd xs p2=41
      ·rw [h41] at ha2
       clear hgood h41
       go_wp2_with (go_at_call 81;fail)
       refine (ha2).mono ?_
       rintro e w' ⟨rfl,rfl⟩
       go_wp2
       go_roundw
       case rel=>exact ⟨p2,acc,rfl,hown,by omega,hp22,hB,hsz,hblk,HN.out,by omega,HC.out⟩
       case measure=>simp [intOf];omega
      ·have hpl:p2=xs.length:=hgood.resolve_left h41
       have hm1:hd xs p2=-1:=hd_end (by omega)
       rw [hm1] at ha2
       clear hgood h41 hpl hm1
       go_wp2_with (go_at_call 81;fail)
       refine (ha2).mono ?_
       rintro e w' ⟨rfl,rfl⟩
       go_wp2_with (go_at_call 81;fail)
       refine (ha2).mono ?_
       rintro e w' ⟨rfl,rfl⟩
       go_wp2
       go_roundw
       case rel=>exact ⟨p2,acc,rfl,hown,by omega,hp22,hB,hsz,hblk,HN.out,by omega,HC.out⟩
       case measure=>simp [intOf];omega
     ·have h41:hd xs p2≠41:=fun e=>hgood (.inl e)
      have hlt2:p2<xs.length:=by
       rcases Nat.lt_or_ge p2 xs.length with h | h
       ·exact h
       ·exact absurd (.inr (by omega)) hgood
      have HV:Hid (urlZ (xs.drop i)=(plainTok 8 [],badR (xs.drop p2) 0)):=by
       show urlZ (xs.drop i)=_
       rw [← HV1.out,urlEnd_bad hlt2 hnb h41]
      have hc2:0≤hd xs p2:=(HH.out.2.2 (hd xs p2) (by have:=drop_hd hlt2;exact List.mem_of_mem_drop (i:=p2) (by rw [this];simp))).1
      have m41:(hd xs p2 != 41)=true:=by simpa using h41
      have m1:(hd xs p2 != -1)=true:=by simp;omega
      have hbd:=rbad_any hrow HH.out.2 p2 p2 rfl hp22
      clear hgood h41 hnb hBM
      generalize hd xs p2=c2 at *
      go_wp2_with (go_at_call 81;fail)
      refine (ha2).mono ?_
      rintro e w' ⟨rfl,rfl⟩
      go_wp2_with (go_at_call 81;fail)
      refine (ha2).mono ?_
      rintro e w' ⟨rfl,rfl⟩
      go_wp2_with (go_at_call 140;fail)
      refine (hbd).mono ?_
      rintro e w6 ⟨p6,rfl,hd6,hp6,hp7,b6⟩
      have hB6:=hB.trans (b6.mono hB.size)
      have hblk6:w6.heap[w.heap.size]? = some (.cells #[.int .i64 0,.string ⟨#[]⟩,.string ⟨#[]⟩,.bool false,.bool false] 65 (0,0)):=(b6.block _ hsz).trans hblk
      obtain ⟨k0,k1,k2,k3,k4,f0,f1,f2,f3,f4⟩:=zero_cells hblk6
      have HD6:=hid_mk hd6
      clear hd6
      go_wp2
      refine bodyPost_ret (v:=.tuple #[.agg #[.int .i64 8,.string ⟨#[]⟩,.string ⟨#[]⟩,.bool false,.bool false],.int .i64 (p6:Int)]) (by simp [results,Tryz.results124,go_sem,k0,k1,k2,k3,k4]) rfl ⟨p6,by rw [HV.out];rfl,by rw [HV.out,HD6.out],by omega,by omega,?_⟩
      exact ((((hB6.setCell (Nat.le_refl _) _).setCell (Nat.le_refl _) _).setCell (Nat.le_refl _) _).setCell (Nat.le_refl _) _).setCell (Nat.le_refl _) _
  ·have hcv:=conv_runes (ownsRow_row hown) HC.out
   rw [hd_end hlt] at ha
   have HV:Hid (urlZ (xs.drop i)=(plainTok 7 acc,xs.drop p)):=by
    have:=HF.out
    rw [List.drop_eq_nil_of_le (Nat.le_of_not_lt hlt)] at this ⊢
    show urlZ (xs.drop i)=_
    rw [← this]
    simp [urlT,urlR,urlEnd_end]
   obtain ⟨k0,k1,k2,k3,k4,f0,f1,f2,f3,f4⟩:=zero_cells hblk
   go_wp2_with (go_at_call 81;fail)
   refine (ha).mono ?_
   rintro e w' ⟨rfl,rfl⟩
   go_wp2
   refine bodyPost_ret (v:=.tuple #[.agg #[.int .i64 7,.string (strT acc),.string ⟨#[]⟩,.bool false,.bool false],.int .i64 ((p:Nat):Int)]) (by simp [results,Tryz.results124,go_sem,k0,k1,k2,k3,k4]) rfl ⟨p,by rw [HV.out];rfl,by rw [HV.out],by omega,by omega,?_⟩
   exact ((((hB.setCell (Nat.le_refl _) _).setCell (Nat.le_refl _) _).setCell (Nat.le_refl _) _).setCell (Nat.le_refl _) _).setCell (Nat.le_refl _) _
theorem byte_back {n:Int} (h:0≤n∧n<256):((UInt8.ofNat n.toNat).toNat:Int)=n:=by
 simp only [UInt8.toNat_ofNat']
 omega
theorem fold_nums (l:List Int) (h:∀ n∈l,0≤n∧n<256):foldS (strOfNums l)=strOfNums (l.map foldI):=by
 apply ByteArray.ext
 show ((l.map _).toArray.map foldB)=((l.map foldI).map _).toArray
 simp only [List.map_toArray,List.map_map]
 congr 1
 apply List.map_congr_left
 intro n hn
 have hb:=h n hn
 show foldB (UInt8.ofNat n.toNat)=UInt8.ofNat (foldI n).toNat
 apply UInt8.toNat_inj.1
 rw [foldB_nat]
 have e1:(UInt8.ofNat n.toNat).toNat=n.toNat:=by simp only [UInt8.toNat_ofNat'];omega
 rw [e1]
 unfold foldN foldI
 split
 ·rename_i h1
  rw [if_pos (by omega)]
  simp only [UInt8.toNat_ofNat']
  omega
 ·rename_i h1
  rw [if_neg (by omega)]
  simp only [UInt8.toNat_ofNat']
  omega
theorem nums_inj {a c:List Int} (ha:∀ n∈a,0≤n∧n<256) (hc:∀ n∈c,0≤n∧n<256) (h:strOfNums a=strOfNums c):a=c:=by
 have h1:(a.map fun n=>UInt8.ofNat n.toNat)=(c.map fun n=>UInt8.ofNat n.toNat):=by
  have:=congrArg ByteArray.data h
  simpa [strOfNums] using this
 have h2:=congrArg (List.map fun x:UInt8=>(x.toNat:Int)) h1
 rw [List.map_map,List.map_map] at h2
 have e:∀ l:List Int,(∀ n∈l,0≤n∧n<256)→l.map ((fun x:UInt8=>(x.toNat:Int)) ∘ fun n=>UInt8.ofNat n.toNat)=l:=by
  intro l hl
  conv=>rhs;rw [← List.map_id l]
  apply List.map_congr_left
  intro n hn
  exact byte_back (hl n hn)
 rw [e a ha,e c hc] at h2
 exact h2
theorem url_name (t:List Int):(foldS (strOfNums (bytesZ t))=⟨#[117,114,108]⟩) ↔ urlNm t=true:=by
 have hb:=bytesZ_byte t
 have e3:(⟨#[117,114,108]⟩:ByteArray)=strOfNums [117,114,108]:=rfl
 rw [fold_nums _ hb,e3]
 unfold urlNm
 rw [beq_iff_eq]
 constructor
 ·intro h
  refine nums_inj ?_ (by decide) h
  intro n hn
  obtain ⟨m,hm,rfl⟩:=List.mem_map.1 hn
  have:=hb m hm
  unfold foldI
  split <;> omega
 ·intro h
  rw [h]
theorem strT_size (l:List Int):(strT l).size≤4 * l.length:=by
 unfold strT
 rw [strOf_size]
 induction l with
 | nil=>simp [bytesZ]
 | cons c r ih =>
   have:=(Lib.encodeRuneZ_length c).2
   rw [bytesZ_cons,List.length_append,List.length_cons]
   omega
theorem nameT_length:∀ (l:List Int) (k:Nat),(nameT l k).length≤l.length
 | [],_=>by simp [nameT]
 | _::t,k+1=>by
   rw [nameT]
   have:=nameT_length t k
   simp only [List.length_cons]
   omega
 | c::t,0=>by
   rw [nameT]
   split
   ·have:=nameT_length t 0
    simp only [List.length_cons]
    omega
   ·split
    ·have:=nameT_length t (escT t).2
     simp only [List.length_cons]
     omega
    ·simp
theorem rword_any {w:World} {v:Value} {xs:List Int} (hv:RowAt .i32 w v xs) (fx:Fine xs) (i:Nat) (j:Int) (hj:j=i) (hi:i≤xs.length) :
  Calls Tryz.prog 91 #[v,.int .i64 j] w fun e w'=>∃ p:Nat,e=.returned (.tuple #[tokV (wordZ (xs.drop i)).1,.int .i64 p])∧xs.drop p=(wordZ (xs.drop i)).2∧i≤p∧p≤xs.length∧Below w.heap.size w w':=by
 subst hj
 have hl:=fx.1
 have hB0:Below w.heap.size w (w.alloc (.cells #[.int .i64 0,.string ⟨#[]⟩,.string ⟨#[]⟩,.bool false,.bool false] 65)):=(Below.refl _ _).alloc (Nat.le_refl _) _
 have HH:Hid (RowAt .i32 w v xs∧Fine xs):=And.intro hv fx
 have hnm:=rname_any (hv.below hB0) fx i i rfl hi
 have HZ:Hid (wordZ (xs.drop i)=if hd (nameR (xs.drop i) 0) 0=40 then (if urlNm (nameT (xs.drop i) 0) && !qbB ((nameR (xs.drop i) 0).drop 1) then urlZ ((nameR (xs.drop i) 0).drop 1) else (plainTok 2 (nameT (xs.drop i) 0),(nameR (xs.drop i) 0).drop 1)) else (plainTok 1 (nameT (xs.drop i) 0),nameR (xs.drop i) 0)):=rfl
 have hsz:=strT_size (nameT (xs.drop i) 0)
 have hnl:=nameT_length (xs.drop i) 0
 rw [List.length_drop] at hnl
 have hun:=url_name (nameT (xs.drop i) 0)
 have hfs:∀ w',Calls Tryz.prog 117 #[.string (strT (nameT (xs.drop i) 0))] w' fun e w''=>e=.returned (.string (foldS (strT (nameT (xs.drop i) 0))))∧Below w'.heap.size w' w'':=fun w'=>refFold_any _ w' (by omega)
 have hun2:(foldS (strT (nameT (xs.drop i) 0))=⟨#[117,114,108]⟩) ↔ urlNm (nameT (xs.drop i) 0)=true:=hun
 clear hun
 obtain ⟨a,cap,rfl,hcap,hcs⟩:=hv
 clear fx hcs
 have HFS:=hid_mk hfs
 have HUN:=hid_mk hun2
 clear hfs hun2
 go_enter Tryz.func91,Tryz.ntmps91
 go_wp2_with (go_at_call 88;fail)
 refine (hnm).mono ?_
 rintro e w1 ⟨p1,rfl,hdr,hp1,hp2,b1⟩
 have hB1:Below w.heap.size w w1:=hB0.trans (b1.mono (by simp))
 have hblk1:w1.heap[w.heap.size]? = some (.cells #[.int .i64 0,.string ⟨#[]⟩,.string ⟨#[]⟩,.bool false,.bool false] 65 (0,0)):=(b1.block _ (by simp)).trans (heap_alloc_new w _)
 have hsz1:w.heap.size<w1.heap.size:=(Array.getElem?_eq_some_iff.1 hblk1).1
 have ha:=rat_any (HH.out.1.below hB1) HH.out.2 p1 p1 rfl
 have hh:hd (nameR (xs.drop i) 0) 0=hd xs p1:=by rw [← hdr,hd_drop];rfl
 have hZ2:=HZ.out
 rw [hh,← hdr] at hZ2
 generalize nameT (xs.drop i) 0=nm at *
 have HZ2:=hid_mk hZ2
 clear hZ2 HZ hh hdr hnm b1
 by_cases h40:hd xs p1=40
 ·have hlt:p1<xs.length:=by
   by_cases h:p1<xs.length
   ·exact h
   ·rw [hd_end h] at h40;exact absurd h40 (by decide)
  have hbl:=rblanks_any (HH.out.1.below hB1) HH.out.2 (p1+1) ((p1:Int)+1) (by omega) (by omega)
  rw [h40] at ha
  go_wp2_with (go_at_call 81;fail)
  refine (ha).mono ?_
  rintro e w' ⟨rfl,rfl⟩
  go_wp2_with (go_at_call 83;fail)
  refine (hbl).mono ?_
  rintro e w' ⟨k1,rfl,hkd,hk1,hk2,rfl⟩
  have hqb:qbB ((xs.drop p1).drop 1)=(hd xs k1 == 34 || hd xs k1 == 39):=by
   unfold qbB
   rw [List.drop_drop,← hkd,hd_drop]
   rfl
  have HQB:=hid_mk hqb
  clear hqb hkd
  cases hu:urlNm nm
  ·have hne:foldS (strT nm)≠⟨#[117,114,108]⟩:=by
    intro e
    rw [HUN.out.1 e] at hu
    cases hu
   have HV:Hid (wordZ (xs.drop i)=(plainTok 2 nm,xs.drop (p1+1))):=by
    show wordZ (xs.drop i)=_
    rw [HZ2.out,if_pos h40,hu,List.drop_drop]
    simp
   have HDR:Hid (xs.drop (p1+1)=xs.drop (p1+1)):=rfl
   clear hu h40
   have hf1:=HFS.out w1
   generalize foldS (strT nm)=fs at *
   have hne3:(fs.toList == [117,114,108])=false:=by
    rw [Bool.eq_false_iff]
    intro h
    rw [beq_iff_eq,ByteArray.toList_eq] at h
    exact hne (ByteArray.ext (Array.toList_inj.1 h))
   have hne1:(fs == ⟨#[117,114,108]⟩)=false:=by rw [beq_toListBytes,ByteArray.toList_eq ⟨#[117,114,108]⟩];exact hne3
   clear hne HFS HUN
   go_wp2_with (go_at_call 117;fail)
   refine (hf1).mono ?_
   rintro e w2 ⟨rfl,b2⟩
   have hB2:=hB1.trans (b2.mono hB1.size)
   have hblk2:w2.heap[w.heap.size]? = some (.cells #[.int .i64 0,.string ⟨#[]⟩,.string ⟨#[]⟩,.bool false,.bool false] 65 (0,0)):=(b2.block _ hsz1).trans hblk1
   have hsz2:w.heap.size<w2.heap.size:=(Array.getElem?_eq_some_iff.1 hblk2).1
   have ha2:=rat_any (HH.out.1.below hB2) HH.out.2 k1 k1 rfl
   have hur:=rurl_any (HH.out.1.below hB2) HH.out.2 (p1+1) ((p1:Int)+1) (by omega) (by omega)
   obtain ⟨k0,k1',k2,k3,k4,f0,f1,f2,f3,f4⟩:=zero_cells hblk2
   go_wp2
   refine bodyPost_ret (v:=.tuple #[.agg #[.int .i64 2,.string (strT nm),.string ⟨#[]⟩,.bool false,.bool false],.int .i64 ((p1+1:Nat):Int)]) (by simp [results,Tryz.results91,go_sem,k0,k1',k2,k3,k4]) rfl ⟨p1+1,by rw [HV.out];rfl,by rw [HV.out],by omega,by omega,?_⟩
   exact ((((hB2.setCell (Nat.le_refl _) _).setCell (Nat.le_refl _) _).setCell (Nat.le_refl _) _).setCell (Nat.le_refl _) _).setCell (Nat.le_refl _) _
  ·have hf1:=HFS.out w1
   rw [HUN.out.2 hu] at hf1
   clear HUN HFS
   go_wp2_with (go_at_call 117;fail)
   refine (hf1).mono ?_
   rintro e w2 ⟨rfl,b2⟩
   have hB2:=hB1.trans (b2.mono hB1.size)
   have hblk2:w2.heap[w.heap.size]? = some (.cells #[.int .i64 0,.string ⟨#[]⟩,.string ⟨#[]⟩,.bool false,.bool false] 65 (0,0)):=(b2.block _ hsz1).trans hblk1
   have hsz2:w.heap.size<w2.heap.size:=(Array.getElem?_eq_some_iff.1 hblk2).1
   have ha2:=rat_any (HH.out.1.below hB2) HH.out.2 k1 k1 rfl
   have hur:=rurl_any (HH.out.1.below hB2) HH.out.2 (p1+1) ((p1:Int)+1) (by omega) (by omega)
   obtain ⟨k0,k1',k2,k3,k4,f0,f1,f2,f3,f4⟩:=zero_cells hblk2
   by_cases hq:hd xs k1=34∨hd xs k1=39
   ·have HV:Hid (wordZ (xs.drop i)=(plainTok 2 nm,xs.drop (p1+1))):=by
     show wordZ (xs.drop i)=_
     have hqt:qbB ((xs.drop p1).drop 1)=true:=by rw [HQB.out];simpa using hq
     rw [HZ2.out,if_pos h40,hu,hqt,List.drop_drop]
     simp
    have HDR:Hid (xs.drop (p1+1)=xs.drop (p1+1)):=rfl
    clear hu h40
    rcases hq with h34 | h39
    ·rw [h34] at ha2
     clear h34
     go_wp2_with (go_at_call 81;fail)
     refine (ha2).mono ?_
     rintro e w' ⟨rfl,rfl⟩
     go_wp2
     refine bodyPost_ret (v:=.tuple #[.agg #[.int .i64 2,.string (strT nm),.string ⟨#[]⟩,.bool false,.bool false],.int .i64 ((p1+1:Nat):Int)]) (by simp [results,Tryz.results91,go_sem,k0,k1',k2,k3,k4]) rfl ⟨p1+1,by rw [HV.out];rfl,by rw [HV.out],by omega,by omega,?_⟩
     exact ((((hB2.setCell (Nat.le_refl _) _).setCell (Nat.le_refl _) _).setCell (Nat.le_refl _) _).setCell (Nat.le_refl _) _).setCell (Nat.le_refl _) _
    ·rw [h39] at ha2
     clear h39
     go_wp2_with (go_at_call 81;fail)
     refine (ha2).mono ?_
     rintro e w' ⟨rfl,rfl⟩
     go_wp2_with (go_at_call 81;fail)
     refine (ha2).mono ?_
     rintro e w' ⟨rfl,rfl⟩
     go_wp2
     refine bodyPost_ret (v:=.tuple #[.agg #[.int .i64 2,.string (strT nm),.string ⟨#[]⟩,.bool false,.bool false],.int .i64 ((p1+1:Nat):Int)]) (by simp [results,Tryz.results91,go_sem,k0,k1',k2,k3,k4]) rfl ⟨p1+1,by rw [HV.out];rfl,by rw [HV.out],by omega,by omega,?_⟩
     exact ((((hB2.setCell (Nat.le_refl _) _).setCell (Nat.le_refl _) _).setCell (Nat.le_refl _) _).setCell (Nat.le_refl _) _).setCell (Nat.le_refl _) _
   ·have HV:Hid (wordZ (xs.drop i)=urlZ (xs.drop (p1+1))):=by
     show wordZ (xs.drop i)=_
     have hqt:qbB ((xs.drop p1).drop 1)=false:=by
      rw [HQB.out]
      have h1:hd xs k1≠34:=fun e=>hq (.inl e)
      have h2:hd xs k1≠39:=fun e=>hq (.inr e)
      simp [h1,h2]
     rw [HZ2.out,if_pos h40,hu,hqt,List.drop_drop]
     simp
    have m34:(hd xs k1 != 34)=true:=by
     have:hd xs k1≠34:=fun e=>hq (.inl e)
     simpa using this
    have m39:(hd xs k1 != 39)=true:=by
     have:hd xs k1≠39:=fun e=>hq (.inr e)
     simpa using this
    clear hu h40 hq k0 k1' k2 k3 k4 f0 f1 f2 f3 f4
    generalize hd xs k1=ck at *
    go_wp2_with (go_at_call 81;fail)
    refine (ha2).mono ?_
    rintro e w' ⟨rfl,rfl⟩
    go_wp2_with (go_at_call 81;fail)
    refine (ha2).mono ?_
    rintro e w' ⟨rfl,rfl⟩
    go_wp2_with (go_at_call 124;fail)
    refine (hur).mono ?_
    rintro e w6 ⟨p6,rfl,hd6,hp6,hp7,b6⟩
    have hB6:=hB2.trans (b6.mono hB2.size)
    have hblk6:w6.heap[w.heap.size]? = some (.cells #[.int .i64 0,.string ⟨#[]⟩,.string ⟨#[]⟩,.bool false,.bool false] 65 (0,0)):=(b6.block _ hsz2).trans hblk2
    obtain ⟨k0,k1',k2,k3,k4,f0,f1,f2,f3,f4⟩:=zero_cells hblk6
    have HD6:=hid_mk hd6
    clear hd6
    obtain ⟨tk,hr,hur2⟩:∃ tk hr,urlZ (xs.drop (p1+1))=(tk,hr):=⟨_,_,rfl⟩
    rw [hur2] at HV HD6
    rw [hur2]
    have HT:Hid (tokV tk=.agg #[.int .i64 tk.kind,.string (strT tk.text),.string (strT tk.unit),.bool tk.whole,.bool tk.flag]):=rfl
    simp only [tokV]
    generalize tk.kind=t1 at *
    generalize strT tk.text=t2 at *
    generalize strT tk.unit=t3 at *
    generalize tk.whole=t4 at *
    generalize tk.flag=t5 at *
    clear hur2 hur
    go_wp2
    refine bodyPost_ret (v:=.tuple #[.agg #[.int .i64 t1,.string t2,.string t3,.bool t4,.bool t5],.int .i64 (p6:Int)]) (by simp [results,Tryz.results91,go_sem,k0,k1',k2,k3,k4]) rfl ⟨p6,by rw [HV.out,HT.out],by rw [HV.out,HD6.out],by omega,by omega,?_⟩
    exact ((((hB6.setCell (Nat.le_refl _) _).setCell (Nat.le_refl _) _).setCell (Nat.le_refl _) _).setCell (Nat.le_refl _) _).setCell (Nat.le_refl _) _
 ·have n40:(hd xs p1 != 40)=true:=by simpa using h40
  have HV:Hid (wordZ (xs.drop i)=(plainTok 1 nm,xs.drop p1)):=by
   show wordZ (xs.drop i)=_
   rw [HZ2.out,if_neg h40]
  have HDR:Hid (xs.drop p1=xs.drop p1):=rfl
  obtain ⟨k0,k1,k2,k3,k4,f0,f1,f2,f3,f4⟩:=zero_cells hblk1
  clear h40
  generalize hd xs p1=c at *
  go_wp2_with (go_at_call 81;fail)
  refine (ha).mono ?_
  rintro e w' ⟨rfl,rfl⟩
  go_wp2
  refine bodyPost_ret (v:=.tuple #[.agg #[.int .i64 1,.string (strT nm),.string ⟨#[]⟩,.bool false,.bool false],.int .i64 ((p1:Nat):Int)]) (by simp [results,Tryz.results91,go_sem,k0,k1,k2,k3,k4]) rfl ⟨p1,by rw [HV.out];rfl,by rw [HV.out],by omega,by omega,?_⟩
  exact ((((hB1.setCell (Nat.le_refl _) _).setCell (Nat.le_refl _) _).setCell (Nat.le_refl _) _).setCell (Nat.le_refl _) _).setCell (Nat.le_refl _) _
end Go.Proofs.YtemlnblifkdenaaGreatDoor.Y
