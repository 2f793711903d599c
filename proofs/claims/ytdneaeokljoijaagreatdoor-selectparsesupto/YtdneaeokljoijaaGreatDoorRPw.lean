/- gouacheref05.Parse: the walk. -/
import Derived.Test.YtdneaeokljoijaaGreatDoorRXw
import Derived.Laws.OwnMore
import Derived.Deep.DeepCutAuto
import Derived.Deep.CutBlock
import Derived.Test.YtdneaeokljoijaaGreatDoorYSameV
import Derived.Deep.RegionLaw
import Derived.Deep.AppendLies
import Derived.Maps.AppendAt
import Derived.Test.YtdneaeokljoijaaGreatDoorRAt
set_option maxRecDepth 100000
set_option maxHeartbeats 8000000
namespace Go.Proofs.YtdneaeokljoijaaGreatDoor.L
open Go.RowKit
def spF:List V→List (List V)→List V→List (List V)
 | [],ys,c=>ys++[c]
 | v::r,ys,c=>if cmB v=true then spF r (ys++[c]) [] else spF r ys (c++[v])
def hdP (c:List V):List (List V)→List (List V)
 | []=>[c]
 | p::ps=>(c++p)::ps
theorem spF_eq:∀ (l:List V) (ys:List (List V)) (c:List V),spF l ys c=ys++hdP c (splt l)
 | [],ys,c=>by simp [spF,splt,hdP]
 | v::r,ys,c=>by
   unfold spF splt
   split
   ·rw [spF_eq r]
    cases h:splt r with
    | nil=>exact absurd h (splt_ne r)
    | cons p ps=>simp [hdP]
   ·rw [spF_eq r]
    cases h:splt r with
    | nil=>exact absurd h (splt_ne r)
    | cons p ps=>simp [hdP]
theorem spF_splt (l:List V):spF l [] []=splt l:=by
 rw [spF_eq]
 cases h:splt l with
 | nil=>exact absurd h (splt_ne l)
 | cons p ps=>simp [hdP]
abbrev PV:=Value×List (T5×Value×List V)
def flV (ps:List (T5×Value×List V)):List Value:=ps.flatMap fun p=>vCells p.1 p.2.1
def prV (x:PV):List V:=x.2.map Y.mkV
structure SpI (W w:World) (ov:Value) (xs:List PV):Prop where
 own:w.ownsRow W.heap.size 22 1 ov xs.length (xs.map (·.1))
 rows:∀ x∈xs,w.ownsRow W.heap.size 34 6 x.1 x.2.length (flV x.2)
 kids:∀ x∈xs,∀ p∈x.2,VsAt (·<W.heap.size) W p.2.1 p.2.2
 dis:xs.Pairwise fun a b=>∀ g,a.1.ownBlock=some g→b.1.ownBlock≠some g
 bel:Below W.heap.size W w
theorem SpI.keep {W w w':World} {ov:Value} {xs:List PV} (h:SpI W w ov xs) (hb:Below w.heap.size w w'):SpI W w' ov xs:=⟨own_keep h.own hb,fun x hx=>own_keep (h.rows x hx) hb,h.kids,h.dis,h.bel.trans (hb.mono h.bel.size)⟩
theorem typ_ne {w:World} {B n m s t g:Nat} {T U:TypeId} {u v:Value} {xs ys:List Value} (h:w.ownsRow B T s u n xs) (k:w.ownsRow B U t v m ys) (hT:T≠U) (e:u.ownBlock=some g):v.ownBlock≠some g:=fun e2=>by
 obtain ⟨c,h1⟩:=own_typ h e
 obtain ⟨d,h2⟩:=own_typ k e2
 rw [h1] at h2
 injection h2 with h2
 injection h2 with _ h2
 exact hT h2
theorem SpI.start (W:World):SpI W (W.alloc (.cells #[.slice none 0 0] 22)) (.slice (some ⟨W.heap.size,0,none⟩) 1 1) [(.slice none 0 0,[])]:=by
 refine ⟨?_,fun x hx=>?_,fun x hx p hp=>?_,by simp,(Below.refl _ _).alloc (Nat.le_refl _) _⟩
 ·have:=World.ownsRow_lit (base:=W.heap.size) (e:=22) (size:=1) W #[.slice none 0 0] 1 (Nat.le_refl _) (by decide) rfl
  simpa using this
 ·rw [List.mem_singleton.1 hx]
  exact World.ownsRow_nil _ _ _ _
 ·rw [List.mem_singleton.1 hx] at hp
  exact absurd hp (by simp)
theorem SpI.new {W w w2:World} {ov ov2:Value} {o:Obj} {xs:List PV} (h:SpI W w ov xs) (ho:w2.ownsRow W.heap.size 22 1 ov2 (xs.length+1) (xs.map (·.1)++[.slice none 0 0])) (hg:(w.alloc o).grownBy w2 ov.ownBlock):SpI W w2 ov2 (xs++[(.slice none 0 0,[])]):=by
 have hsz:(w.alloc o).heap.size=w.heap.size+1:=by simp
 have hst:∀ k,k<w.heap.size→ov.ownBlock≠some k→w2.heap[k]? = w.heap[k]?:=fun k h1 h2=>(hg.block k (by omega) (fun e=>h2 e.symm)).trans (Below.heap_alloc w o k h1)
 have h1:Below W.heap.size W (w.alloc o):=h.bel.alloc h.bel.size o
 refine ⟨by rw [List.length_append,List.map_append];exact ho,fun x hx=>?_,fun x hx=>?_,?_,h1.grown hg h1.size fun k e=>(own_blk h.own k e).1⟩
 ·rcases List.mem_append.1 hx with hx | hx
  ·exact own_stay (h.rows x hx) fun g hgl _ e=>hst g hgl (typ_ne (h.rows x hx) h.own (by decide) e)
  ·rw [List.mem_singleton.1 hx]
   exact World.ownsRow_nil _ _ _ _
 ·rcases List.mem_append.1 hx with hx | hx
  ·exact h.kids x hx
  ·rw [List.mem_singleton.1 hx]
   exact fun p hp=>absurd hp (by simp)
 ·refine List.pairwise_append.2 ⟨h.dis,by simp,fun a ha b hb g e=>?_⟩
  rw [List.mem_singleton.1 hb]
  simp [Value.ownBlock]
theorem SpI.grow {W w w4:World} {ov u u2:Value} {ys:List PV} {ps:List (T5×Value×List V)} {t:T5} {kv:Value} {kids:List V} (h:SpI W w ov (ys++[(u,ps)])) (hk:VsAt (·<W.heap.size) W kv kids)
  (hrow:w4.ownsRow W.heap.size 34 6 u2 (ps.length+1) (flV ps++vCells t kv)) (hout:w4.ownsRow W.heap.size 22 1 ov (ys.length+1) (ys.map (·.1)++[u2])) (hst:∀ k,k<w.heap.size→u.ownBlock≠some k→ov.ownBlock≠some k→w4.heap[k]? = w.heap[k]?)
  (hat:u2.ownBlock=u.ownBlock∨∃ g,u2.ownBlock=some g∧w.heap.size≤g) (hb:Below W.heap.size W w4):SpI W w4 ov (ys++[(u2,ps++[(t,kv,kids)])]):=by
 have hd:=List.pairwise_append.1 h.dis
 refine ⟨by rw [List.length_append,List.map_append];exact hout,fun x hx=>?_,fun x hx=>?_,?_,hb⟩
 ·rcases List.mem_append.1 hx with hx | hx
  ·have hr:=h.rows x (by simp [hx])
   exact own_stay hr fun g hgl _ e=>hst g hgl (hd.2.2 x hx _ (List.mem_singleton.2 rfl) g e) (typ_ne hr h.own (by decide) e)
  ·rw [List.mem_singleton.1 hx]
   show w4.ownsRow _ _ _ _ (ps++[(t,kv,kids)]).length (flV (ps++[(t,kv,kids)]))
   rw [List.length_append]
   have:flV (ps++[(t,kv,kids)])=flV ps++vCells t kv:=by simp [flV]
   rw [this]
   exact hrow
 ·rcases List.mem_append.1 hx with hx | hx
  ·exact h.kids x (by simp [hx])
  ·rw [List.mem_singleton.1 hx]
   intro p hp
   rcases List.mem_append.1 hp with hp | hp
   ·exact h.kids (u,ps) (by simp) p hp
   ·rw [List.mem_singleton.1 hp]
    exact hk
 ·refine List.pairwise_append.2 ⟨hd.1,by simp,fun a ha b hb' g e=>?_⟩
  rw [List.mem_singleton.1 hb']
  show u2.ownBlock≠some g
  intro e2
  rcases hat with q | ⟨g',q,hge⟩
  ·exact hd.2.2 a ha _ (List.mem_singleton.2 rfl) g e (q.symm.trans e2)
  ·rw [q] at e2
   cases e2
   have:=(own_blk (h.rows a (by simp [ha])) g e).2
   omega
theorem SpI.at {W w:World} {ov:Value} {xs:List PV} (h:SpI W w ov xs) (j:Nat) (x:PV) (hx:xs[j]? = some x):VsAt (fun _=>True) w x.1 (prV x):=by
 have hm:=List.mem_of_getElem? hx
 have hr:Y.Row (fun _=>True) W.heap.size w x.1 x.2:=by
  refine ⟨h.rows x hm,fun _ _=>trivial,fun p hp=>?_⟩
  refine ((h.kids x hm p hp).stay (W':=w) h.bel.size fun b hb _=>h.bel.block b hb).wider fun b hb _=>⟨trivial,fun e=>?_⟩
  have:=(own_blk (h.rows x hm) b e).1
  omega
 exact Y.Row.vals hr
structure Mid (W w3 w7:World) (g g2 oc c2:Nat) (u:Value) (ys:List PV) (ps:List (T5×Value×List V)) (news:List Value):Prop where
 cell:w7.cell? ⟨g,ys.length,none⟩=some u
 froz:w7.frozen? ⟨g,ys.length,none⟩=false
 ne:g≠g2
 out:(w7.setCell ⟨g,ys.length,none⟩ (.slice (some ⟨g2,0,none⟩) (ps.length+1) c2)).ownsRow W.heap.size 22 1 (.slice (some ⟨g,0,none⟩) (ys.length+1) oc) (ys.length+1) (ys.map (·.1)++[.slice (some ⟨g2,0,none⟩) (ps.length+1) c2])
 row:(w7.setCell ⟨g,ys.length,none⟩ (.slice (some ⟨g2,0,none⟩) (ps.length+1) c2)).ownsRow W.heap.size 34 6 (.slice (some ⟨g2,0,none⟩) (ps.length+1) c2) (ps.length+1) (flV ps++news)
 st:∀ k,k<w3.heap.size→u.ownBlock≠some k→k≠g→(w7.setCell ⟨g,ys.length,none⟩ (.slice (some ⟨g2,0,none⟩) (ps.length+1) c2)).heap[k]? = w3.heap[k]?
 at_:u.ownBlock=some g2∨w3.heap.size≤g2
 bel:Below W.heap.size W (w7.setCell ⟨g,ys.length,none⟩ (.slice (some ⟨g2,0,none⟩) (ps.length+1) c2))
theorem SpI.mid {W w3 w7:World} {g g2 oc c2:Nat} {u:Value} {ys:List PV} {ps:List (T5×Value×List V)} {news:List Value} {o:Obj} (h:SpI W w3 (.slice (some ⟨g,0,none⟩) (ys.length+1) oc) (ys++[(u,ps)]))
  (ho:w7.ownsRow W.heap.size 34 6 (.slice (some ⟨g2,0,none⟩) (ps.length+1) c2) (ps.length+1) (flV ps++news)) (hg:(w3.alloc o).drew.grownBy w7 u.ownBlock) (hat:u.ownBlock=some g2∨g2=w3.heap.size+1):Mid W w3 w7 g g2 oc c2 u ys ps news:=by
 have hsz:(w3.alloc o).drew.heap.size=w3.heap.size+1:=by show (w3.alloc o).heap.size=_;simp
 have hst:∀ k,k<w3.heap.size→u.ownBlock≠some k→w7.heap[k]? = w3.heap[k]?:=fun k h1 h2=>(hg.block k (by omega) (fun e=>h2 e.symm)).trans (Below.heap_alloc w3 o k h1)
 have hrow:=h.rows (u,ps) (by simp)
 have hown:=h.own
 rw [List.length_append,List.length_singleton] at hown
 have hgl:g<w3.heap.size:=(own_blk hown g rfl).2
 have hug:u.ownBlock≠some g:=fun e=>typ_ne hrow hown (by decide) e rfl
 have hown7:w7.ownsRow W.heap.size 22 1 (.slice (some ⟨g,0,none⟩) (ys.length+1) oc) (ys.length+1) ((ys++[(u,ps)]).map (·.1)):=own_stay hown fun k hk _ e=>by
  cases e
  exact hst g hk hug
 have hne:g≠g2:=by
  rcases hat with e | e
  ·rintro rfl
   exact hug e
  ·omega
 have hl:((ys++[(u,ps)]).map (·.1)).set ys.length (.slice (some ⟨g2,0,none⟩) (ps.length+1) c2)=ys.map (·.1)++[.slice (some ⟨g2,0,none⟩) (ps.length+1) c2]:=by
  rw [List.map_append,List.set_append_right _ _ (by simp)]
  simp
 have hc:=World.ownsRow.cellAt hown7 ys.length (by omega)
 refine ⟨?_,World.ownsRow.frozenAt hown7 _,hne,?_,own_stay ho fun k _ _ e=>by cases e;exact heap_ne (Ne.symm hne),fun k h1 h2 h3=>(heap_ne h3).trans (hst k h1 h2),?_,?_⟩
 ·rw [hc,List.map_append,List.getElem?_append_right (by simp)]
  simp
 ·have:=(World.ownsRow.stored hown7 ys.length (.slice (some ⟨g2,0,none⟩) (ps.length+1) c2)).1
  rw [hl] at this
  exact this
 ·rcases hat with e | e
  ·exact .inl e
  ·exact .inr (by omega)
 ·have h1:Below W.heap.size W (w3.alloc o).drew:=(h.bel.alloc h.bel.size o).drew
  have h2:=h1.grown hg h1.size fun k e=>(own_blk hrow k e).1
  exact h2.setCell (p:=⟨g,ys.length,none⟩) (by simpa using (own_blk hown g rfl).1) _
theorem Mid.yes {W w3 w7:World} {g g2 oc c2:Nat} {u:Value} {ys:List PV} {ps:List (T5×Value×List V)} {t:T5} {kv:Value} {kids:List V} (h:SpI W w3 (.slice (some ⟨g,0,none⟩) (ys.length+1) oc) (ys++[(u,ps)])) (hk:VsAt (·<W.heap.size) W kv kids)
  (m:Mid W w3 w7 g g2 oc c2 u ys ps (vCells t kv)):SpI W (w7.setCell ⟨g,ys.length,none⟩ (.slice (some ⟨g2,0,none⟩) (ps.length+1) c2)) (.slice (some ⟨g,0,none⟩) (ys.length+1) oc) (ys++[(.slice (some ⟨g2,0,none⟩) (ps.length+1) c2,ps++[(t,kv,kids)])]) :=
 h.grow hk m.row m.out (fun k h1 h2 h3=>m.st k h1 h2 (fun e=>h3 (by rw [e];rfl))) (m.at_.imp (fun e=>e.symm) fun e=>⟨g2,rfl,e⟩) m.bel
theorem flV_len (ps:List (T5×Value×List V)):(flV ps).length=ps.length * 6:=Y.flat6_len ps
theorem Mid.later {W w3 w7:World} {g g2 oc c2:Nat} {u:Value} {ys:List PV} {ps:List (T5×Value×List V)} {t:T5} {kv:Value} {kids:List V} {z0 z1 z2 z3 z4 z5:Value} (h:SpI W w3 (.slice (some ⟨g,0,none⟩) (ys.length+1) oc) (ys++[(u,ps)])) (hk:VsAt (·<W.heap.size) W kv kids)
  (m:Mid W w3 w7 g g2 oc c2 u ys ps [z0,z1,z2,z3,z4,z5]) (w8 w9:World) (hw8:w8=w7.setCell ⟨g,ys.length,none⟩ (.slice (some ⟨g2,0,none⟩) (ps.length+1) c2))
  (hw9:w9=(((((w8.setCell ⟨g2,ps.length * 6,none⟩ (.int .i64 t.k)).setCell ⟨g2,ps.length * 6+1,none⟩ (.string t.tx)).setCell ⟨g2,ps.length * 6+2,none⟩ (.string t.un)).setCell ⟨g2,ps.length * 6+3,none⟩ (.bool t.wh)).setCell ⟨g2,ps.length * 6+4,none⟩ (.bool t.fl)).setCell ⟨g2,ps.length * 6+5,none⟩ kv) :
  SpI W w9 (.slice (some ⟨g,0,none⟩) (ys.length+1) oc) (ys++[(.slice (some ⟨g2,0,none⟩) (ps.length+1) c2,ps++[(t,kv,kids)])]):=by
 have hb:=m.bel
 have hrow:=m.row
 have hout:=m.out
 have hst:=m.st
 rw [← hw8] at hb hrow hout hst
 have hge:W.heap.size≤g2:=(own_blk hrow g2 rfl).1
 have r0:=(World.ownsRow.stored hrow (ps.length * 6) (.int .i64 t.k)).1
 have r1:=(World.ownsRow.stored r0 (ps.length * 6+1) (.string t.tx)).1
 have r2:=(World.ownsRow.stored r1 (ps.length * 6+2) (.string t.un)).1
 have r3:=(World.ownsRow.stored r2 (ps.length * 6+3) (.bool t.wh)).1
 have r4:=(World.ownsRow.stored r3 (ps.length * 6+4) (.bool t.fl)).1
 have r5:=(World.ownsRow.stored r4 (ps.length * 6+5) kv).1
 have hset:∀ (i:Nat) (x:Value) (ns:List Value),i<ns.length→(flV ps++ns).set (ps.length * 6+i) x=flV ps++ns.set i x:=fun i x ns hi=>by
  rw [List.set_append_right _ _ (by rw [flV_len];omega),flV_len]
  congr 2
  omega
 have e0:=hset 0 (.int .i64 t.k) [z0,z1,z2,z3,z4,z5] (by simp)
 have e1:=hset 1 (.string t.tx) [.int .i64 t.k,z1,z2,z3,z4,z5] (by simp)
 have e2:=hset 2 (.string t.un) [.int .i64 t.k,.string t.tx,z2,z3,z4,z5] (by simp)
 have e3:=hset 3 (.bool t.wh) [.int .i64 t.k,.string t.tx,.string t.un,z3,z4,z5] (by simp)
 have e4:=hset 4 (.bool t.fl) [.int .i64 t.k,.string t.tx,.string t.un,.bool t.wh,z4,z5] (by simp)
 have e5:=hset 5 kv [.int .i64 t.k,.string t.tx,.string t.un,.bool t.wh,.bool t.fl,z5] (by simp)
 simp only [Nat.add_zero,List.set_cons_zero,List.set_cons_succ] at e0 e1 e2 e3 e4 e5
 rw [e0,e1,e2,e3,e4,e5,← hw9] at r5
 have hne:=m.ne
 have hsame:∀ k,k≠g2→w9.heap[k]? = w8.heap[k]?:=fun k hk=>by
  rw [hw9,heap_ne hk,heap_ne hk,heap_ne hk,heap_ne hk,heap_ne hk,heap_ne hk]
 refine h.grow hk r5 (own_stay hout fun k _ _ e=>by cases e;exact hsame g hne) (fun k h1 h2 h3=>?_) (m.at_.imp (fun e=>e.symm) fun e=>⟨g2,rfl,e⟩) ?_
 ·rw [hsame k (by
   rintro rfl
   rcases m.at_ with e | e
   ·exact h2 e
   ·omega)]
  exact hst k h1 h2 (fun e=>h3 (by rw [e];rfl))
 ·rw [hw9]
  exact (((((hb.setCell (p:=⟨g2,_,none⟩) (by simpa using hge) _).setCell (p:=⟨g2,_,none⟩) (by simpa using hge) _).setCell (p:=⟨g2,_,none⟩) (by simpa using hge) _).setCell (p:=⟨g2,_,none⟩) (by simpa using hge) _).setCell (p:=⟨g2,_,none⟩) (by simpa using hge) _).setCell (p:=⟨g2,_,none⟩) (by simpa using hge) _
theorem Mid.cells {W w3 w7:World} {g g2 oc c2:Nat} {u:Value} {ys:List PV} {ps:List (T5×Value×List V)} {z0 z1 z2 z3 z4 z5:Value} (m:Mid W w3 w7 g g2 oc c2 u ys ps [z0,z1,z2,z3,z4,z5]) (w8:World) (hw8:w8=w7.setCell ⟨g,ys.length,none⟩ (.slice (some ⟨g2,0,none⟩) (ps.length+1) c2)) :
  (∀ i,w8.frozen? ⟨g2,i,none⟩=false)∧w8.cell? ⟨g2,ps.length * 6,none⟩=some z0∧w8.cell? ⟨g2,ps.length * 6+1,none⟩=some z1∧w8.cell? ⟨g2,ps.length * 6+2,none⟩=some z2∧w8.cell? ⟨g2,ps.length * 6+3,none⟩=some z3∧w8.cell? ⟨g2,ps.length * 6+4,none⟩=some z4∧w8.cell? ⟨g2,ps.length * 6+5,none⟩=some z5:=by
 have hrow:=m.row
 rw [← hw8] at hrow
 have hc:∀ i,i<6→w8.cell? ⟨g2,ps.length * 6+i,none⟩=[z0,z1,z2,z3,z4,z5][i]?:=fun i hi=>by
  rw [World.ownsRow.cellAt hrow _ (by omega),List.getElem?_append_right (by rw [flV_len];omega),flV_len]
  congr 1
  omega
 exact ⟨World.ownsRow.frozenAt hrow,hc 0 (by omega),hc 1 (by omega),hc 2 (by omega),hc 3 (by omega),hc 4 (by omega),hc 5 (by omega)⟩
theorem in43:∃ i z,Tryz.prog.info? 22=some i∧i.zero=some z∧i.size=1∧i.bytes=24∧z.cells.size=1:=⟨_,_,by rfl,by rfl,by rfl,by rfl,by rfl⟩
theorem in98:∃ i z,Tryz.prog.info? 34=some i∧i.zero=some z∧i.size=6∧i.bytes=72∧z.cells.size=6:=⟨_,_,by rfl,by rfl,by rfl,by rfl,by rfl⟩
theorem own_sl2 {W:World} {B:Nat} {T:TypeId} {s n:Nat} {v:Value} {xs:List Value} (h:W.ownsRow B T s v n xs):∃ a c,v=.slice a n c:=by
 rcases h.2 with ⟨rfl,rfl⟩ | ⟨g,cap,cur,rfl,_⟩
 ·exact ⟨_,_,rfl⟩
 ·exact ⟨_,_,rfl⟩
theorem news_1 {w:World} {x:Value} {T:TypeId}:∀ j u,[x][j]? = some u→(w.alloc (.cells #[x] T)).cell? (Addr.add ⟨w.heap.size,0,none⟩ j)=some u:=fun j u hu=>by
 rw [Addr.add_mid,Nat.zero_add,cellAt (heap_alloc_last w _) j]
 simpa using hu
theorem own_pos {W:World} {B:Nat} {T:TypeId} {s n:Nat} {v:Value} {xs:List Value} (h:W.ownsRow B T s v n xs) (h0:0<n):∃ g c,v=.slice (some ⟨g,0,none⟩) n c∧B≤g∧g<W.heap.size∧n≤c∧c≤9223372036854775807:=by
 rcases h.2 with ⟨_,rfl⟩ | ⟨g,cap,cur,rfl,hB,hg,hc,hm,_⟩
 ·omega
 ·exact ⟨g,cap,rfl,hB,(Array.getElem?_eq_some_iff.1 hg).1,hc,Nat.le_trans hm (by decide)⟩
theorem rsplit_any {P0:Nat→Prop} {W:World} {val:Value} {l:List V} (hv:VsAt P0 W val l) (hn:l.length≤100000):Calls Tryz.prog 14 #[val] W fun e w'=>Below W.heap.size W w'∧∃ g oc xs,e=.returned (.slice (some ⟨g,0,none⟩) (splt l).length oc)∧SpI W w' (.slice (some ⟨g,0,none⟩) (splt l).length oc) xs∧xs.map prV=splt l∧(splt l).length≤oc∧oc≤9223372036854775807:=by
 obtain ⟨i0,z0,hi,hz0,hz1,hz2,hz3⟩:=in43
 obtain ⟨j0,y0,hj,hy0,hy1,hy2,hy3⟩:=in98
 have HI:=hid_mk hi
 have HI0:=hid_mk hz0
 have HI1:=hid_mk hz1
 have HI2:=hid_mk hz2
 have HI3:=hid_mk hz3
 have HJ:=hid_mk hj
 have HJ0:=hid_mk hy0
 have HJ1:=hid_mk hy1
 have HJ2:=hid_mk hy2
 have HJ3:=hid_mk hy3
 clear hi hz0 hz1 hz2 hz3 hj hy0 hy1 hy2 hy3
 obtain ⟨a,cap,rfl,hc1,hc2⟩:=hv.slice
 have hcs:=hv.cells.2.2.2
 have HCS:Hid (∀ i (h:i<l.length),∃ b off ka kn kc,a=some ⟨b,off,none⟩∧b<W.heap.size∧(∀ j y,(vCells (l[i]'h).tok (.slice ka kn kc))[j]? = some y→W.cell? ⟨b,off+i * 6+j,none⟩=some y)∧VsAt (·<W.heap.size) W (.slice ka kn kc) (l[i]'h).kids):=fun i h=>by
  obtain ⟨b,off,kv,e,hbl,hcc,hk⟩:=hcs i h
  obtain ⟨ka,kc,rfl,_,_⟩:=hk.slice
  exact ⟨b,off,ka,_,kc,e,hbl,hcc,hk.wider fun b _ h=>h⟩
 have HS0:Hid (SpI W (W.alloc (.cells #[.slice none 0 0] 22)) (.slice (some ⟨W.heap.size,0,none⟩) 1 1) ([]++[(.slice none 0 0,[])])):=SpI.start W
 have HE0:Hid (spF (l.drop 0) (([]:List PV).map prV) (([]:List (T5×Value×List V)).map Y.mkV)=splt l):=spF_splt l
 obtain ⟨n,hnn⟩:∃ n,n=l.length:=⟨_,rfl⟩
 have HN:=hid_mk hnn
 rw [← hnn] at hn hc1 ⊢
 clear hv hcs hnn
 go_enter Tryz.func14,Tryz.ntmps14
 go_wp2
 go_loopw [3,9] (fun a3 a9 wr=>∃ (k:Nat) (ys:List PV) (u:Value) (ps:List (T5×Value×List V)) (g on oc:Nat),a3=.slice (some ⟨g,0,none⟩) on oc∧a9=.int .i64 (k:Int)∧k≤n∧on≤k+1∧Hid (on=ys.length+1)∧Hid (SpI W wr (.slice (some ⟨g,0,none⟩) on oc) (ys++[(u,ps)]))∧Hid (spF (l.drop k) (ys.map prV) (ps.map Y.mkV)=splt l)∧Hid (ps.length≤k)) (fun _ a9 _=>n+1 - (intOf a9).toNat)
 case atStart=>exact ⟨0,[],_,[],_,_,_,rfl,rfl,Nat.zero_le _,by omega,rfl,HS0,HE0,Nat.le_refl _⟩
 case round =>
  obtain ⟨k,ys,u,ps,g,on,oc,rfl,rfl,hk,hon,HON,HS,HE,HPL⟩:=hrel
  clear HS0 HE0
  by_cases hlt:k<n
  ·have hkl:k<l.length:=by have:=HN.out;omega
   obtain ⟨b,off,ka,kn,kc,rfl,hbl,hcc,hkid⟩:=HCS.out k hkl
   have hq:=fun j y hy=>(HS.out.bel.cell (p:=⟨b,off+k * 6+j,none⟩) hbl).trans (hcc j y hy)
   have HDR:Hid (l.drop k=l[k]::l.drop (k+1)):=List.drop_eq_getElem_cons hkl
   have HLK:Hid (l[k]=V.mk (l[k]'hkl).tok (l[k]'hkl).kids):=by cases l[k]'hkl;rfl
   have HKI:=hid_mk hkid
   generalize l[k]'hkl=x at *
   obtain ⟨⟨tk,tx,un,wh,fl⟩,kids⟩:=x
   have q0:wr.cell? ⟨b,off+k * 6,none⟩=some (.int .i64 tk):=hq 0 _ rfl
   have q1:wr.cell? ⟨b,off+k * 6+1,none⟩=some (.string tx):=hq 1 _ rfl
   have q2:wr.cell? ⟨b,off+k * 6+2,none⟩=some (.string un):=hq 2 _ rfl
   have q3:wr.cell? ⟨b,off+k * 6+3,none⟩=some (.bool wh):=hq 3 _ rfl
   have q4:wr.cell? ⟨b,off+k * 6+4,none⟩=some (.bool fl):=hq 4 _ rfl
   have q5:wr.cell? ⟨b,off+k * 6+5,none⟩=some (.slice ka kn kc):=hq 5 _ rfl
   obtain ⟨w1,hw1⟩:∃ w1,w1=wr.alloc (.cells #[.int .i64 tk,.string tx,.string un,.bool wh,.bool fl,.slice ka kn kc] 34):=⟨_,rfl⟩
   have hb1:Below wr.heap.size wr w1:=by rw [hw1];exact (Below.refl _ _).alloc (Nat.le_refl _) _
   have hx1:w1.heap[wr.heap.size]? = some (.cells #[.int .i64 tk,.string tx,.string un,.bool wh,.bool fl,.slice ka kn kc] 34 (0,0)):=by rw [hw1];exact heap_alloc_last wr _
   have his:=ris_any w1 ⟨tk,tx,un,wh,fl⟩ ka kn kc 18
   unfold vAg at his
   have m0:w1.cell? ⟨wr.heap.size,0,none⟩=some (.int .i64 tk):=cellAt hx1 0
   have m1:w1.cell? ⟨wr.heap.size,1,none⟩=some (.string tx):=cellAt hx1 1
   have m2:w1.cell? ⟨wr.heap.size,2,none⟩=some (.string un):=cellAt hx1 2
   have m3:w1.cell? ⟨wr.heap.size,3,none⟩=some (.bool wh):=cellAt hx1 3
   have m4:w1.cell? ⟨wr.heap.size,4,none⟩=some (.bool fl):=cellAt hx1 4
   have m5:w1.cell? ⟨wr.heap.size,5,none⟩=some (.slice ka kn kc):=cellAt hx1 5
   dsimp only at his
   have HW1:=hid_mk hw1
   have HB1:=hid_mk hb1
   have HX1:=hid_mk hx1
   clear hcc hkid hq hw1 hb1 hx1
   go_upto_region 5 with fail
   rw [← HW1.out]
   clear HW1 q0 q1 q2 q3 q4 q5
   go_wp2_with (go_at_call 29;fail)
   refine his.mono ?_
   rintro e w2 ⟨rfl,hb2⟩
   have HS2:=hid_mk ((HS.out.keep HB1.out).keep hb2)
   have HX2:Hid (w2.heap[wr.heap.size]? = some (.cells #[.int .i64 tk,.string tx,.string un,.bool wh,.bool fl,.slice ka kn kc] 34 (0,0))):=(hb2.block _ (Array.getElem?_eq_some_iff.1 HX1.out).1).trans HX1.out
   clear his hb2 m0 m1 m2 m3 m4 m5 HS HB1 HX1
   cases hcm:(tk == 18) with
   | true =>
     have HE2:Hid (spF (l.drop (k+1)) ((ys++[(u,ps)]).map prV) (([]:List (T5×Value×List V)).map Y.mkV)=splt l):=by
      have:=HE.out
      rw [HDR.out] at this
      unfold spF at this
      rw [if_pos (show cmB (V.mk ⟨tk,tx,un,wh,fl⟩ kids)=true from hcm)] at this
      rw [Hid,← this,List.map_append]
      rfl
     have HOW:Hid ((w2.alloc (.cells #[.slice none 0 0] 22)).ownsRow W.heap.size 22 1 (.slice (some ⟨g,0,none⟩) on oc) on ((ys++[(u,ps)]).map (·.1))):=by
      have:=HS2.out.own.alloc (.cells #[.slice none 0 0] 22)
      rw [List.length_append] at this
      rw [Hid,HON.out]
      rw [HON.out] at this
      exact this
     have HNW:Hid (∀ v2 w3,w3.ownsRow W.heap.size 22 1 v2 (on+1) ((ys++[(u,ps)]).map (·.1)++[.slice none 0 0])→(w2.alloc (.cells #[.slice none 0 0] 22)).grownBy w3 (Value.slice (some ⟨g,0,none⟩) on oc).ownBlock→SpI W w3 v2 ((ys++[(u,ps)])++[(.slice none 0 0,[])])):=fun v2 w3 h1 h2=>HS2.out.new (by rw [List.length_append,List.length_singleton,← HON.out];exact h1) h2
     have HSZ:Hid (W.heap.size≤(w2.alloc (.cells #[.slice none 0 0] 22)).heap.size):=by
      have:=HS2.out.bel.size
      rw [Hid,World.size_alloc]
      omega
     have HNE:=hid_mk (news_1 (w:=w2) (x:=.slice none 0 0) (T:=22))
     generalize (ys++[(u,ps)]).map (·.1)=OL at HOW HNW
     clear HS2 HX2 HDR HLK HKI HE
     go_wp2_with (at_builtin;with_reducible refine wpList_append_own_at _ rfl _ _ 52 rfl W.heap.size 22 i0 z0 1 24 Tryz.underlying52 HI.out HI0.out HI1.out HI2.out HI3.out (by decide) (.slice (some ⟨g,0,none⟩) on oc) on OL rfl HOW.out ⟨w2.heap.size,0,none⟩ 1 1 [.slice none 0 0] rfl rfl HNE.out ?c0 ?c1 ?c2 ?c3 ?_)
     case c0=>simp [Value.oneCell']
     case c1=>unfold maxLen;omega
     case c2=>omega
     case c3=>exact HSZ.out
     intro v3 w3 ho3 hg3 _ _
     have HS3:=hid_mk (HNW.out v3 w3 ho3 hg3)
     obtain ⟨g3,c3,rfl,_⟩:=own_pos ho3 (by omega)
     clear HNW HNE HSZ HOW ho3 hg3
     go_wp2
     refine ⟨⟨k+1,ys++[(u,ps)],_,[],g3,on+1,c3,rfl,by simp,by omega,by omega,?_,HS3,HE2,Nat.zero_le _⟩,?_⟩
     ·rw [Hid,HON.out]
      simp
     ·simp only [intOf]
      omega
   | false =>
     go_upto_region 7 with fail
     go_cut [19] (fun a19 wx=>∃ bb,a19=.bool bb∧Hid (Below w2.heap.size w2 wx))
     case first =>
      go_region
      all_goals go_wp2
      all_goals go_meet
      all_goals exact ⟨_,rfl,hid_mk ((Below.refl _ w2).alloc (Nat.le_refl _) _).drew⟩
     case rest =>
      obtain ⟨bb,rfl,HB3⟩:=hcut
      have HS3:=hid_mk (HS2.out.keep HB3.out)
      have HX3:Hid (wc.heap[wr.heap.size]? = some (.cells #[.int .i64 tk,.string tx,.string un,.bool wh,.bool fl,.slice ka kn kc] 34 (0,0))):=(HB3.out.block _ (Array.getElem?_eq_some_iff.1 HX2.out).1).trans HX2.out
      obtain ⟨ua,uc,hue⟩:∃ a c,u=.slice a ps.length c:=own_sl2 (HS3.out.rows (u,ps) (by simp))
      subst hue
      have he:=HON.out
      subst he
      have HGL:Hid (g<wc.heap.size):=(own_blk HS3.out.own g rfl).2
      have HC0:Hid (wc.cell? ⟨g,ys.length,none⟩=some (.slice ua ps.length uc)):=by
       have hown:=HS3.out.own
       rw [List.length_append,List.length_singleton] at hown
       rw [Hid,World.ownsRow.cellAt hown ys.length (by omega),List.map_append,List.getElem?_append_right (by simp)]
       simp
      have c0:=HC0.out
      have d0:wc.cell? ⟨wr.heap.size,0,none⟩=some (.int .i64 tk):=cellAt HX3.out 0
      have d1:wc.cell? ⟨wr.heap.size,1,none⟩=some (.string tx):=cellAt HX3.out 1
      have d2:wc.cell? ⟨wr.heap.size,2,none⟩=some (.string un):=cellAt HX3.out 2
      have d3:wc.cell? ⟨wr.heap.size,3,none⟩=some (.bool wh):=cellAt HX3.out 3
      have d4:wc.cell? ⟨wr.heap.size,4,none⟩=some (.bool fl):=cellAt HX3.out 4
      have d5:wc.cell? ⟨wr.heap.size,5,none⟩=some (.slice ka kn kc):=cellAt HX3.out 5
      have HE2:Hid (spF (l.drop (k+1)) (ys.map prV) ((ps++[((⟨tk,tx,un,wh,fl⟩:T5),(Value.slice ka kn kc),kids)]).map Y.mkV)=splt l):=by
       have:=HE.out
       rw [HDR.out] at this
       unfold spF at this
       rw [if_neg (show ¬ cmB (V.mk ⟨tk,tx,un,wh,fl⟩ kids)=true by rw [show cmB (V.mk ⟨tk,tx,un,wh,fl⟩ kids)=(tk == 18) from rfl,hcm];simp)] at this
       rw [Hid,← this,List.map_append]
       rfl
      have hocn:ys.length+1≤oc∧oc≤9223372036854775807:=by
       obtain ⟨g',c',e',_,_,hc',hm'⟩:=own_pos HS3.out.own (by simp)
       injection e' with _ e2 e3
       simp only [List.length_append,List.length_singleton] at hc'
       omega
      have hpl:ps.length≤100000:=by have:=HPL.out;omega
      have hyl:ys.length≤100000:=by omega
      have hwr:IntKind.i64.wrap (ys.length:Int)=(ys.length:Int):=by rw [IntKind.wrap_i64] <;> omega
      have hix0:(0:Int)≤(ys.length:Int):=by omega
      have hix1:(ys.length:Int)<(ys.length:Int)+1:=by omega
      clear HS2 HX2 HB3 HE
      cases bb with
      | false =>
        have HOW:Hid ((wc.alloc (.cells #[.int .i64 tk,.string tx,.string un,.bool wh,.bool fl,.slice ka kn kc] 34)).drew.ownsRow W.heap.size 34 6 (.slice ua (ps.length) uc) ps.length (flV ps)):=(HS3.out.rows (.slice ua ps.length uc,ps) (by simp)).alloc _
        have HMID:Hid (∀ g7 c7 w7,w7.ownsRow W.heap.size 34 6 (.slice (some ⟨g7,0,none⟩) (ps.length+1) c7) (ps.length+1) (flV ps++[.int .i64 tk,.string tx,.string un,.bool wh,.bool fl,.slice ka kn kc])→(wc.alloc (.cells #[.int .i64 tk,.string tx,.string un,.bool wh,.bool fl,.slice ka kn kc] 34)).drew.grownBy w7 (Value.slice ua ps.length uc).ownBlock→((Value.slice ua ps.length uc).ownBlock=some g7∨g7=wc.heap.size+1)→Mid W wc w7 g g7 oc c7 (.slice ua ps.length uc) ys ps [.int .i64 tk,.string tx,.string un,.bool wh,.bool fl,.slice ka kn kc]):=fun g7 c7 w7 h1 h2 h3=>HS3.out.mid h1 h2 h3
        have HNEW:Hid (∀ j x,[.int .i64 tk,.string tx,.string un,.bool wh,.bool fl,.slice ka kn kc][j]? = some x→(wc.alloc (.cells #[.int .i64 tk,.string tx,.string un,.bool wh,.bool fl,.slice ka kn kc] 34)).drew.cell? (Addr.add ⟨wc.heap.size,0,none⟩ j)=some x):=fun j x hx=>by
         rw [Addr.add_mid,Nat.zero_add]
         show (wc.alloc _).cell? _=_
         rw [cellAt (heap_alloc_last wc _) j]
         simpa using hx
        have HONE:Hid (∀ x∈([.int .i64 tk,.string tx,.string un,.bool wh,.bool fl,.slice ka kn kc]:List Value),x.oneCell'=true):=by
         intro x hx
         simp only [List.mem_cons,List.not_mem_nil,or_false] at hx
         rcases hx with rfl | rfl | rfl | rfl | rfl | rfl <;> rfl
        have HSZ:Hid (W.heap.size≤(wc.alloc (.cells #[.int .i64 tk,.string tx,.string un,.bool wh,.bool fl,.slice ka kn kc] 34)).drew.heap.size):=by
         have:=HS3.out.bel.size
         show _≤(wc.alloc _).heap.size
         rw [World.size_alloc]
         omega
        have HH:Hid ((wc.alloc (.cells #[.int .i64 tk,.string tx,.string un,.bool wh,.bool fl,.slice ka kn kc] 34)).drew.heap.size=wc.heap.size+1):=by
         show (wc.alloc _).heap.size=_
         rw [World.size_alloc]
        have n0:(wc.alloc (.cells #[.int .i64 tk,.string tx,.string un,.bool wh,.bool fl,.slice ka kn kc] 34)).drew.cell? ⟨g,ys.length,none⟩=some (.slice ua ps.length uc):=(((Below.refl wc.heap.size wc).alloc (Nat.le_refl _) (.cells #[.int .i64 tk,.string tx,.string un,.bool wh,.bool fl,.slice ka kn kc] 34)).cell (p:=⟨g,ys.length,none⟩) HGL.out).trans HC0.out
        have nb:∀ j,j<6→(wc.alloc (.cells #[.int .i64 tk,.string tx,.string un,.bool wh,.bool fl,.slice ka kn kc] 34)).drew.cell? ⟨wr.heap.size,j,none⟩=[.int .i64 tk,.string tx,.string un,.bool wh,.bool fl,.slice ka kn kc][j]?:=fun j hj=>(((Below.refl wc.heap.size wc).alloc (Nat.le_refl _) (.cells #[.int .i64 tk,.string tx,.string un,.bool wh,.bool fl,.slice ka kn kc] 34)).cell (p:=⟨wr.heap.size,j,none⟩) (Array.getElem?_eq_some_iff.1 HX3.out).1).trans ((cellAt HX3.out j).trans (by simp))
        have b0:=nb 0 (by omega)
        have b1:=nb 1 (by omega)
        have b2:=nb 2 (by omega)
        have b3:=nb 3 (by omega)
        have b4:=nb 4 (by omega)
        have b5:=nb 5 (by omega)
        simp only [List.getElem?_cons_zero,List.getElem?_cons_succ] at b0 b1 b2 b3 b4 b5
        clear nb
        have HYES:Hid (∀ g7 c7 w7,Mid W wc w7 g g7 oc c7 (.slice ua ps.length uc) ys ps [.int .i64 tk,.string tx,.string un,.bool wh,.bool fl,.slice ka kn kc]→SpI W (w7.setCell ⟨g,ys.length,none⟩ (.slice (some ⟨g7,0,none⟩) (ps.length+1) c7)) (.slice (some ⟨g,0,none⟩) (ys.length+1) oc) (ys++[(.slice (some ⟨g7,0,none⟩) (ps.length+1) c7,ps++[(⟨tk,tx,un,wh,fl⟩,.slice ka kn kc,kids)])])):=fun g7 c7 w7 h7=>Mid.yes (t:=⟨tk,tx,un,wh,fl⟩) HS3.out HKI.out h7
        go_upto_region 10 with fail
        go_region_law (first
         | (refine step_append_lies _ (by rfl) _ _ 22 (by rfl) W.heap.size 34 j0 y0 6 72 Tryz.underlying22 HJ.out HJ0.out HJ1.out HJ2.out HJ3.out (by decide) (.slice ua ps.length uc) ps.length (flV ps) (by rfl) HOW.out ⟨wc.heap.size,0,none⟩ 1 1 [.int .i64 tk,.string tx,.string un,.bool wh,.bool fl,.slice ka kn kc] (by rfl) (by rfl) HNEW.out HONE.out (by omega) (by unfold maxLen;omega) (by omega) HSZ.out (wc.heap.size+1) HH.out ?_;intro g7 c7 w7 ho7 hg7 hat7 _;have HM7:=hid_mk (HMID.out g7 c7 w7 ho7 hg7 hat7);have r7:=HM7.out.cell;have f7:=HM7.out.froz;clear ho7 hg7 hat7))
        all_goals
         have HS8:=hid_mk (HYES.out _ _ _ HM7.out)
         go_wp2
         refine ⟨⟨k+1,ys,_,_,g,_,oc,rfl,by simp,by omega,by omega,rfl,HS8,HE2,?_⟩,?_⟩
         ·have:=HPL.out
          rw [Hid,List.length_append]
          simpa using this
         ·simp only [intOf]
          omega
      | true =>
        have HOW:Hid ((wc.alloc (.cells #[.int .i64 0,.string ⟨#[]⟩,.string ⟨#[]⟩,.bool false,.bool false,.slice none 0 0] 34)).drew.ownsRow W.heap.size 34 6 (.slice ua (ps.length) uc) ps.length (flV ps)):=(HS3.out.rows (.slice ua ps.length uc,ps) (by simp)).alloc _
        have HMID:Hid (∀ g7 c7 w7,w7.ownsRow W.heap.size 34 6 (.slice (some ⟨g7,0,none⟩) (ps.length+1) c7) (ps.length+1) (flV ps++[.int .i64 0,.string ⟨#[]⟩,.string ⟨#[]⟩,.bool false,.bool false,.slice none 0 0])→(wc.alloc (.cells #[.int .i64 0,.string ⟨#[]⟩,.string ⟨#[]⟩,.bool false,.bool false,.slice none 0 0] 34)).drew.grownBy w7 (Value.slice ua ps.length uc).ownBlock→((Value.slice ua ps.length uc).ownBlock=some g7∨g7=wc.heap.size+1)→Mid W wc w7 g g7 oc c7 (.slice ua ps.length uc) ys ps [.int .i64 0,.string ⟨#[]⟩,.string ⟨#[]⟩,.bool false,.bool false,.slice none 0 0]):=fun g7 c7 w7 h1 h2 h3=>HS3.out.mid h1 h2 h3
        have HNEW:Hid (∀ j x,[.int .i64 0,.string ⟨#[]⟩,.string ⟨#[]⟩,.bool false,.bool false,.slice none 0 0][j]? = some x→(wc.alloc (.cells #[.int .i64 0,.string ⟨#[]⟩,.string ⟨#[]⟩,.bool false,.bool false,.slice none 0 0] 34)).drew.cell? (Addr.add ⟨wc.heap.size,0,none⟩ j)=some x):=fun j x hx=>by
         rw [Addr.add_mid,Nat.zero_add]
         show (wc.alloc _).cell? _=_
         rw [cellAt (heap_alloc_last wc _) j]
         simpa using hx
        have HONE:Hid (∀ x∈([.int .i64 0,.string ⟨#[]⟩,.string ⟨#[]⟩,.bool false,.bool false,.slice none 0 0]:List Value),x.oneCell'=true):=by
         intro x hx
         simp only [List.mem_cons,List.not_mem_nil,or_false] at hx
         rcases hx with rfl | rfl | rfl | rfl | rfl | rfl <;> rfl
        have HSZ:Hid (W.heap.size≤(wc.alloc (.cells #[.int .i64 0,.string ⟨#[]⟩,.string ⟨#[]⟩,.bool false,.bool false,.slice none 0 0] 34)).drew.heap.size):=by
         have:=HS3.out.bel.size
         show _≤(wc.alloc _).heap.size
         rw [World.size_alloc]
         omega
        have HH:Hid ((wc.alloc (.cells #[.int .i64 0,.string ⟨#[]⟩,.string ⟨#[]⟩,.bool false,.bool false,.slice none 0 0] 34)).drew.heap.size=wc.heap.size+1):=by
         show (wc.alloc _).heap.size=_
         rw [World.size_alloc]
        have n0:(wc.alloc (.cells #[.int .i64 0,.string ⟨#[]⟩,.string ⟨#[]⟩,.bool false,.bool false,.slice none 0 0] 34)).drew.cell? ⟨g,ys.length,none⟩=some (.slice ua ps.length uc):=(((Below.refl wc.heap.size wc).alloc (Nat.le_refl _) (.cells #[.int .i64 0,.string ⟨#[]⟩,.string ⟨#[]⟩,.bool false,.bool false,.slice none 0 0] 34)).cell (p:=⟨g,ys.length,none⟩) HGL.out).trans HC0.out
        have nb:∀ j,j<6→(wc.alloc (.cells #[.int .i64 0,.string ⟨#[]⟩,.string ⟨#[]⟩,.bool false,.bool false,.slice none 0 0] 34)).drew.cell? ⟨wr.heap.size,j,none⟩=[.int .i64 tk,.string tx,.string un,.bool wh,.bool fl,.slice ka kn kc][j]?:=fun j hj=>(((Below.refl wc.heap.size wc).alloc (Nat.le_refl _) (.cells #[.int .i64 0,.string ⟨#[]⟩,.string ⟨#[]⟩,.bool false,.bool false,.slice none 0 0] 34)).cell (p:=⟨wr.heap.size,j,none⟩) (Array.getElem?_eq_some_iff.1 HX3.out).1).trans ((cellAt HX3.out j).trans (by simp))
        have b0:=nb 0 (by omega)
        have b1:=nb 1 (by omega)
        have b2:=nb 2 (by omega)
        have b3:=nb 3 (by omega)
        have b4:=nb 4 (by omega)
        have b5:=nb 5 (by omega)
        simp only [List.getElem?_cons_zero,List.getElem?_cons_succ] at b0 b1 b2 b3 b4 b5
        clear nb
        have HLAT:Hid (∀ g7 c7 w7,Mid W wc w7 g g7 oc c7 (.slice ua ps.length uc) ys ps [.int .i64 0,.string ⟨#[]⟩,.string ⟨#[]⟩,.bool false,.bool false,.slice none 0 0]→∀ w8 w9,w8=w7.setCell ⟨g,ys.length,none⟩ (.slice (some ⟨g7,0,none⟩) (ps.length+1) c7)→w9=(((((w8.setCell ⟨g7,ps.length * 6,none⟩ (.int .i64 tk)).setCell ⟨g7,ps.length * 6+1,none⟩ (.string tx)).setCell ⟨g7,ps.length * 6+2,none⟩ (.string un)).setCell ⟨g7,ps.length * 6+3,none⟩ (.bool wh)).setCell ⟨g7,ps.length * 6+4,none⟩ (.bool fl)).setCell ⟨g7,ps.length * 6+5,none⟩ (.slice ka kn kc)→SpI W w9 (.slice (some ⟨g,0,none⟩) (ys.length+1) oc) (ys++[(.slice (some ⟨g7,0,none⟩) (ps.length+1) c7,ps++[(⟨tk,tx,un,wh,fl⟩,.slice ka kn kc,kids)])])):=fun g7 c7 w7 h7 w8 w9 e8 e9=>Mid.later (t:=⟨tk,tx,un,wh,fl⟩) HS3.out HKI.out h7 w8 w9 e8 e9
        have hpi0:(0:Int)≤(ps.length:Int):=by omega
        have hpi1:(ps.length:Int)<(ps.length:Int)+1:=by omega
        go_upto_region 8 with fail
        go_region_law (first
         | (refine step_append_lies _ (by rfl) _ _ 22 (by rfl) W.heap.size 34 j0 y0 6 72 Tryz.underlying22 HJ.out HJ0.out HJ1.out HJ2.out HJ3.out (by decide) (.slice ua ps.length uc) ps.length (flV ps) (by rfl) HOW.out ⟨wc.heap.size,0,none⟩ 1 1 [.int .i64 0,.string ⟨#[]⟩,.string ⟨#[]⟩,.bool false,.bool false,.slice none 0 0] (by rfl) (by rfl) HNEW.out HONE.out (by omega) (by unfold maxLen;omega) (by omega) HSZ.out (wc.heap.size+1) HH.out ?_;intro g7 c7 w7 ho7 hg7 hat7 _;have HM7:=hid_mk (HMID.out g7 c7 w7 ho7 hg7 hat7);have r7:=HM7.out.cell;have f7:=HM7.out.froz;clear ho7 hg7 hat7))
        all_goals
         obtain ⟨w8,hw8⟩:∃ w8,w8=w7.setCell ⟨g,ys.length,none⟩ (.slice (some ⟨g7,0,none⟩) (ps.length+1) c7):=⟨_,rfl⟩
         obtain ⟨fz,z0',z1',z2',z3',z4',z5'⟩:=HM7.out.cells w8 hw8
         have fz0:=fz (ps.length * 6)
         have fz1:=fz (ps.length * 6+1)
         have fz2:=fz (ps.length * 6+2)
         have fz3:=fz (ps.length * 6+3)
         have fz4:=fz (ps.length * 6+4)
         have fz5:=fz (ps.length * 6+5)
         have HW8:=hid_mk hw8
         clear fz hw8
         go_upto_region 9 with fail
         rw [← HW8.out]
         go_wp2
         have HS9:=hid_mk (HLAT.out _ _ _ HM7.out w8 _ HW8.out rfl)
         refine ⟨⟨k+1,ys,_,_,g,_,oc,rfl,by simp,by omega,by omega,rfl,HS9,HE2,?_⟩,?_⟩
         ·have:=HPL.out
          rw [Hid,List.length_append]
          simpa using this
         ·simp only [intOf]
          omega
  ·obtain rfl:k=n:=by omega
   have HSP:Hid ((ys++[(u,ps)]).map prV=splt l):=by
    have:=HE.out
    rw [List.drop_of_length_le (by have:=HN.out;omega)] at this
    rw [Hid,← this,List.map_append]
    rfl
   have HLE:Hid (on=(splt l).length):=by
    rw [Hid,HON.out,← HSP.out]
    simp
   obtain ⟨g',c',e',_,_,hc',hm'⟩:=own_pos HS.out.own (by simp)
   injection e' with _ e2 e3
   have hoc:on≤oc∧oc≤9223372036854775807:=by
    have h1:=HON.out
    simp only [List.length_append,List.length_singleton] at hc' e2
    omega
   have HOC:=hid_mk hoc
   clear e2 e3 hc' hm' hoc HE HPL HCS
   go_wp2
   go_ret
   rw [← HLE.out]
   exact ⟨HS.out.bel,g,oc,_,rfl,HS.out,by rw [HSP.out],HOC.out.1,HOC.out.2⟩
def toCx:Option CK→Option Cx
 | none=>none
 | some x=>some (.mk x.1 x.2)
def fX (p:List V):Option Cx:=toCx (cxK (p.length+1) (trm p))
theorem allO_two {α β γ:Type} (g:α→Option β) (h:β→Option γ):∀ xs:List α,allO (fun a=>match g a with | none=>none | some b=>h b) xs=match allO g xs with | none=>none | some l=>allO h l
 | []=>rfl
 | a::r=>by
   have ih:=allO_two g h r
   rw [allO_cons,allO_cons,ih]
   cases g a with
   | none=>rfl
   | some b =>
     simp only []
     cases hr:allO g r with
     | none =>
       simp only []
       cases h b <;> rfl
     | some l =>
       simp only []
       rw [allO_cons]
theorem toCx_rd (o:Option Cv):toCx (rdC o)=match o with | none=>none | some c=>fC parseZ c:=by
 cases o with
 | none=>rfl
 | some c =>
   simp only [rdC,fC]
   cases allO (allO (fS parseZ)) c.1 <;> rfl
theorem parse_fX (l:List V):parseZ l=allO fX (splt l):=by
 rw [parseZ_step,ls_main _ l (Nat.le_refl _)]
 have e:∀ p,fX p=match cxP p with | none=>none | some c=>fC parseZ c:=by
  intro p
  show toCx (cxK (p.length+1) (trm p))=_
  rw [cxK_rd,toCx_rd]
  rfl
 refine (Eq.trans ?_ (allO_two cxP (fC parseZ) (splt l)).symm).trans (congrArg (fun F=>allO F (splt l)) (funext fun p=>?_))
 ·cases allO cxP (splt l) <;> rfl
 ·rw [e]
  cases cxP p <;> rfl
def preO (acc:List Cx):Option (List Cx)→Option (List Cx)
 | none=>none
 | some r=>some (acc++r)
theorem preO_nil (o:Option (List Cx)):preO [] o=o:=by cases o <;> rfl
theorem preO_step (acc:List Cx) (p:List V) (r:List (List V)):preO acc (allO fX (p::r))=match fX p with | none=>none | some c=>preO (acc++[c]) (allO fX r):=by
 rw [allO_cons]
 cases fX p with
 | none=>rfl
 | some c =>
   simp only []
   cases allO fX r with
   | none=>rfl
   | some l=>simp [preO]
abbrev CY:=Value×Value×Cx
def rowX (cs:List CY):List Value:=cs.flatMap fun x=>[x.1,x.2.1]
theorem rowX_len:∀ cs:List CY,(rowX cs).length=cs.length * 2
 | []=>rfl
 | x::r=>by
   have:=rowX_len r
   unfold rowX at this ⊢
   rw [List.flatMap_cons,List.length_append,this]
   simp only [List.length_cons,List.length_nil]
   omega
theorem rowX_at:∀ {cs:List CY} {i:Nat} (h:i<cs.length),(rowX cs)[i * 2]? = some (cs[i]'h).1∧(rowX cs)[i * 2+1]? = some (cs[i]'h).2.1
 | x::r,0,_=>⟨rfl,rfl⟩
 | x::r,i+1,h=>by
   have:=rowX_at (cs:=r) (i:=i) (by simpa using h)
   unfold rowX at this ⊢
   rw [List.flatMap_cons,List.getElem?_append_right (by show 2≤_;omega),List.getElem?_append_right (by show 2≤_;omega)]
   have e1:(i+1) * 2 - [x.1,x.2.1].length=i * 2:=by show _ - 2=_;omega
   have e2:(i+1) * 2+1 - [x.1,x.2.1].length=i * 2+1:=by show _ - 2=_;omega
   rw [e1,e2]
   exact this
structure PaI (B:Nat) (w:World) (ov:Value) (cs:List CY):Prop where
 own:w.ownsRow B 44 2 ov cs.length (rowX cs)
 ls:∀ x∈cs,∃ lo hi,B≤lo∧hi≤w.heap.size∧Rob lo hi w (fun w2=>CxS w2 x.1 x.2.1 x.2.2)∧∀ g,ov.ownBlock=some g→g<lo∨hi≤g
theorem PaI.nil (B:Nat) (w:World):PaI B w (.slice none 0 0) []:=⟨World.ownsRow_nil _ _ _ _,fun x hx=>absurd hx (by simp)⟩
theorem PaI.keep {B:Nat} {w w':World} {ov:Value} {cs:List CY} (h:PaI B w ov cs) (hb:Below w.heap.size w w'):PaI B w' ov cs:=by
 refine ⟨own_keep h.own hb,fun x hx=>?_⟩
 obtain ⟨lo,hi,h2,h3,h4,h5⟩:=h.ls x hx
 exact ⟨lo,hi,h2,Nat.le_trans h3 hb.size,h4.to fun k _ hk=>hb.block k (by omega),h5⟩
theorem PaI.add {B:Nat} {w0 w wx w2:World} {ov ov2 pv cv:Value} {c:Cx} {cs:List CY} (h:PaI B w0 ov cs) (hb:Below w0.heap.size w0 w) (hB:B≤w0.heap.size) (hr:Rob w0.heap.size w.heap.size w fun w2=>CxS w2 pv cv c) (hx:Below w.heap.size w wx)
  (ho:w2.ownsRow B 44 2 ov2 (cs.length+1) (rowX cs++[pv,cv])) (hg:wx.grownBy w2 ov.ownBlock) (hat:ov2.ownBlock=ov.ownBlock∨ov2.ownBlock=some wx.heap.size):PaI B w2 ov2 (cs++[(pv,cv,c)]):=by
 have hk:=(h.keep hb).keep hx
 have hbw:=hb.size
 have hxw:=hx.size
 have hgs:=hg.size
 refine ⟨?_,fun x hm=>?_⟩
 ·have:rowX (cs++[(pv,cv,c)])=rowX cs++[pv,cv]:=by simp [rowX]
  rw [List.length_append,this]
  exact ho
 ·rcases List.mem_append.1 hm with hm | hm
  ·obtain ⟨lo,hi,h2,h3,h4,h5⟩:=hk.ls x hm
   refine ⟨lo,hi,h2,by omega,h4.to fun k hk1 hk2=>hg.block k (by omega) (fun e=>?_),fun g e=>?_⟩
   ·have:=h5 k e.symm
    omega
   ·rcases hat with e2 | e2
    ·exact h5 g (e2.symm.trans e)
    ·rw [e2] at e
     cases e
     exact .inr h3
  ·rw [List.mem_singleton.1 hm]
   refine ⟨w0.heap.size,w.heap.size,hB,by omega,hr.to fun k hk1 hk2=>?_,fun g e=>?_⟩
   ·rw [hg.block k (by omega) (fun e=>?_)]
    ·exact hx.block k hk2
    ·have:=(own_blk h.own k e.symm).2
     omega
   ·rcases hat with e2 | e2
    ·exact .inl (own_blk h.own g (e2.symm.trans e)).2
    ·rw [e2] at e
     cases e
     exact .inr (by omega)
theorem PaI.rob {B:Nat} {w:World} {ov:Value} {cs:List CY} (h:PaI B w ov cs):Rob B w.heap.size w fun w2=>ClAt w2 ov (cs.map (·.2.2)):=fun w2 ha=>by
 have hall:∀ i,∃ f:(Nat×Nat×Nat×Nat)×((Nat→Value)×(Nat→Nat)×(Nat→Nat)×(Nat→Nat→Value)),∀ (hi:i<cs.length),CxAt (ClAt w2) w2 (cs[i]'hi).1 (cs[i]'hi).2.1 (cs[i]'hi).2.2 f.1.1 f.1.2.1 f.1.2.2.1 f.1.2.2.2 f.2.1 f.2.2.1 f.2.2.2.1 f.2.2.2.2:=fun i=>by
  by_cases hi:i<cs.length
  ·obtain ⟨lo,hi',g1,g2,g3,_⟩:=h.ls _ (List.getElem_mem hi)
   obtain ⟨bc,oc,bp,op,qv,bq,oq,lv,hc⟩:=g3 w2 fun k hk1 hk2=>ha k (by omega) (by omega)
   exact ⟨((bc,oc,bp,op),(qv,bq,oq,lv)),fun _=>hc⟩
  ·exact ⟨((0,0,0,0),(fun _=>.slice none 0 0,fun _=>0,fun _=>0,fun _ _=>.slice none 0 0)),fun h'=>absurd h' hi⟩
 obtain ⟨f,hf⟩:=Classical.axiomOfChoice hall
 have hl:(cs.map (·.2.2)).length=cs.length:=List.length_map ..
 have hat:∀ i (hi:i<cs.length) (hi':i<(cs.map (·.2.2)).length),(cs.map (·.2.2))[i]'hi'=(cs[i]'hi).2.2:=fun i hi hi'=>List.getElem_map ..
 have hrow:Sl w2 ov cs.length (blkV ov) 0∧∀ j u,(rowX cs)[j]? = some u→w2.cell? ⟨blkV ov,0+j,none⟩=some u:=by
  have hl:=h.own.1
  rcases h.own.2 with ⟨e,hn⟩ | ⟨g,cap,cur,e,hB,hg,hc,hm,hs,ht⟩
  ·rw [e,hn]
   refine ⟨⟨none,0,rfl,Nat.le_refl _,by decide,fun h=>absurd h (by simp)⟩,fun j u hu=>?_⟩
   have:=(List.getElem?_eq_some_iff.1 hu).1
   omega
  ·have hgl:=(Array.getElem?_eq_some_iff.1 hg).1
   have hg2:=(ha g hB hgl).trans hg
   rw [e]
   refine ⟨⟨_,cap,rfl,hc,Nat.le_trans hm (by decide),fun _=>⟨rfl,(Array.getElem?_eq_some_iff.1 hg2).1⟩⟩,fun j u hu=>?_⟩
   show w2.cell? ⟨g,0+j,none⟩=some u
   have hj:=(List.getElem?_eq_some_iff.1 hu).1
   rw [cellAt hg2,Nat.zero_add,← Array.getElem?_toList]
   rw [← ht] at hu
   rwa [List.getElem?_take_of_lt (by omega)] at hu
 have hpv:∀ i (hi:i<cs.length),(match cs[i]? with | some x=>x.1 | none=>.slice none 0 0)=(cs[i]'hi).1:=fun i hi=>by rw [List.getElem?_eq_getElem hi]
 have hcv:∀ i (hi:i<cs.length),(match cs[i]? with | some x=>x.2.1 | none=>.slice none 0 0)=(cs[i]'hi).2.1:=fun i hi=>by rw [List.getElem?_eq_getElem hi]
 have hlt:∀ i,i<(cs.map (·.2.2)).length→i<cs.length:=fun i hi=>by rwa [hl] at hi
 refine .mk ov (cs.map (·.2.2)) (blkV ov) 0 (fun i=>match cs[i]? with | some x=>x.1 | none=>.slice none 0 0) (fun i=>match cs[i]? with | some x=>x.2.1 | none=>.slice none 0 0) (fun i=>(f i).1.1) (fun i=>(f i).1.2.1) (fun i=>(f i).1.2.2.1) (fun i=>(f i).1.2.2.2) (fun i=>(f i).2.1) (fun i=>(f i).2.2.1) (fun i=>(f i).2.2.2.1) (fun i=>(f i).2.2.2.2) (by rw [hl];exact hrow.1) (fun i hi=>?_) (fun i hi=>?_) (fun i hi=>?_) (fun i hi=>?_) (fun i hi=>?_) (fun i hi=>?_) (fun i hi=>?_) (fun i hi=>?_)
 ·have hi':=hlt i hi
  simp only [hpv i hi',hcv i hi']
  have:=rowX_at hi'
  exact ⟨hrow.2 _ _ this.1,hrow.2 _ _ this.2⟩
 all_goals
  have hi':=hlt i hi
  have hc:=hf i hi'
  rw [← hat i hi' hi] at hc
 ·simp only [hcv i hi']
  exact hc.cs
 ·exact hc.cc
 ·simp only [hpv i hi']
  exact hc.ps
 ·exact hc.pc
 ·exact hc.qs
 ·exact hc.qc
 ·exact hc.ls
theorem in37:∃ i z,Tryz.prog.info? 44=some i∧i.zero=some z∧i.size=2∧i.bytes=48∧z.cells.size=2:=⟨_,_,by rfl,by rfl,by rfl,by rfl,by rfl⟩
theorem news_2 {w:World} {x y:Value} {T:TypeId}:∀ j u,[x,y][j]? = some u→(w.alloc (.cells #[x,y] T)).cell? (Addr.add ⟨w.heap.size,0,none⟩ j)=some u:=fun j u hu=>by
 rw [Addr.add_mid,Nat.zero_add,cellAt (heap_alloc_last w _) j]
 simpa using hu
theorem rp_meas (j sn:Nat) (h:j<sn):sn+1 - (intOf (Value.int IntKind.i64 ((j:Int)+1))).toNat<sn+1 - (intOf (Value.int IntKind.i64 (j:Int))).toNat:=by
 simp only [intOf]
 omega
theorem splt_len:∀ l:List V,(splt l).length≤l.length+1
 | []=>by simp [splt]
 | v::r=>by
   have:=splt_len r
   unfold splt
   split
   ·simp;omega
   ·cases h:splt r with
    | nil=>simp
    | cons p ps=>rw [h] at this;simp at this ⊢;omega
theorem splt_mem:∀ l:List V,∀ p∈splt l,p.length≤l.length∧∀ u∈p,u∈l
 | [],p,hp=>by
   have:p=[]:=by simpa [splt] using hp
   subst this
   simp
 | v::r,p,hp=>by
   have ih:=splt_mem r
   unfold splt at hp
   split at hp
   ·rcases List.mem_cons.1 hp with rfl | hp
    ·simp
    ·exact ⟨by have:=(ih p hp).1;simp;omega,fun u hu=>by simp [(ih p hp).2 u hu]⟩
   ·cases h:splt r with
    | nil=>exact absurd h (splt_ne r)
    | cons q qs =>
      rw [h] at hp ih
      rcases List.mem_cons.1 hp with rfl | hp
      ·have:=ih q (by simp)
       refine ⟨by simp;omega,fun u hu=>?_⟩
       rcases List.mem_cons.1 hu with rfl | hu
       ·simp
       ·simp [this.2 u hu]
      ·have:=ih p (by simp [hp])
       exact ⟨by simp;omega,fun u hu=>by simp [this.2 u hu]⟩
structure PGo (W w2:World) (l:List V) (R:Option (List Cx)) (ov:Value) (cs:List CY) (j:Nat) (w:World):Prop where
 pa:PaI w2.heap.size w ov cs
 eq:R=preO (cs.map (·.2.2)) (allO fX ((splt l).drop j))
 ln:cs.length=j
 bel:Below w2.heap.size w2 w
theorem rparse_step (d:Nat) (ih:∀ (Q:Nat→Prop) (W:World) (val:Value) (l:List V),depL l<d→VsAt Q W val l→Fit l→Calls Tryz.prog 8 #[val] W (PaP W (parseZ l))) {P0:Nat→Prop} {W:World} {val:Value} {l:List V} (hd:depL l<d+1) (hv:VsAt P0 W val l) (hf:Fit l):Calls Tryz.prog 8 #[val] W (PaP W (parseZ l)):=by
 obtain ⟨i0,z0,hi,hz0,hz1,hz2,hz3⟩:=in37
 have HI:=hid_mk hi
 have HI0:=hid_mk hz0
 have HI1:=hid_mk hz1
 have HI2:=hid_mk hz2
 have HI3:=hid_mk hz3
 clear hi hz0 hz1 hz2 hz3
 have hll:=hf.len
 have hsp:=rsplit_any hv hll
 have HSL:=hid_mk (splt_len l)
 have HSM:=hid_mk (splt_mem l)
 have hatt:AttrC:=fun Q w v vs h1 h2 h3=>rattr_any h1 h2 h3
 have HCX:Hid (∀ (Q:Nat→Prop) (w:World) (v:Value) (p:List V),p∈splt l→VsAt Q w v (trm p)→Calls Tryz.prog 15 #[v] w (CxO w (cxK (p.length+1) (trm p)))):=fun Q w v p hp hv=>by
  have hm:=HSM.out p hp
  have hft:Fit (trm p):=hf.sub (Nat.le_trans (trm_len p) hm.1) fun u hu=>hm.2 u (trm_mem p u hu)
  refine rcomplex_any hatt hv hft (trm_NE p) (by have:=trm_len p;omega) fun u hu Q' w' kv _ hk=>?_
  have hul:u∈l:=hm.2 u (trm_mem p u hu)
  have h1:=depL_mem hul
  rw [dep_kids] at h1
  exact ih Q' w' kv u.kids (by omega) hk (hf.kids u hul)
 obtain ⟨R,hR⟩:∃ R,R=parseZ l:=⟨_,rfl⟩
 have HR0:Hid (R=preO (([]:List CY).map (·.2.2)) (allO fX ((splt l).drop 0))):=by
  rw [Hid,hR,parse_fX]
  exact (preO_nil _).symm
 rw [← hR]
 obtain ⟨a,cap,rfl,hc1,hc2⟩:=hv.slice
 generalize hnn:l.length=n at *
 clear hv hf hR ih hd hnn
 go_enter Tryz.func8,Tryz.ntmps8
 go_wp2_with (go_at_call 14;fail)
 refine hsp.mono ?_
 rintro e w2 ⟨hb2,g,oc,xs,rfl,hS,hxs,hoc1,hoc2⟩
 have HGO0:Hid (PGo W w2 l R (.slice none 0 0) [] 0 w2):=⟨PaI.nil _ _,HR0.out,rfl,Below.refl _ _⟩
 have HB2:=hid_mk hb2
 have HSP:Hid (∀ j p,(splt l)[j]? = some p→∀ w,Below w2.heap.size w2 w→∃ va vn vc,w.cell? ⟨g,j,none⟩=some (.slice va vn vc)∧VsAt (fun _=>True) w (.slice va vn vc) p∧p∈splt l):=fun j p hp w hb=>by
  rw [← hxs,List.getElem?_map] at hp
  cases hx:xs[j]? with
  | none=>rw [hx] at hp;cases hp
  | some x =>
    rw [hx] at hp
    injection hp with hp
    have hvx:=hS.at j x hx
    rw [hp] at hvx
    obtain ⟨va,vc,e,_⟩:=hvx.slice
    have hlen:xs.length=(splt l).length:=by rw [← hxs];simp
    have hj:=(List.getElem?_eq_some_iff.1 hx).1
    have hown:=hS.own
    have hc:w2.cell? ⟨g,j,none⟩=some x.1:=by
     rw [← hlen] at hown
     rw [World.ownsRow.cellAt hown j (by omega),List.getElem?_map,hx]
     rfl
    refine ⟨va,p.length,vc,?_,(by rw [← e];exact hvx.keep hb),?_⟩
    ·rw [← e]
     exact (hb.cell (p:=⟨g,j,none⟩) (World.block_lt_of_cell? w2 _ hc)).trans hc
    ·rw [← hxs,← hp]
     exact List.mem_map.2 ⟨x,List.mem_of_getElem? hx,rfl⟩
 have HLT:Hid (∀ j,j<(splt l).length→∃ p,(splt l)[j]? = some p):=fun j hj=>⟨_,List.getElem?_eq_getElem hj⟩
 obtain ⟨sn,hsn⟩:∃ sn,sn=(splt l).length:=⟨_,rfl⟩
 have hsl:sn≤100001:=by have:=HSL.out;omega
 have HSN:=hid_mk hsn
 rw [← hsn] at hoc1 ⊢
 clear hsp hb2 hS hxs hsn HR0
 go_wp2
 go_loopw [4,12] (fun a4 a12 wr=>∃ (j:Nat) (cs:List CY) (oa:Option Addr) (oc':Nat),a4=.slice oa j oc'∧a12=.int .i64 (j:Int)∧j≤sn∧Hid (PGo W w2 l R (.slice oa j oc') cs j wr)) (fun _ a12 _=>sn+1 - (intOf a12).toNat)
 case atStart=>exact ⟨0,[],_,_,rfl,rfl,Nat.zero_le _,HGO0⟩
 case round =>
  obtain ⟨j,cs,oa,oc',rfl,rfl,hj,HG⟩:=hrel
  clear HGO0
  by_cases hjl:j<sn
  ·obtain ⟨p,hp⟩:=HLT.out j (by have:=HSN.out;omega)
   obtain ⟨va,vn,vc,hcell,hvp,hpm⟩:=HSP.out j p hp wr HG.out.bel
   have hpl:p.length≤100000:=by have:=(HSM.out p hpm).1;omega
   have htr:=trim_any hvp hpl
   have HPM:=hid_mk hpm
   have HDR:Hid ((splt l).drop j=p::(splt l).drop (j+1)):=by
    obtain ⟨h1,h2⟩:=List.getElem?_eq_some_iff.1 hp
    rw [Hid,List.drop_eq_getElem_cons h1,h2]
   clear hp hvp hpm
   go_wp2_with (go_at_call 16;fail)
   refine htr.mono ?_
   rintro e w3 ⟨ta,tn,tc,rfl,hv3,htn,htc1,htc2,hb3⟩
   clear htn
   have hcx:=HCX.out _ w3 _ p HPM.out hv3
   have HB3:=hid_mk hb3
   have HFX:Hid (fX p=toCx (cxK (p.length+1) (trm p))):=rfl
   generalize cxK (p.length+1) (trm p)=C at *
   clear htr hv3 hb3 hcell
   go_wp2_with (go_at_call 15;fail)
   refine hcx.mono ?_
   rintro e w4 ⟨hb4,hq⟩
   have HB4:=hid_mk hb4
   have HB24:=hid_mk ((HG.out.bel.trans (HB3.out.mono HG.out.bel.size)).trans (hb4.mono (HG.out.bel.trans (HB3.out.mono HG.out.bel.size)).size))
   cases C with
   | none =>
     obtain ⟨xa,xn,xc,ya,yn,yc,rfl⟩:=hq
     have HRN:Hid (R=none):=by
      rw [Hid,HG.out.eq,HDR.out,preO_step,HFX.out]
      rfl
     have HBE:Hid (Below W.heap.size W (w4.alloc (.cells #[.slice xa xn xc,.slice ya yn yc] 44))):=by
      have h1:=HB2.out.trans (HB24.out.mono HB2.out.size)
      exact h1.alloc h1.size _
     clear hcx hb4 HG HDR HFX
     go_wp2
     go_ret2
     rw [HRN.out]
     exact ⟨rfl,HBE.out⟩
   | some c =>
     obtain ⟨qs,ks⟩:=c
     obtain ⟨xa,xn,xc,ya,yn,yc,rfl,hrob⟩:=hq
     have HROB:=hid_mk hrob
     have HBX:Hid (Below w4.heap.size w4 ((w4.alloc (.cells #[.slice xa xn xc,.slice ya yn yc] 44)).alloc (.cells #[.slice xa xn xc,.slice ya yn yc] 44))):=((Below.refl _ w4).alloc (Nat.le_refl _) _).alloc (by rw [World.size_alloc];omega) _
     have HPA:=hid_mk (HG.out.pa.keep HB3.out)
     have HSZ:Hid (w2.heap.size≤((w4.alloc (.cells #[.slice xa xn xc,.slice ya yn yc] 44)).alloc (.cells #[.slice xa xn xc,.slice ya yn yc] 44)).heap.size):=Nat.le_trans HB24.out.size HBX.out.size
     have HOW:Hid (((w4.alloc (.cells #[.slice xa xn xc,.slice ya yn yc] 44)).alloc (.cells #[.slice xa xn xc,.slice ya yn yc] 44)).ownsRow w2.heap.size 44 2 (.slice oa j oc') j (rowX cs)):=by
      have:=((HPA.out.keep HB4.out).keep HBX.out).own
      rw [HG.out.ln] at this
      exact this
     have HADD:Hid (∀ v2 w5,w5.ownsRow w2.heap.size 44 2 v2 (j+1) (rowX cs++[.slice xa xn xc,.slice ya yn yc])→((w4.alloc (.cells #[.slice xa xn xc,.slice ya yn yc] 44)).alloc (.cells #[.slice xa xn xc,.slice ya yn yc] 44)).grownBy w5 (Value.slice oa j oc').ownBlock→(v2.ownBlock=(Value.slice oa j oc').ownBlock∨v2.ownBlock=some (w4.heap.size+1+1))→PGo W w2 l R v2 (cs++[(.slice xa xn xc,.slice ya yn yc,.mk qs ks)]) (j+1) w5):=fun v2 w5 h1 h2 h3=>by
      have hB:w2.heap.size≤w3.heap.size:=Nat.le_trans HG.out.bel.size HB3.out.size
      have hbx:Below w2.heap.size w2 ((w4.alloc (.cells #[.slice xa xn xc,.slice ya yn yc] 44)).alloc (.cells #[.slice xa xn xc,.slice ya yn yc] 44)):=HB24.out.trans (HBX.out.mono HB24.out.size)
      refine ⟨HPA.out.add HB4.out hB HROB.out HBX.out (by rw [HG.out.ln];exact h1) h2 (by rw [World.size_alloc,World.size_alloc];exact h3),?_,?_,hbx.grown h2 hbx.size fun k e=>(own_blk HOW.out k e).1⟩
      ·rw [HG.out.eq,HDR.out,preO_step,HFX.out]
       show preO _ _=_
       rw [List.map_append]
       rfl
      ·rw [List.length_append,HG.out.ln]
       rfl
     have HNE:Hid (∀ i u,[.slice xa xn xc,.slice ya yn yc][i]? = some u→((w4.alloc (.cells #[.slice xa xn xc,.slice ya yn yc] 44)).alloc (.cells #[.slice xa xn xc,.slice ya yn yc] 44)).cell? (Addr.add ⟨w4.heap.size+1,0,none⟩ i)=some u):=by
      have:=news_2 (w:=w4.alloc (.cells #[.slice xa xn xc,.slice ya yn yc] 44)) (x:=.slice xa xn xc) (y:=.slice ya yn yc) (T:=44)
      rw [World.size_alloc] at this
      exact this
     generalize rowX cs=OL at HOW HADD
     clear hcx hb4 hrob HPA HG HDR HFX HBX HROB
     go_wp2_with (at_builtin;with_reducible refine wpList_append_own_at _ rfl _ _ 26 rfl w2.heap.size 44 i0 z0 2 48 Tryz.underlying26 HI.out HI0.out HI1.out HI2.out HI3.out (by decide) (.slice oa j oc') j OL rfl HOW.out ⟨w4.heap.size+1,0,none⟩ 1 1 [.slice xa xn xc,.slice ya yn yc] rfl rfl HNE.out ?c0 ?c1 ?c2 ?c3 ?_)
     case c0=>simp [Value.oneCell']
     case c1=>unfold maxLen;omega
     case c2=>omega
     case c3=>exact HSZ.out
     intro v5 w5 ho5 hg5 _ hat5
     have HG5:=hid_mk (HADD.out v5 w5 ho5 hg5 hat5)
     obtain ⟨g5,c5,rfl,_⟩:=own_pos ho5 (by omega)
     clear HADD HNE HSZ HOW ho5 hg5 hat5
     go_wp2
     exact ⟨⟨j+1,cs++[(.slice xa xn xc,.slice ya yn yc,.mk qs ks)],some ⟨g5,0,none⟩,c5,rfl,rfl,hjl,HG5⟩,rp_meas j sn hjl⟩
  ·obtain rfl:j=sn:=by omega
   have HRS:Hid (R=some (cs.map (·.2.2))):=by
    rw [Hid,HG.out.eq,List.drop_of_length_le (by have:=HSN.out;omega)]
    simp [allO,preO]
   go_wp2
   go_ret2
   rw [HRS.out]
   refine ⟨oa,_,oc',rfl,?_,?_⟩
   ·exact HG.out.pa.rob.wide HB2.out.size (Nat.le_refl _)
   ·exact HB2.out.trans (HG.out.bel.mono HB2.out.size)
theorem rparse_any:∀ (d:Nat) (Q:Nat→Prop) (W:World) (val:Value) (l:List V),depL l<d→VsAt Q W val l→Fit l→Calls Tryz.prog 8 #[val] W (PaP W (parseZ l))
 | 0,_,_,_,_,h,_,_=>by omega
 | d+1,_,_,_,_,h,hv,hf=>rparse_step d (rparse_any d) h hv hf
end Go.Proofs.YtdneaeokljoijaaGreatDoor.L
