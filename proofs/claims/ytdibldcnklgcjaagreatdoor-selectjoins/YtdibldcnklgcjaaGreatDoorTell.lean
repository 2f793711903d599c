/- What the cutter's tell does: one token more is told; all else stands as it stood. -/
import Derived.Test.YtdibldcnklgcjaaGreatDoorWord
import Derived.Deep.RegionLaw
import Derived.Deep.AppendLies
namespace Go.Proofs.YtdibldcnklgcjaaGreatDoor
open Go.RowKit
set_option maxRecDepth 100000

def strT (l : List Int) : ByteArray := strOfNums (bytesZ l)
def tokCells (t : Tok) : List Value := [.int .i64 t.kind, .string (strT t.text), .string (strT t.unit), .bool t.whole, .bool t.flag]
def tokV (t : Tok) : Value := .agg #[.int .i64 t.kind, .string (strT t.text), .string (strT t.unit), .bool t.whole, .bool t.flag]
def Outs (B : Nat) (w : World) (out : Value) (ts : List Tok) : Prop := w.ownsRow B 69 5 out ts.length (ts.flatMap tokCells)
def Low (b : Nat) (v : Value) : Prop := ∀ a n c, v = .slice (some a) n c → a.block < b
def waysV : Array Value := #[(.func (.func 19) #[] #[]), (.func (.func 20) #[] #[]), (.func (.func 21) #[] #[]), (.func (.func 22) #[] #[]), (.func (.func 23) #[] #[]), (.func (.func 24) #[] #[]), (.func (.func 25) #[] #[]), (.func (.func 26) #[] #[]), (.func (.func 27) #[] #[])]
/-- The block behind the cutter's holds its ways of going on. -/
def Arr (b : Nat) (w : World) : Prop := w.heap[b + 1]? = some (.cells waysV 75 (0, 0))
/-- The cutter, and what it has told. -/
def St (w : World) (b : Nat) (v out : Value) (xs l : List Int) (ts : List Tok) : Prop := At w b v out xs l ∧ Outs b w out ts ∧ Low b v ∧ Arr b w

theorem Tryz.info69 : (Tryz.prog.info? 69).map (fun i => (i.zero, i.size, i.bytes)) = some (some (.agg #[.int .i64 0, .string .empty, .string .empty, .bool false, .bool false]), 5, 48) := by kernel_rfl

theorem outs_kept {w w' : World} {b : Nat} {out : Value} {ts : List Tok} {x y z : Value} (h : Outs b w out ts) (hb : w.heap[b]? = some (.cells #[x, y, z] 72 (0, 0))) (hk : Kept b w w') : Outs b w' out ts := by
  refine ⟨h.1, ?_⟩
  rcases h.2 with hn | ⟨g, cap, cur, hv, hbg, hg, rest⟩
  · exact .inl hn
  · have hne : g ≠ b := by
      intro e
      subst e
      rw [hg] at hb
      simp at hb
    exact .inr ⟨g, cap, cur, hv, hbg, (hk.block g ((Array.getElem?_eq_some_iff.1 hg).1) hne).trans hg, rest⟩

theorem at_heap {w : World} {b : Nat} {v out : Value} {xs l : List Int} (h : At w b v out xs l) : ∃ p : Nat, w.heap[b]? = some (.cells #[v, .int .i64 p, out] 72 (0, 0)) := by
  obtain ⟨p, hb, _⟩ := h
  exact ⟨p, hb⟩
theorem st_kept {w w' : World} {b : Nat} {v out : Value} {xs l l' : List Int} {ts : List Tok} (h : St w b v out xs l ts) (hk : Kept b w w') (ha : At w' b v out xs l') : St w' b v out xs l' ts := by
  obtain ⟨p, hb⟩ := at_heap h.1
  have hlt : b + 1 < w.heap.size := (Array.getElem?_eq_some_iff.1 h.2.2.2).1
  exact ⟨ha, outs_kept h.2.1 hb hk, h.2.2.1, (hk.block (b + 1) hlt (by omega)).trans h.2.2.2⟩
theorem row_low {w w' : World} {b : Nat} {v : Value} {xs : List Int} (h : RowAt .i32 w v xs) (hl : Low b v) (hb : Below b w w') : RowAt .i32 w' v xs := by
  obtain ⟨a, cap, rfl, h1, hc⟩ := h
  refine ⟨a, cap, rfl, h1, fun h0 => ?_⟩
  obtain ⟨rb, off, rfl, hc'⟩ := hc h0
  have hlt := hl _ _ _ rfl
  exact ⟨rb, off, rfl, fun j hj => (hb.cell (p := ⟨rb, off + j, none⟩) hlt).trans (hc' j hj)⟩
theorem set3c {w : World} {b : Nat} {x y z u : Value} (h : w.heap[b]? = some (.cells #[x, y, z] 72 (0, 0))) : (w.setCell ⟨b, 2, none⟩ u).heap[b]? = some (.cells #[x, y, u] 72 (0, 0)) := by
  simp [World.setCell, Array.getElem?_modify, h]

theorem fz_alloc {w : World} {p : Addr} (h : w.frozen? p = false) (hp : p.block < w.heap.size) (o : Obj) : (w.alloc o).frozen? p = false := (World.frozen?_of_block (w := w) (Below.heap_alloc w o p.block hp)).trans h
theorem fz_one {w : World} {p : Addr} (h : w.frozen? p = false) (hp : p.block < w.heap.size) (o : Obj) : (w.alloc o).drew.frozen? p = false := fz_alloc h hp o
theorem fz_two {w : World} {p : Addr} (h : w.frozen? p = false) (hp : p.block < w.heap.size) (o o' : Obj) : ((w.alloc o).alloc o').drew.frozen? p = false := fz_alloc (fz_alloc h hp o) (by simp; omega) o'
theorem fz_two' {w : World} {p : Addr} (h : w.frozen? p = false) (hp : p.block < w.heap.size) (o o' : Obj) : ((w.alloc o).drew.alloc o').frozen? p = false := fz_alloc (w := (w.alloc o).drew) (fz_alloc h hp o) (by show _ < (w.alloc o).heap.size; simp; omega) o'
theorem two_news (w : World) (o o' : Obj) : ((w.alloc o).alloc o').drew.heap[w.heap.size + 1]? = some o' := by
  have h : ((w.alloc o).alloc o').heap[(w.alloc o).heap.size]? = some o' := heap_alloc_new (w.alloc o) o'
  have e : (w.alloc o).heap.size = w.heap.size + 1 := by simp
  rw [e] at h
  exact h

set_option maxRecDepth 100000 in
set_option maxHeartbeats 3200000 in
theorem tell_any {w : World} {b : Nat} {v out : Value} {xs l : List Int} {ts : List Tok} (h : St w b v out xs l ts) (t : Tok) (hlen : ts.length ≤ 1000000000) :
    Calls Tryz.prog 48 #[.pointer (some ⟨b, 0, none⟩), tokV t] w fun e w' => e = .returned (.bool true) ∧ ∃ out', St w' b v out' xs l (ts ++ [t]) ∧ Below b w w' := by
  obtain ⟨i0, hi0, hz0, hz1, hz2⟩ := info_parts Tryz.info69
  obtain ⟨hat, hout, hlow, harr⟩ := h
  obtain ⟨p, hb, hr, ho, hp, he⟩ := hat
  obtain ⟨hc0, hc1, hc2⟩ := cells3 hb
  have hlt : b < w.heap.size := (Array.getElem?_eq_some_iff.1 hb).1
  have hne : out.ownBlock ≠ some b := by
    rcases hout.2 with ⟨hv, _⟩ | ⟨g, cap, cur, hv, _, hg, _⟩
    · rw [hv]; simp [Value.ownBlock]
    · rw [hv]
      intro e
      simp [Value.ownBlock] at e
      rw [e, hb] at hg
      simp at hg
  have hne2 : out.ownBlock ≠ some w.heap.size := by
    rcases hout.2 with ⟨hv, _⟩ | ⟨g, cap, cur, hv, _, hg, _⟩
    · rw [hv]; simp [Value.ownBlock]
    · have := (Array.getElem?_eq_some_iff.1 hg).1
      rw [hv]
      intro e
      simp [Value.ownBlock] at e
      omega
  have hlt1 : b + 1 < w.heap.size := (Array.getElem?_eq_some_iff.1 harr).1
  have hne1 : out.ownBlock ≠ some (b + 1) := by
    rcases hout.2 with ⟨hv, _⟩ | ⟨g, cap, cur, hv, _, hg, _⟩
    · rw [hv]; simp [Value.ownBlock]
    · rw [hv]
      intro e
      simp [Value.ownBlock] at e
      rw [e, harr] at hg
      simp at hg
  have HA : Hid (w.heap[b + 1]? = some (.cells waysV 75 (0, 0))) := harr
  clear harr
  have hown : w.ownsRow b 69 5 out ts.length (ts.flatMap tokCells) := hout
  have hf2 := free3 hb 2
  have HB : Hid (w.heap[b]? = some (.cells #[v, .int .i64 p, out] 72 (0, 0))) := hb
  have hn63 : ts.length + 1 ≤ maxLen := by unfold maxLen; omega
  have hn48 : (ts.length + 1) * 48 ≤ 140737488355328 := by omega
  have HT : Hid (tokCells t = [.int .i64 t.kind, .string (strT t.text), .string (strT t.unit), .bool t.whole, .bool t.flag]) := rfl
  unfold tokV
  clear hb hout
  generalize t.kind = t1 at *
  generalize strT t.text = t2 at *
  generalize strT t.unit = t3 at *
  generalize t.whole = t4 at *
  generalize t.flag = t5 at *
  go_enter Tryz.func48, Tryz.ntmps48
  go_wp2_with fail
  go_region_law
    ((refine step_append_lies _ (by rfl) _ _ _ (by rfl) b 69 i0 _ 5 48 Tryz.underlying46 hi0 hz0 hz1 hz2 rfl (by omega) out ts.length (ts.flatMap tokCells) (by rfl) (((hown.alloc _).alloc _).drew)
        ⟨w.heap.size + 1, 0, none⟩ 1 1 [.int .i64 t1, .string t2, .string t3, .bool t4, .bool t5] (by rfl) (by rfl) (World.news_of_block (cs := #[.int .i64 t1, .string t2, .string t3, .bool t4, .bool t5]) (t := 69) (fr := (0, 0)) (two_news w _ _)) (by simp [Value.oneCell'])
        (by omega) hn63 hn48 (by simp; omega) (w.heap.size + 2) (by simp) ?_
      intro gg cap w1 hown1 hgrow hgat hglt
      have hb1 : w1.heap[b]? = some (.cells #[v, .int .i64 p, out] 72 (0, 0)) := by
        rw [hgrow.block b (by simp; omega) (fun e => hne e.symm)]
        exact (Below.heap_alloc _ _ _ (by simp; omega)).trans ((Below.heap_alloc _ _ _ hlt).trans HB.out)
      have ha1 : w1.heap[b + 1]? = some (.cells waysV 75 (0, 0)) := by
        rw [hgrow.block (b + 1) (by simp; omega) (fun e => hne1 e.symm)]
        exact (Below.heap_alloc _ _ _ (by simp; omega)).trans ((Below.heap_alloc _ _ _ hlt1).trans HA.out)
      have HA1 : Hid (w1.heap[b + 1]? = some (.cells waysV 75 (0, 0))) := ha1
      clear ha1
      have d2 := (cells3 hb1).2.2
      have f2 := free3 hb1 2
      have HB1 : Hid (w1.heap[b]? = some (.cells #[v, .int .i64 p, out] 72 (0, 0))) := hb1
      clear hb1))
  all_goals go_wp2
  all_goals go_ret
  all_goals
    have HBel : Below b w w1 := ((((Below.refl b w).alloc (by omega) _).alloc (by simp; omega) _).drew).grown hgrow (by simp; omega) (fun k hk => (hown.lt k hk).1)
    refine ⟨rfl, _, ⟨⟨p, set3c HB1.out, ?_, slice_no, hp, he⟩, ?_, hlow, ?_⟩, HBel.setCell (p := ⟨b, 2, none⟩) (Nat.le_refl _) _⟩
    · exact row_low hr hlow (HBel.setCell (p := ⟨b, 2, none⟩) (Nat.le_refl _) _)
    · have ho1 : Outs b w1 (.slice (some ⟨gg, 0, none⟩) (ts.length + 1) cap) (ts ++ [t]) := by
        unfold Outs
        rw [List.flatMap_append, List.length_append]
        have e1 : [t].flatMap tokCells = tokCells t := by simp
        rw [e1, HT.out]
        exact hown1
      exact outs_kept ho1 HB1.out ((Kept.refl b w1).setCell 2 _)
    · exact (Below.heap_setCell w1 ⟨b, 2, none⟩ _ (b + 1) (by simp)).trans HA1.out
end Go.Proofs.YtdibldcnklgcjaaGreatDoor
