/- DomKeeps: the walk. -/
import Derived.Test.YtecbgleidohjpaaKptN
import Derived.Test.YtecbgleidohjpaaSamN
import Derived.Test.YtecbgleidohjpaaRfL
import Derived.Test.YtecbgleidohjpaaLitN
import Derived.IntWalk
import Derived.LaidEql
import Derived.Deep.RegionHeld3
namespace Go.Proofs.Ytecbgleidohjpaa.N
open Go.RowKit
set_option maxRecDepth 100000

/-- A tree of the program and the document's, of the same elements. -/
structure Rec where
  m : M
  nx : Int
  L : List El
  b : Nat
  c : Nat
def Rec.ok (w : World) (r : Rec) (n : Int) : Prop := Tree w (.pointer (some ⟨r.b, 0, none⟩)) r.m r.nx ∧ RTree w (.pointer (some ⟨r.c, 0, none⟩)) r.L r.m r.nx ∧ r.nx ≤ n
theorem Rec.ok.keep {w w' : World} {r : Rec} {n : Int} (h : r.ok w n) (hb : Below w.heap.size w w') : r.ok w' n := ⟨h.1.keep hb, h.2.1.keep hb, h.2.2⟩
theorem Rec.ok.kpt {w w' : World} {r : Rec} {n : Int} (h : r.ok w n) (k : KpT w w') : r.ok w' n := ⟨h.1.kpt k, h.2.1.kpt k, h.2.2⟩
theorem Rec.ok.mono {w : World} {r : Rec} {n n' : Int} (h : r.ok w n) (hn : n ≤ n') : r.ok w n' := ⟨h.1, h.2.1, Int.le_trans h.2.2 hn⟩
def pbs (rs : List Rec) : List Value := rs.map fun r => .pointer (some ⟨r.b, 0, none⟩)
def pcs (rs : List Rec) : List Value := rs.map fun r => .pointer (some ⟨r.c, 0, none⟩)
/-- All trees that ever were, and their rows. -/
structure St (W w : World) (B : Nat) (v7 v8 : Value) (rs : List Rec) (n : Int) : Prop where
  olds : PRow w B 25 v7 (pbs rs)
  refs : PRow w B 29 v8 (pcs rs)
  all : ∀ r ∈ rs, r.ok w n
  bel : Below W.heap.size W w
  lo : W.heap.size ≤ B
  hi : B ≤ w.heap.size
theorem St.keep {W w w' : World} {B : Nat} {v7 v8 : Value} {rs : List Rec} {n : Int} (h : St W w B v7 v8 rs n) (hb : Below w.heap.size w w') : St W w' B v7 v8 rs n :=
  ⟨h.olds.keep hb, h.refs.keep hb, fun r hr => (h.all r hr).keep hb, h.bel.trans (hb.mono h.bel.size), h.lo, Nat.le_trans h.hi hb.size⟩
theorem St.len7 {W w : World} {B : Nat} {v7 v8 : Value} {rs : List Rec} {n : Int} (h : St W w B v7 v8 rs n) {k : Nat} (hk : rs.length = k) : ∃ g cap, v7 = .slice (some ⟨g, 0, none⟩) k cap ∧ k ≤ cap ∧ cap ≤ 9223372036854775807 ∧ ∀ w', Below w.heap.size w w' → ∀ j (hj : j < rs.length), w'.cell? ⟨g, j, none⟩ = some (.pointer (some ⟨rs[j].b, 0, none⟩)) := by
  have hl : (pbs rs).length = k := by simp [pbs, hk]
  obtain ⟨g, cap, e, h1, h2, _⟩ := h.olds.at
  rw [hl] at e h1
  refine ⟨g, cap, e, h1, h2, fun w' hw' j hj => ?_⟩
  obtain ⟨g', cap', e', _, _, h3⟩ := (h.olds.keep hw').at
  rw [e] at e'
  obtain ⟨rfl⟩ : g = g' := by cases e'; rfl
  rw [h3 j (by simp [pbs]; exact hj)]
  simp [pbs]
theorem St.len8 {W w : World} {B : Nat} {v7 v8 : Value} {rs : List Rec} {n : Int} (h : St W w B v7 v8 rs n) {k : Nat} (hk : rs.length = k) : ∃ g cap, v8 = .slice (some ⟨g, 0, none⟩) k cap ∧ k ≤ cap ∧ cap ≤ 9223372036854775807 ∧ ∀ w', Below w.heap.size w w' → ∀ j (hj : j < rs.length), w'.cell? ⟨g, j, none⟩ = some (.pointer (some ⟨rs[j].c, 0, none⟩)) := by
  have hl : (pcs rs).length = k := by simp [pcs, hk]
  obtain ⟨g, cap, e, h1, h2, _⟩ := h.refs.at
  rw [hl] at e h1
  refine ⟨g, cap, e, h1, h2, fun w' hw' j hj => ?_⟩
  obtain ⟨g', cap', e', _, _, h3⟩ := (h.refs.keep hw').at
  rw [e] at e'
  obtain ⟨rfl⟩ : g = g' := by cases e'; rfl
  rw [h3 j (by simp [pcs]; exact hj)]
  simp [pcs]
theorem St.mono {W w : World} {B : Nat} {v7 v8 : Value} {rs : List Rec} {n n' : Int} (h : St W w B v7 v8 rs n) (hn : n ≤ n') : St W w B v7 v8 rs n' := ⟨h.olds, h.refs, fun r hr => (h.all r hr).mono hn, h.bel, h.lo, h.hi⟩
theorem ptr_same0 (w : World) (d : Nat) (a : Addr) : (Op.equalIn (d + 1) 25 (.pointer (some a)) (.pointer (some a))).run Try.prog w = .ok true w := by
  obtain ⟨i, hi⟩ : ∃ i, Try.prog.info? 64 = some i := ⟨_, by rfl⟩
  simp [Op.equalIn, run_underlying Try.underlying25, sizeOf, typeInfo, hi, run_sameAddr_same]
theorem ptr_same (w : World) (a : Addr) : (Op.equalIn 10000 25 (.pointer (some a)) (.pointer (some a))).run Try.prog w = .ok true w := ptr_same0 w 9999 a
theorem ptr_neq (w : World) (a : Addr) : (binOp .neq 25 (.pointer (some a)) (.pointer (some a))).run Try.prog w = .ok (.bool false) w := by
  have h := ptr_same w a
  simp only [binOp]
  simp [Op.equal, Op.maxDepth, h]
/-- A tree more: both appends. -/
theorem St.more {W w w1 w2 w3 w4 : World} {B : Nat} {v7 v8 v7' v8' : Value} {rs : List Rec} {n : Int} (h : St W w B v7 v8 rs n) {r : Rec} (hr : r.ok w n) (h1 : Below w.heap.size w w1) (h2 : PApp w1 w2 B 25 v7' (pbs rs ++ [.pointer (some ⟨r.b, 0, none⟩)])) (h3 : Below w2.heap.size w2 w3) (h4 : PApp w3 w4 B 29 v8' (pcs rs ++ [.pointer (some ⟨r.c, 0, none⟩)])) : St W w4 B v7' v8' (rs ++ [r]) n := by
  have k : KpT w w4 := ((KpT.of h1).trans h2.kp).trans ((KpT.of h3).trans h4.kp)
  have s1 := h.keep h1
  refine ⟨?_, ?_, ?_, ?_, h.lo, Nat.le_trans h.hi k.size⟩
  · have := h4.oth 25 v7' _ (by decide) (h2.row.keep h3)
    simpa [pbs] using this
  · have := h4.row
    simpa [pcs] using this
  · intro x hx
    rcases List.mem_append.1 hx with hx | hx
    · exact (h.all x hx).kpt k
    · rw [List.mem_singleton.1 hx]
      exact hr.kpt k
  · exact ((s1.bel.trans (h2.bel.mono h.lo)).trans (h3.mono (Nat.le_trans h.lo (Nat.le_trans s1.hi h2.kp.size)))).trans (h4.bel.mono h.lo)

set_option maxHeartbeats 8000000 in
theorem keeps_walk {W : World} {v : Value} {xs : List Act6} (hp : ActsIn W v xs) : Calls Try.prog 5 #[v] W fun e w' => e = .returned (.bool true) ∧ Below W.heap.size W w' := by
  have hlight := light_any hp
  have HLV : Hid (∀ w', Calls Try.prog 10 #[] w' fun e w'' => e = .returned (.bool true) ∧ Below w'.heap.size w' w'') := fun w' => lives_any w'
  obtain ⟨hA, hsz⟩ := hp
  have HZ : Hid (∀ z ∈ xs, z.nm.size ≤ 281474976710656 ∧ z.v.size ≤ 281474976710656) := fun z hz => by
    obtain ⟨h1, h2⟩ := hsz z hz
    omega
  have HC : Hid (∀ i (hi : i < xs.length), _) := fun i hi => hA.cells hi
  obtain ⟨a, cap, rfl, hcap, hmax, hx⟩ := hA
  clear hx hsz
  go_enter Try.func5, Try.ntmps5
  go_wp2_with (go_at_call 9; fail)
  refine hlight.mono ?_
  rintro e w1 ⟨lb, rfl, hlen, hB1⟩
  have HB1 := hid_mk hB1
  clear hlight hB1 hlen
  cases lb with
  | false =>
    go_wp2_with (go_at_call 10; refine (HLV.out _).mono ?_; rintro e w2 ⟨rfl, hB2⟩)
    go_ret
    exact ⟨rfl, HB1.out.trans (hB2.mono HB1.out.size)⟩
  | true =>
    by_cases h40 : 40 < xs.length
    · have hd : decide ((40 : Int) < (xs.length : Int)) = true := decide_eq_true (by omega)
      clear HZ HC h40
      go_wp2_with (go_at_call 10; refine (HLV.out _).mono ?_; rintro e w2 ⟨rfl, hB2⟩)
      go_ret
      exact ⟨rfl, HB1.out.trans (hB2.mono HB1.out.size)⟩
    have hd : decide ((40 : Int) < (xs.length : Int)) = false := decide_eq_false (by omega)
    have hl40 : xs.length ≤ 40 := by omega
    have hn1 := tree_new sA w1 (by decide) name_a
    have HN2 : Hid (∀ w', _) := fun w' => rnew_yes sA w' (by decide) name_a
    clear h40
    go_wp2_with (go_at_call 11; fail)
    refine hn1.mono ?_
    rintro e w2 ⟨b2, rfl, hT2, hB2⟩
    have HT2 := hid_mk hT2
    have HB2 : Hid (Below W.heap.size W w2) := HB1.out.trans (hB2.mono HB1.out.size)
    clear hn1 hB2 HB1 hT2
    go_wp2_with (go_at_call 12; fail)
    refine (HN2.out _).mono ?_
    rintro e w3 ⟨b3, rfl, hT3, hB3⟩
    obtain ⟨w5, hw5⟩ : ∃ w5, w5 = (w3.alloc (.cells #[.pointer (some ⟨b2, 0, none⟩)] 25)).alloc (.cells #[.pointer (some ⟨b3, 0, none⟩)] 29) := ⟨_, rfl⟩
    have hA3 : Below w3.heap.size w3 (w3.alloc (.cells #[.pointer (some ⟨b2, 0, none⟩)] 25)) := (Below.refl _ _).alloc (Nat.le_refl _) _
    have hA4 : Below (w3.alloc (.cells #[.pointer (some ⟨b2, 0, none⟩)] 25)).heap.size (w3.alloc (.cells #[.pointer (some ⟨b2, 0, none⟩)] 25)) w5 := by rw [hw5]; exact (Below.refl _ _).alloc (Nat.le_refl _) _
    have hA5 : Below w3.heap.size w3 w5 := hA3.trans (hA4.mono hA3.size)
    have HST : Hid (St W w5 w3.heap.size (.slice (some ⟨w3.heap.size, 0, none⟩) 1 1) (.slice (some ⟨w3.heap.size + 1, 0, none⟩) 1 1) [⟨mset (fun _ => none) 1 ⟨1, sA, 0, [], []⟩, 2, [⟨1, sA, 0, [], []⟩], b2, b3⟩] 2) := by
      refine ⟨(PRow.one w3 w3.heap.size 25 _ (Nat.le_refl _)).keep hA4, ?_, ?_, ((HB2.out.trans (hB3.mono HB2.out.size)).trans (hA5.mono (Nat.le_trans HB2.out.size hB3.size))), Nat.le_trans HB2.out.size hB3.size, hA5.size⟩
      · have h := PRow.one (w3.alloc (.cells #[.pointer (some ⟨b2, 0, none⟩)] 25)) w3.heap.size 29 (some ⟨b3, 0, none⟩) hA3.size
        rw [← hw5] at h
        have e : (w3.alloc (.cells #[.pointer (some ⟨b2, 0, none⟩)] 25)).heap.size = w3.heap.size + 1 := by simp
        rw [e] at h
        exact h
      · intro r hr
        rw [List.mem_singleton.1 hr]
        exact ⟨(HT2.out.keep hB3).keep hA5, hT3.keep hA5, Int.le_refl _⟩
    have HW5 := hid_mk hw5
    clear HN2 hB3 hT3 HT2 HB2 hA3 hA4 hA5 hw5
    obtain ⟨B, hB⟩ : ∃ B, B = w3.heap.size := ⟨_, rfl⟩
    have HST' : Hid (St W w5 B (.slice (some ⟨w3.heap.size, 0, none⟩) 1 1) (.slice (some ⟨w3.heap.size + 1, 0, none⟩) 1 1) [⟨mset (fun _ => none) 1 ⟨1, sA, 0, [], []⟩, 2, [⟨1, sA, 0, [], []⟩], b2, b3⟩] 2) := by rw [hB]; exact HST
    clear HST hB
    go_upto_region 9 with (fail)
    rw [← HW5.out]
    clear HW5
    go_wp2
    go_loopw [7, 8, 44] (fun a7 a8 a44 wr => ∃ (i : Nat) (rs : List Rec), i ≤ xs.length ∧ a44 = .int .i64 (i : Int) ∧ Hid (rs.length = i + 1) ∧ Hid (St W wr B a7 a8 rs ((i : Int) + 2))) (fun _ _ a44 _ => xs.length + 1 - (intOf a44).toNat)
    case atStart =>
      refine ⟨0, _, Nat.zero_le _, rfl, ?_, HST'⟩
      exact hid_mk rfl
    case round =>
      clear HST'
      obtain ⟨i, rs, hi, rfl, HLN, HS⟩ := hrel
      by_cases hlt : i < xs.length
      · obtain ⟨bx, off, cap', e, _, hbl, q0, q1, q2, q3, q4, q5⟩ := HC.out i hlt
        cases e
        obtain ⟨z1, z2⟩ := HZ.out xs[i] (List.getElem_mem hlt)
        have c0 := (HS.out.bel.cell (p := ⟨bx, off + i * 6, none⟩) hbl).trans q0
        have c1 := (HS.out.bel.cell (p := ⟨bx, off + i * 6 + 1, none⟩) hbl).trans q1
        have c2 := (HS.out.bel.cell (p := ⟨bx, off + i * 6 + 2, none⟩) hbl).trans q2
        have c3 := (HS.out.bel.cell (p := ⟨bx, off + i * 6 + 3, none⟩) hbl).trans q3
        have c4 := (HS.out.bel.cell (p := ⟨bx, off + i * 6 + 4, none⟩) hbl).trans q4
        have c5 := (HS.out.bel.cell (p := ⟨bx, off + i * 6 + 5, none⟩) hbl).trans q5
        generalize xs[i] = z at *
        obtain ⟨n, hn⟩ : ∃ n, n = i + 1 := ⟨_, rfl⟩
        obtain ⟨g7, p7, e7, hc7, hm7, H7⟩ := HS.out.len7 (HLN.out.trans hn.symm)
        obtain ⟨g8, p8, e8, hc8, hm8, H8⟩ := HS.out.len8 (HLN.out.trans hn.symm)
        subst e7 e8
        obtain ⟨k, hk⟩ : ∃ k, k = (i * 5) % n := ⟨_, rfl⟩
        have hkn : k < n := by rw [hk]; exact Nat.mod_lt _ (by omega)
        have hkl : k < rs.length := by rw [HLN.out, ← hn]; exact hkn
        have hk2 : ((i : Int) * 5) % (n : Int) = (k : Int) := by
          rw [hk, Int.natCast_emod, Int.natCast_mul]
          rfl
        have hk1 : ((i : Int) * 5).tmod (n : Int) = (k : Int) := by
          rw [Int.tmod_eq_emod_of_nonneg (by omega)]
          exact hk2
        have hkw : IntKind.i64.wrap ((i : Int) * 5) = (i : Int) * 5 := by rw [IntKind.wrap_i64]; omega
        have hkw2 : IntKind.i64.wrap (k : Int) = (k : Int) := by rw [IntKind.wrap_i64]; omega
        have hn0 : 0 < n := by omega
        have hn41 : n ≤ 41 := by omega
        obtain ⟨r, hr⟩ : ∃ r, r = rs[k] := ⟨_, rfl⟩
        have hrok : r.ok wr ((i : Int) + 2) := HS.out.all r (by rw [hr]; exact List.getElem_mem hkl)
        have hnx := hrok.2.2
        obtain ⟨w5, hw5⟩ : ∃ w5, w5 = wr.alloc (.cells #[.int .i64 z.k, .int .i64 z.x, .int .i64 z.y, .int .i64 z.z, .string z.nm, .string z.v] 33) := ⟨_, rfl⟩
        have hA5 : Below wr.heap.size wr w5 := by rw [hw5]; exact (Below.refl _ _).alloc (Nat.le_refl _) _
        have hb5 : w5.heap[wr.heap.size]? = some (.cells #[.int .i64 z.k, .int .i64 z.x, .int .i64 z.y, .int .i64 z.z, .string z.nm, .string z.v] 33 (0, 0)) := by rw [hw5]; exact heap_alloc_last wr _
        have hl5 : wr.heap.size < w5.heap.size := (Array.getElem?_eq_some_iff.1 hb5).1
        have HACT : Hid (∀ w', Below w5.heap.size w5 w' → Calls Try.prog 13 #[.pointer (some ⟨r.b, 0, none⟩), .agg #[.int .i64 z.k, .int .i64 z.x, .int .i64 z.y, .int .i64 z.z, .string z.nm, .string z.v]] w' (ActP w' (.pointer (some ⟨r.b, 0, none⟩)) r.m r.nx z)) := fun w' hw' => act_any ((hrok.1.keep hA5).keep hw') (by omega) z (by unfold maxLen; omega) (by unfold maxLen; omega)
        have HLK : Hid (∀ w', Below w5.heap.size w5 w' → Calls Try.prog 14 #[.pointer (some ⟨r.c, 0, none⟩), .agg #[.int .i64 z.k, .int .i64 z.x, .int .i64 z.y, .int .i64 z.z, .string z.nm, .string z.v]] w' (LikP w' r.m r.nx z)) := fun w' hw' => like_any ((hrok.2.1.keep hA5).keep hw') (by omega) z z1 z2
        have HF : Hid (∀ w', Below w5.heap.size w5 w' → (w'.cell? ⟨wr.heap.size, 0, none⟩ = some (.int .i64 z.k) ∧ w'.cell? ⟨wr.heap.size, 1, none⟩ = some (.int .i64 z.x) ∧ w'.cell? ⟨wr.heap.size, 2, none⟩ = some (.int .i64 z.y) ∧ w'.cell? ⟨wr.heap.size, 3, none⟩ = some (.int .i64 z.z) ∧ w'.cell? ⟨wr.heap.size, 4, none⟩ = some (.string z.nm) ∧ w'.cell? ⟨wr.heap.size, 5, none⟩ = some (.string z.v))) := fun w' hw' => by
          have h7 := (hw'.block _ hl5).trans hb5
          refine ⟨?_, ?_, ?_, ?_, ?_, ?_⟩ <;> simp [World.cell?, h7]
        have HC7 : Hid (∀ w', Below w5.heap.size w5 w' → w'.cell? ⟨g7, k, none⟩ = some (.pointer (some ⟨r.b, 0, none⟩))) := fun w' hw' => by
          rw [hr]; exact H7 w' (hA5.trans (hw'.mono hA5.size)) k hkl
        have HC8 : Hid (∀ w', Below w5.heap.size w5 w' → w'.cell? ⟨g8, k, none⟩ = some (.pointer (some ⟨r.c, 0, none⟩))) := fun w' hw' => by
          rw [hr]; exact H8 w' (hA5.trans (hw'.mono hA5.size)) k hkl
        have HS5 := hid_mk (HS.out.keep hA5)
        have HW5 := hid_mk hw5
        have HN := hid_mk hn
        clear q0 q1 q2 q3 q4 q5 hA5 hb5 hl5 HS hw5 H7 H8 hrok hr hk hkl hn
        go_upto_region 13 with (fail)
        rw [← HW5.out]
        clear c0 c1 c2 c3 c4 c5 HW5
        have gd : Below w5.heap.size w5 w5.drew := (Below.refl _ _).drew
        have hact := HACT.out _ gd
        unfold ActP at hact
        go_region_held3 (fun w' => w'.cell? ⟨g7, k, none⟩ = some (.pointer (some ⟨r.b, 0, none⟩)) ∧ (w'.cell? ⟨wr.heap.size, 0, none⟩ = some (.int .i64 z.k) ∧ w'.cell? ⟨wr.heap.size, 1, none⟩ = some (.int .i64 z.x) ∧ w'.cell? ⟨wr.heap.size, 2, none⟩ = some (.int .i64 z.y) ∧ w'.cell? ⟨wr.heap.size, 3, none⟩ = some (.int .i64 z.z) ∧ w'.cell? ⟨wr.heap.size, 4, none⟩ = some (.string z.nm) ∧ w'.cell? ⟨wr.heap.size, 5, none⟩ = some (.string z.v)))
          (first | with_reducible exact ⟨HC7.out _ gd, HF.out _ gd⟩ | with_reducible exact ⟨HC7.out _ HB6.out, HF.out _ HB6.out⟩)
          (first
            | (go_at_call 13; with_reducible refine hact.mono ?_; rintro e w6 ⟨b6, m6, nx6, rid6, err6, rfl, hR6, hT6, hd6, hn6, hn6', hB6⟩; have HB6 := hid_mk (gd.trans (hB6.mono gd.size)); have HT6 := hid_mk hT6; have HR6 := hid_mk hR6; have HD6 := hid_mk hd6; have HNX := hid_mk hn6'; clear hT6 hR6 hd6 hB6))
        clear hact HACT gd
        have ge : Below w6.heap.size w6 w6.drew := (Below.refl _ _).drew
        have HB6d := hid_mk (HB6.out.trans (ge.mono HB6.out.size))
        have hlk := HLK.out _ HB6d.out
        unfold LikP at hlk
        go_upto_region 14 with (fail)
        go_region_held3 (fun w' => w'.cell? ⟨g8, k, none⟩ = some (.pointer (some ⟨r.c, 0, none⟩)) ∧ (w'.cell? ⟨wr.heap.size, 0, none⟩ = some (.int .i64 z.k) ∧ w'.cell? ⟨wr.heap.size, 1, none⟩ = some (.int .i64 z.x) ∧ w'.cell? ⟨wr.heap.size, 2, none⟩ = some (.int .i64 z.y) ∧ w'.cell? ⟨wr.heap.size, 3, none⟩ = some (.int .i64 z.z) ∧ w'.cell? ⟨wr.heap.size, 4, none⟩ = some (.string z.nm) ∧ w'.cell? ⟨wr.heap.size, 5, none⟩ = some (.string z.v)))
          (first | with_reducible exact ⟨HC8.out _ HB6d.out, HF.out _ HB6d.out⟩ | with_reducible exact ⟨HC8.out _ HB7.out, HF.out _ HB7.out⟩)
          (first
            | (go_at_call 14; with_reducible refine hlk.mono ?_; rintro e w7 ⟨b7, L7, m7, nx7, rid7, err7, rfl, hR7, hT7, _, _, hB7⟩; have HB67 := hid_mk (ge.trans (hB7.mono ge.size)); have HB7 := hid_mk (HB6d.out.trans (hB7.mono HB6d.out.size)); have HT7 := hid_mk hT7; have HR7 := hid_mk hR7; clear hT7 hR7 hB7))
        obtain ⟨e1, e2, e3, e4⟩ := ActR.uniq HR6.out HR7.out
        subst e1 e2 e3 e4
        have HROK : Hid (Rec.ok w7 ⟨m6, nx6, L7, b6, b7⟩ ((i : Int) + 3)) := ⟨HT6.out.keep HB67.out, HT7.out, by have := HNX.out; show nx6 ≤ _; omega⟩
        have HS7 := hid_mk (HS5.out.keep HB7.out)
        have x7 := HC7.out _ HB7.out
        clear hlk HLK ge HB6d HF HC8 HC7 HT6 HT7 HR6 HR7 HB67 HB6 HS5 HNX
        obtain ⟨j25, i25, z25, s25, y25⟩ := info25p
        obtain ⟨j29, i29, z29, s29, y29⟩ := info29p
        have hpe : ∀ V : World, (binOp .neq 25 (.pointer (some ⟨r.b, 0, none⟩)) (.pointer (some ⟨r.b, 0, none⟩))).run Try.prog V = .ok (.bool false) V := fun V => ptr_neq V _
        go_upto_region 15 with (fail)
        go_cut [83] (fun s83 wx => s83 = .bool false ∧ wx = w7)
        case first =>
          by_cases herr : err6 = 0
          · have hne : (err6 != 0) = false := by simp [herr]
            clear herr hpe
            go_wp2_with fail
            go_meet
            exact ⟨rfl, rfl⟩
          · have hne : (err6 != 0) = true := by simp [herr]
            have hb6 : b6 = r.b := by have h := HD6.out herr; cases h; rfl
            subst hb6
            clear herr
            go_wp2_with fail
            go_meet
            exact ⟨rfl, rfl⟩
        case rest =>
        obtain ⟨rfl, hwc⟩ := hcut
        rw [hwc]
        clear hwc hpe x7 HD6
        obtain ⟨w8, hw8⟩ : ∃ w8, w8 = w7.alloc (.cells #[.pointer (some ⟨b6, 0, none⟩)] 25) := ⟨_, rfl⟩
        have hA8 : Below w7.heap.size w7 w8 := by rw [hw8]; exact (Below.refl _ _).alloc (Nat.le_refl _) _
        have hsr8 : w8.heap[w7.heap.size]? = some (.cells #[.pointer (some ⟨b6, 0, none⟩)] 25 (0, 0)) := by rw [hw8]; exact heap_alloc_last w7 _
        have hS8 := HS7.out.keep hA8
        have hpl : (pbs rs).length ≤ 1000 := by simp only [pbs, List.length_map]; have := HLN.out; omega
        have hpl2 : (pcs rs).length ≤ 1000 := by simp only [pcs, List.length_map]; have := HLN.out; omega
        have HW8 := hid_mk hw8
        have HA8 := hid_mk hA8
        clear hw8 hA8
        go_upto_region 17 with (fail)
        go_wp2_with (at_builtin; rw [← HW8.out]; with_reducible refine wpList_prow rfl _ _ 46 rfl (Or.inl rfl) Try.underlying46 i25 z25 s25 y25 hS8.olds hsr8 hpl hS8.hi rfl rfl ?_)
        intro v7' w9 hap
        obtain ⟨w10, hw10⟩ : ∃ w10, w10 = w9.alloc (.cells #[.pointer (some ⟨b7, 0, none⟩)] 29) := ⟨_, rfl⟩
        have hA10 : Below w9.heap.size w9 w10 := by rw [hw10]; exact (Below.refl _ _).alloc (Nat.le_refl _) _
        have hsr10 : w10.heap[w9.heap.size]? = some (.cells #[.pointer (some ⟨b7, 0, none⟩)] 29 (0, 0)) := by rw [hw10]; exact heap_alloc_last w9 _
        have hR10 := (hap.oth 29 _ _ (by decide) hS8.refs).keep hA10
        have hhi10 : B ≤ w10.heap.size := Nat.le_trans hS8.hi (Nat.le_trans hap.kp.size hA10.size)
        have HAP := hid_mk hap
        have HW10 := hid_mk hw10
        have HA10 := hid_mk hA10
        clear hap hw10 hA10 hS8 hsr8 HW8 hpl i25 z25 s25 y25
        go_wp2_with (at_builtin; rw [← HW10.out]; with_reducible refine wpList_prow rfl _ _ 47 rfl (Or.inr rfl) Try.underlying47 i29 z29 s29 y29 hR10 hsr10 hpl2 hhi10 rfl rfl ?_)
        intro v8' w11 hap2
        have HS11 : Hid (St W w11 B v7' v8' (rs ++ [⟨m6, nx6, L7, b6, b7⟩]) ((i : Int) + 3)) := St.more (St.mono HS7.out (by omega)) HROK.out HA8.out HAP.out HA10.out hap2
        clear hap2 HW10 hR10 hsr10 hhi10 i29 z29 s29 y29 HAP HA10 HA8 HS7 HROK hpl2
        go_wp2
        exact ⟨⟨i + 1, rs ++ [⟨m6, nx6, L7, b6, b7⟩], hlt, by go_num, by rw [Hid, List.length_append, HLN.out]; rfl, by rw [show (((i + 1 : Nat) : Int) + 2) = (i : Int) + 3 by omega]; exact HS11⟩, by simp only [intOf]; omega⟩
      · obtain rfl : i = xs.length := by omega
        obtain ⟨n, hn⟩ : ∃ n, n = xs.length + 1 := ⟨_, rfl⟩
        obtain ⟨g7, p7, e7, hc7, hm7, H7⟩ := HS.out.len7 (HLN.out.trans hn.symm)
        obtain ⟨g8, p8, e8, hc8, hm8, H8⟩ := HS.out.len8 (HLN.out.trans hn.symm)
        subst e7 e8
        have HLN2 : Hid (rs.length = n) := HLN.out.trans hn.symm
        have hn41 : n ≤ 41 := by omega
        clear HC HZ hn HLN H7 H8
        generalize ((xs.length : Int) + 2) = N at *
        go_wp2
        go_loopw [95] (fun a95 wq => ∃ t : Nat, t ≤ n ∧ a95 = .int .i64 (t : Int) ∧ Hid (St W wq B (.slice (some ⟨g7, 0, none⟩) n p7) (.slice (some ⟨g8, 0, none⟩) n p8) rs N)) (fun a95 _ => n + 1 - (intOf a95).toNat)
        case atStart => exact ⟨0, Nat.zero_le _, rfl, HS⟩
        case round =>
          obtain ⟨t, ht, rfl, HS2⟩ := hrel
          clear HS
          by_cases htl : t < n
          · have htr : t < rs.length := by rw [HLN2.out]; exact htl
            obtain ⟨r, hr⟩ : ∃ r, r = rs[t] := ⟨_, rfl⟩
            have hrok : r.ok wr N := HS2.out.all r (by rw [hr]; exact List.getElem_mem htr)
            obtain ⟨_, _, e7', _, _, H7⟩ := HS2.out.len7 HLN2.out
            obtain ⟨_, _, e8', _, _, H8⟩ := HS2.out.len8 HLN2.out
            cases e7'
            cases e8'
            have HC78 : Hid (∀ w', Below wr.heap.size wr w' → w'.cell? ⟨g7, t, none⟩ = some (.pointer (some ⟨r.b, 0, none⟩)) ∧ w'.cell? ⟨g8, t, none⟩ = some (.pointer (some ⟨r.c, 0, none⟩))) := fun w' hw' => by
              rw [hr]; exact ⟨H7 w' hw' t htr, H8 w' hw' t htr⟩
            have gd : Below wr.heap.size wr wr.drew := (Below.refl _ _).drew
            have hsm := rsame_yes (hrok.1.keep gd) (hrok.2.1.keep gd)
            have HKS : Hid (∀ w', Below wr.heap.size wr w' → Hid (St W w' B (.slice (some ⟨g7, 0, none⟩) n p7) (.slice (some ⟨g8, 0, none⟩) n p8) rs N)) := fun w' hw' => HS2.out.keep hw'
            clear H7 H8 hrok hr HS2 htr HLV
            go_upto_region 22 with (fail)
            go_region_held3 (fun w' => w'.cell? ⟨g7, t, none⟩ = some (.pointer (some ⟨r.b, 0, none⟩)) ∧ w'.cell? ⟨g8, t, none⟩ = some (.pointer (some ⟨r.c, 0, none⟩)))
              (first | with_reducible exact HC78.out _ gd | with_reducible exact HC78.out _ HBe.out)
              (first
                | (go_at_call 15; with_reducible refine hsm.mono ?_; rintro e w9 ⟨rfl, hB9⟩; have HBe := hid_mk (gd.trans (hB9.mono gd.size)); clear hB9))
            have HE := HKS.out _ HBe.out
            clear gd hsm HC78 HKS HBe
            go_wp2
            exact ⟨⟨t + 1, htl, by go_num, HE⟩, by simp only [intOf]; omega⟩
          · obtain rfl : t = n := by omega
            go_wp2_with (go_at_call 10; fail)
            refine (HLV.out wr).mono ?_
            rintro e w9 ⟨rfl, hB9⟩
            go_wp2
            go_ret
            exact ⟨rfl, HS2.out.bel.trans (hB9.mono HS2.out.bel.size)⟩
end Go.Proofs.Ytecbgleidohjpaa.N
