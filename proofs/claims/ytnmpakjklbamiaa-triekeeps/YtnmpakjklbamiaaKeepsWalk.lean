/- TrieKeeps: the walk. -/
import Derived.Test.YtnmpakjklbamiaaRefT
import Derived.Deep.RegionLaw
import Derived.Deep.AppendLies
namespace Go.Proofs.Ytnmpakjklbamiaa
open Go.RowKit S
set_option maxRecDepth 100000

theorem info25 : (Try.prog.info? 25).map (fun i => (i.zero, i.size, i.bytes)) = some (some (.pointer none), 1, 8) := by kernel_rfl
theorem info27 : (Try.prog.info? 27).map (fun i => (i.zero, i.size, i.bytes)) = some (some (.slice none 0 0), 1, 24) := by kernel_rfl
theorem cells3 {W : World} {b : Nat} {x y z : Value} (h : W.heap[b]? = some (.cells #[x, y, z] 29 (0, 0))) : W.cell? ⟨b, 0, none⟩ = some x ∧ W.cell? ⟨b, 1, none⟩ = some y ∧ W.cell? ⟨b, 2, none⟩ = some z := by
  refine ⟨?_, ?_, ?_⟩ <;> simp [World.cell?, h]
theorem news1 (w : World) (x : Value) (t : Nat) (j : Nat) (u : Value) (h : [x][j]? = some u) : (w.alloc (.cells #[x] t)).cell? ((⟨w.heap.size, 0, none⟩ : Addr).add j) = some u :=
  World.news_of_block (cs := #[x]) (t := t) (fr := (0, 0)) (heap_alloc_new w _) j u h
theorem own_one (w : World) (B e : Nat) (x : Value) (hB : B ≤ w.heap.size) : (w.alloc (.cells #[x] e)).ownsRow B e 1 (.slice (some ⟨w.heap.size, 0, none⟩) 1 1) 1 [x] :=
  ⟨rfl, .inr ⟨w.heap.size, 1, #[x], rfl, hB, heap_alloc_last w _, Nat.le_refl _, by decide, rfl, rfl⟩⟩
/-- What stands at a place of a row of one's own. -/
theorem own_at {w : World} {B e n : Nat} {v : Value} {xs : List Value} (h : w.ownsRow B e 1 v n xs) (h0 : 0 < n) : ∃ g cap, v = .slice (some ⟨g, 0, none⟩) n cap ∧ n ≤ cap ∧ cap ≤ 9223372036854775807 ∧ g < w.heap.size ∧ ∀ k (hk : k < xs.length), w.cell? ⟨g, k, none⟩ = some (xs[k]'hk) := by
  have hfull := h
  obtain ⟨hl, h⟩ := h
  rcases h with ⟨rfl, hn⟩ | ⟨g, cap, cur, rfl, _, hh, hnc, hcm, hsz, hx⟩
  · omega
  · refine ⟨g, cap, rfl, hnc, Nat.le_trans hcm (by decide), (Array.getElem?_eq_some_iff.1 hh).1, fun k hk => ?_⟩
    rw [hfull.cellAt k (by omega), List.getElem?_eq_getElem hk]
theorem rem_nat (i : Nat) : ((i : Int) * 7).tmod ((i : Int) + 1) = ((i * 7 % (i + 1) : Nat) : Int) := by
  norm_cast
/-- The row of tries has one more. -/
def AllGrown (W wA : World) (its : List It) (v4 : Value) (i : Nat) (L : List Pr) (s3 : Value) (wx : World) : Prop :=
  ∃ b3 t3, S.At wx (.pointer (some ⟨b3, 0, none⟩)) t3 ∧ Lk t3 L ∧ wx.ownsRow W.heap.size 25 1 s3 (i + 1 + 1) (its.map It.p ++ [.pointer (some ⟨b3, 0, none⟩)]) ∧ wx.ownsRow W.heap.size 27 1 v4 (i + 1) (its.map It.v) ∧ KT wA wx ∧ Below W.heap.size W wx
theorem all_grown {W wA w3 w5 : World} {its : List It} {v3 v4 : Value} {i : Nat} {L : List Pr} {b3 gx cap5 : Nat} {t3 : T} (hB : Below W.heap.size W wA) (hO3 : wA.ownsRow W.heap.size 25 1 v3 (i + 1) (its.map It.p)) (hO4 : wA.ownsRow W.heap.size 27 1 v4 (i + 1) (its.map It.v)) (h3 : Below wA.heap.size wA w3)
    (hT : S.At w3 (.pointer (some ⟨b3, 0, none⟩)) t3) (hL : Lk t3 L) (hown : w5.ownsRow W.heap.size 25 1 (.slice (some ⟨gx, 0, none⟩) (i + 1 + 1) cap5) (i + 1 + 1) (its.map It.p ++ [.pointer (some ⟨b3, 0, none⟩)])) (hgrow : (w3.alloc (.cells #[.pointer (some ⟨b3, 0, none⟩)] 25)).grownBy w5 v3.ownBlock) : AllGrown W wA its v4 i L (.slice (some ⟨gx, 0, none⟩) (i + 1 + 1) cap5) w5 := by
  have hal : Below w3.heap.size w3 (w3.alloc (.cells #[.pointer (some ⟨b3, 0, none⟩)] 25)) := balloc (Below.refl _ _) _
  have h3a := h3.trans (hal.mono h3.size)
  have hO3' := ownsRow_below hO3 h3a
  have hO4' := ownsRow_below hO4 h3a
  have hk := (KT.of_below hal).trans (KT.append hO3' (.inl rfl) hgrow)
  have hBa := hB.trans (h3a.mono hB.size)
  refine ⟨b3, t3, at_kt hT hk, hL, hown, row_stays hO3' hO4' (by decide) hgrow, (KT.of_below h3).trans hk, hBa.grown hgrow hBa.size (fun k e => (hO3'.lt k e).1)⟩
/-- The row of lists has one more. -/
def ListsGrown (W wx : World) (its : List It) (s3 : Value) (ps : List Value) (i : Nat) (L : List Pr) (s4 : Value) (wy : World) : Prop :=
  ∃ v', PsAt wy v' L ∧ PsTy wy v' ∧ wy.ownsRow W.heap.size 27 1 s4 (i + 1 + 1) (its.map It.v ++ [v']) ∧ wy.ownsRow W.heap.size 25 1 s3 (i + 1 + 1) ps ∧ KT wx wy ∧ Below W.heap.size W wy
theorem lists_grown {W wx w3 w5 : World} {its : List It} {s3 v4 v' : Value} {ps : List Value} {i : Nat} {L : List Pr} {gx cap5 : Nat} (hB : Below W.heap.size W wx) (hO3 : wx.ownsRow W.heap.size 25 1 s3 (i + 1 + 1) ps) (hO4 : wx.ownsRow W.heap.size 27 1 v4 (i + 1) (its.map It.v)) (h3 : Below wx.heap.size wx w3)
    (hP : PsAt w3 v' L) (hY : PsTy w3 v') (hown : w5.ownsRow W.heap.size 27 1 (.slice (some ⟨gx, 0, none⟩) (i + 1 + 1) cap5) (i + 1 + 1) (its.map It.v ++ [v'])) (hgrow : (w3.alloc (.cells #[v'] 27)).grownBy w5 v4.ownBlock) : ListsGrown W wx its s3 ps i L (.slice (some ⟨gx, 0, none⟩) (i + 1 + 1) cap5) w5 := by
  have hal : Below w3.heap.size w3 (w3.alloc (.cells #[v'] 27)) := balloc (Below.refl _ _) _
  have h3a := h3.trans (hal.mono h3.size)
  have hO3' := ownsRow_below hO3 h3a
  have hO4' := ownsRow_below hO4 h3a
  have hk := (KT.of_below hal).trans (KT.append hO4' (.inr rfl) hgrow)
  have hBa := hB.trans (h3a.mono hB.size)
  exact ⟨v', hP.kt hY hk, hY.kt hk, hown, row_stays hO4' hO3' (by decide) hgrow, (KT.of_below h3).trans hk, hBa.grown hgrow hBa.size (fun k e => (hO4'.lt k e).1)⟩
theorem push_all {W wc wy : World} {its : List It} {s3 s4 : Value} {i b3 : Nat} {t3 : T} {L : List Pr} (hil : its.length = i + 1) (h : ListsGrown W wc its s3 (its.map It.p ++ [.pointer (some ⟨b3, 0, none⟩)]) i L s4 wy) (hT : S.At wc (.pointer (some ⟨b3, 0, none⟩)) t3) (hL : Lk t3 L) (hG : ∀ x ∈ its, Good wc x) :
    ∃ its' : List It, its'.length = i + 1 + 1 ∧ wy.ownsRow W.heap.size 25 1 s3 its'.length (its'.map It.p) ∧ wy.ownsRow W.heap.size 27 1 s4 its'.length (its'.map It.v) ∧ (∀ x ∈ its', Good wy x) ∧ Below W.heap.size W wy := by
  obtain ⟨v', hP, hY, hO4, hO3, hk, hB⟩ := h
  have hl : (its ++ [(⟨b3, t3, v', L⟩ : It)]).length = i + 1 + 1 := by rw [List.length_append, hil]; rfl
  refine ⟨its ++ [⟨b3, t3, v', L⟩], hl, ?_, ?_, ?_, hB⟩
  · rw [hl, List.map_append]
    exact hO3
  · rw [hl, List.map_append]
    exact hO4
  · intro x hx
    rcases List.mem_append.1 hx with hx | hx
    · exact (hG x hx).kt hk
    · rw [List.mem_singleton.1 hx]
      exact ⟨at_kt hT hk, hL, hP, hY⟩
set_option maxHeartbeats 8000000 in
theorem keeps_walk {W : World} {v : Value} {xs : List Act3} (hp : ActsAt W v xs) : Calls Try.prog 4 #[v] W fun e w' => e = .returned (.bool true) ∧ Below W.heap.size W w' := by
  have hlight := light_any hp
  have hlives := fun w' => lives_any w'
  have HLV := hid_mk hlives
  have hnew := fun w' => S.new_any w'
  have HNEW := hid_mk hnew
  obtain ⟨a, cap, rfl, hcap, hmax, hx⟩ := hp
  obtain ⟨i25, hi25, hz25a, hz25b, hz25c⟩ := info_parts info25
  obtain ⟨i27, hi27, hz27a, hz27b, hz27c⟩ := info_parts info27
  have HX := hid_mk hx
  clear hx hlives hnew
  go_enter Try.func4, Try.ntmps4
  go_wp2_with (go_at_call 8; fail)
  refine hlight.mono ?_
  rintro e w1 ⟨lb, rfl, hB1⟩
  clear hlight
  cases lb with
  | false =>
    go_wp2_with (go_at_call 9; refine (HLV.out _).mono ?_; rintro e w2 ⟨rfl, hB2⟩)
    go_ret
    exact ⟨rfl, hB1.trans (hB2.mono hB1.size)⟩
  | true =>
    by_cases hbig : 40 < xs.length
    · go_wp2_with (go_at_call 9; refine (HLV.out _).mono ?_; rintro e w2 ⟨rfl, hB2⟩)
      go_ret
      exact ⟨rfl, hB1.trans (hB2.mono hB1.size)⟩
    · have hle : xs.length ≤ 40 := by omega
      go_wp2_with (go_at_call 10; refine (HNEW.out _).mono ?_; rintro e w2 ⟨b2, b0, rfl, _, _, hT2, hB2⟩)
      have hB02 := hB1.trans (hB2.mono hB1.size)
      have hs1 : (w2.alloc (.cells #[.pointer (some ⟨b2, 0, none⟩)] 25)).heap.size = w2.heap.size + 1 := by simp
      have hst : ∃ its : List It, its.length = 0 + 1 ∧ ((w2.alloc (.cells #[.pointer (some ⟨b2, 0, none⟩)] 25)).alloc (.cells #[.slice none 0 0] 27)).ownsRow W.heap.size 25 1 (.slice (some ⟨w2.heap.size, 0, none⟩) 1 1) its.length (its.map It.p) ∧ ((w2.alloc (.cells #[.pointer (some ⟨b2, 0, none⟩)] 25)).alloc (.cells #[.slice none 0 0] 27)).ownsRow W.heap.size 27 1 (.slice (some ⟨w2.heap.size + 1, 0, none⟩) 1 1) its.length (its.map It.v) ∧ (∀ x ∈ its, Good ((w2.alloc (.cells #[.pointer (some ⟨b2, 0, none⟩)] 25)).alloc (.cells #[.slice none 0 0] 27)) x) ∧ Below W.heap.size W ((w2.alloc (.cells #[.pointer (some ⟨b2, 0, none⟩)] 25)).alloc (.cells #[.slice none 0 0] 27)) := by
        have hbelow : Below w2.heap.size w2 ((w2.alloc (.cells #[.pointer (some ⟨b2, 0, none⟩)] 25)).alloc (.cells #[.slice none 0 0] 27)) := balloc (balloc (Below.refl _ _) _) _
        refine ⟨[⟨b2, newT b0, .slice none 0 0, []⟩], rfl, (own_one w2 _ 25 _ hB02.size).alloc _, ?_, ?_, hB02.trans (hbelow.mono hB02.size)⟩
        · have := own_one (w2.alloc (.cells #[.pointer (some ⟨b2, 0, none⟩)] 25)) W.heap.size 27 (.slice none 0 0) (by rw [hs1]; have := hB02.size; omega)
          rw [hs1] at this
          exact this
        · intro x hx
          rw [List.mem_singleton.1 hx]
          exact ⟨TrAt.keep hT2 hbelow, Lk.new b0, PsAt.nil _, PsTy.nil _⟩
      have HST := hid_mk hst
      clear hst hs1 hB02 hT2 hB1 hB2 HNEW
      go_wp2
      go_loopw [3, 4, 23] (fun a3 a4 a23 wr => ∃ (i : Nat) (its : List It), i ≤ xs.length ∧ its.length = i + 1 ∧ wr.ownsRow W.heap.size 25 1 a3 its.length (its.map It.p) ∧ wr.ownsRow W.heap.size 27 1 a4 its.length (its.map It.v) ∧ (∀ x ∈ its, Good wr x) ∧ a23 = .int .i64 (i : Int) ∧ Below W.heap.size W wr) (fun _ _ a23 _ => xs.length + 1 - (intOf a23).toNat)
      case atStart =>
        obtain ⟨its, z1, z2, z3, z4, z5⟩ := HST.out
        exact ⟨0, its, Nat.zero_le _, z1, z2, z3, z4, rfl, z5⟩
      case round =>
        obtain ⟨i, its, hi, hil, hO3, hO4, hG, rfl, hB⟩ := hrel
        rw [hil] at hO3 hO4
        obtain ⟨g3, cap3, rfl, hc3a, hc3b, hg3, hat3⟩ := own_at hO3 (by omega)
        obtain ⟨g4, cap4, rfl, hc4a, hc4b, hg4, hat4⟩ := own_at hO4 (by omega)
        have HB := hid_mk hB
        have HG := hid_mk hG
        have HO3 := hid_mk hO3
        have HO4 := hid_mk hO4
        clear HST hO3 hO4 hG hB
        by_cases hlt : i < xs.length
        · obtain ⟨b, off, rfl, hblt, hc⟩ := HX.out (by omega)
          obtain ⟨h0, h1, h2, hsz⟩ := hc i hlt
          have c0 := (HB.out.cell (p := ⟨b, off + i * 3, none⟩) hblt).trans h0
          have c1 := (HB.out.cell (p := ⟨b, off + i * 3 + 1, none⟩) hblt).trans h1
          have c2 := (HB.out.cell (p := ⟨b, off + i * 3 + 2, none⟩) hblt).trans h2
          clear h0 h1 h2 hc HX hsz
          generalize xs[i].d = d at *
          generalize xs[i].n = n at *
          generalize xs[i].s = s at *
          have hrem := rem_nat i
          have hkl : i * 7 % (i + 1) < i + 1 := Nat.mod_lt _ (by omega)
          generalize i * 7 % (i + 1) = k at *
          have hk : k < its.length := by omega
          have e3 := hat3 k (by simpa using hk)
          have e4 := hat4 k (by simpa using hk)
          rw [List.getElem_map] at e3 e4
          have hGk := HG.out its[k] (List.getElem_mem hk)
          obtain ⟨x, hxk⟩ : ∃ x, its[k] = x := ⟨_, rfl⟩
          rw [hxk] at e3 e4 hGk
          have HXK := hid_mk hxk
          clear hxk
          obtain ⟨wA, hwA⟩ : ∃ wA, wA = wr.alloc (.cells #[.bool d, .int .i64 n, .string s] 29) := ⟨_, rfl⟩
          have hBA : Below wr.heap.size wr wA := by rw [hwA]; exact balloc (Below.refl _ _) _
          have hnA : wA.heap[wr.heap.size]? = some (.cells #[.bool d, .int .i64 n, .string s] 29) := by rw [hwA]; exact heap_alloc_last _ _
          have HNA := hid_mk hnA
          have HWA := hid_mk hwA.symm
          have HGA : Hid (∀ x ∈ its, Good wA x) := fun x hx => (HG.out x hx).kt (KT.of_below hBA)
          have HGK := hid_mk (hGk.kt (KT.of_below hBA))
          have HO3A := hid_mk (ownsRow_below HO3.out hBA)
          have HO4A := hid_mk (ownsRow_below HO4.out hBA)
          have HBA := hid_mk (HB.out.trans (hBA.mono HB.out.size))
          have e3A := (hBA.cell (p := ⟨g3, k, none⟩) hg3).trans e3
          have e4A := (hBA.cell (p := ⟨g4, k, none⟩) hg4).trans e4
          obtain ⟨d0, d1, d2⟩ := cells3 hnA
          have hszA : wr.heap.size ≤ wA.heap.size := hBA.size
          clear hwA hBA hnA e3 e4 hat3 hat4 HG HO3 HO4 HB hGk
          cases d with
          | true =>
            have HDR : Hid (∀ w', Below wA.heap.size wA w' → Calls Try.prog 11 #[.pointer (some ⟨x.b, 0, none⟩), .int .i64 n] w' fun e w'' => ∃ b' t', e = .returned (.pointer (some ⟨b', 0, none⟩)) ∧ S.At w'' (.pointer (some ⟨b', 0, none⟩)) t' ∧ Lk t' (dropZ x.l n) ∧ Below wA.heap.size wA w'') := fun w' hw' => (drop_c (TrAt.keep HGK.out.lies hw') n).mono fun e w'' ⟨tp', t', he, hT', hN', hG', _, _, _, hB'⟩ => by
              have hL' := HGK.out.lk.drop (hN' HGK.out.lk.root) hG'
              obtain ⟨b', rfl⟩ := root_ptr hT' hL'.root
              exact ⟨b', t', he, hT', hL', hw'.trans (hB'.mono hw'.size)⟩
            have e3B : wA.cell? ⟨g3, k, none⟩ = some (.pointer (some ⟨x.b, 0, none⟩)) := e3A
            have gd : Below wA.heap.size wA wA.drew := below_drew _ _
            have hkI : (k : Int) < (i : Int) + 1 := by omega
            have hk0 : (0 : Int) ≤ (k : Int) := by omega
            have hmx : i + 1 + 1 ≤ maxLen := by unfold maxLen; omega
            have hwsz := HBA.out.size
            clear e3A
            go_upto_region 10 with fail
            rw [HWA.out]
            go_cut [3] (fun s3 wx => AllGrown W wA its (.slice (some ⟨g4, 0, none⟩) (i + 1) cap4) i (dropZ x.l n) s3 wx)
            case first =>
              go_region_law (first
                | (go_simp; go_at_call 11; refine (HDR.out _ ?_).mono ?_; assumption; rintro e w3 ⟨b3, t3, rfl, hT3, hL3, gg3⟩)
                | (refine step_append_lies _ (by rfl) _ _ _ (by rfl) W.heap.size 25 i25 _ 1 8 Try.underlying40 hi25 hz25a hz25b hz25c rfl (by omega) _ (i + 1) (its.map It.p) (by rfl) ((ownsRow_below HO3A.out gg3).alloc _) ⟨w3.heap.size, 0, none⟩ 1 1 [.pointer (some ⟨b3, 0, none⟩)] (by rfl) (by rfl) (news1 w3 _ 25) (by simp [Value.oneCell']) (by omega) hmx (by omega) (by have := gg3.size; simp; omega) (w3.heap.size + 1) (by simp) ?_; intro gx cap5 w5 hown5 hgrow5 hgat5 hglt5))
              all_goals
                go_wp2_with fail
                go_meet
                exact all_grown HBA.out HO3A.out HO4A.out gg3 hT3 hL3 hown5 hgrow5
            case rest =>
            obtain ⟨b3, t3, hT3, hL3, hR3, hR4, hKA, hBx⟩ := hcut
            obtain ⟨g5, cap5, rfl, hc5a, hc5b, hg5, _⟩ := own_at hR3 (by omega)
            obtain ⟨g6, cap6, ev6, _, _, hg6, hat6⟩ := own_at hR4 (by omega)
            obtain ⟨rfl, rfl⟩ : g4 = g6 ∧ cap4 = cap6 := by
              injection ev6 with e1 _ e2
              injection e1 with e1
              injection e1 with e1
              exact ⟨e1, e2⟩
            have e4X := hat6 k (by simpa using hk)
            rw [List.getElem_map] at e4X
            have e4Y : wc.cell? ⟨g4, k, none⟩ = some x.v := e4X.trans (congrArg (fun y : It => some y.v) HXK.out)
            obtain ⟨f0, f1, f2⟩ := cells3 (hKA.cells _ _ _ _ HNA.out (by decide) (by decide))
            have HGX := hid_mk (HGK.out.kt hKA)
            have HRD : Hid (∀ w', Below wc.heap.size wc w' → Calls Try.prog 12 #[x.v, .int .i64 n] w' fun e w'' => ∃ v', e = .returned v' ∧ PsAt w'' v' (dropZ x.l n) ∧ PsTy w'' v' ∧ Below wc.heap.size wc w'') := fun w' hw' => (rdrop_ty (HGX.out.ps.keep hw') (HGX.out.lk.short HGX.out.lies.wf) n).mono fun e w'' ⟨v', he, h1, h2, h3⟩ => ⟨v', he, h1, h2, hw'.trans (h3.mono hw'.size)⟩
            have gd5 : Below wc.heap.size wc wc.drew := below_drew _ _
            have HT3 := hid_mk hT3
            have HL3 := hid_mk hL3
            have HR3 := hid_mk hR3
            have HR4 := hid_mk hR4
            have HKA := hid_mk hKA
            have HBx := hid_mk hBx
            have hwszx := hBx.size
            clear hT3 hL3 hR3 hR4 hKA hBx hat6 e4X ev6 e3B e4A d0 d1 d2 gd HDR
            have HGC : Hid (∀ x ∈ its, Good wc x) := fun x hx => (HGA.out x hx).kt HKA.out
            go_upto_region 11 with fail
            go_region_law (first
              | (go_simp; go_at_call 12; refine (HRD.out _ ?_).mono ?_; assumption; rintro e w3 ⟨v3, rfl, hP3, hY3, gg3⟩; obtain ⟨av, capv, rfl, _⟩ := id hP3)
              | (refine step_append_lies _ (by rfl) _ _ _ (by rfl) W.heap.size 27 i27 _ 1 24 Try.underlying41 hi27 hz27a hz27b hz27c rfl (by omega) _ (i + 1) (its.map It.v) (by rfl) ((ownsRow_below HR4.out gg3).alloc _) ⟨w3.heap.size, 0, none⟩ 1 1 [.slice av (dropZ x.l n).length capv] (by rfl) (by rfl) (news1 w3 _ 27) (by simp [Value.oneCell']) (by omega) hmx (by omega) (by have := gg3.size; simp; omega) (w3.heap.size + 1) (by simp) ?_; intro gx cap7 w7 hown7 hgrow7 hgat7 hglt7))
            all_goals
              have HLG := hid_mk (push_all hil (lists_grown HBx.out HR3.out HR4.out gg3 hP3 hY3 hown7 hgrow7) HT3.out HL3.out HGC.out)
              clear hP3 hY3 hown7 hgrow7 gg3
              go_wp2
              obtain ⟨its', y1, y2, y3, y4, y5⟩ := HLG.out
              exact ⟨⟨i + 1, its', by omega, y1, y2, y3, y4, rfl, y5⟩, by simp only [intOf]; omega⟩
          | false =>
            obtain ⟨L', hL'e⟩ : ∃ L', L' = if inR n then putGo n s x.l false else x.l := ⟨_, rfl⟩
            have HLE := hid_mk hL'e
            clear hL'e
            have HDR : Hid (∀ w', Below wA.heap.size wA w' → Calls Try.prog 13 #[.pointer (some ⟨x.b, 0, none⟩), .int .i64 n, .string s] w' fun e w'' => ∃ b' t', e = .returned (.pointer (some ⟨b', 0, none⟩)) ∧ S.At w'' (.pointer (some ⟨b', 0, none⟩)) t' ∧ Lk t' L' ∧ Below wA.heap.size wA w'') := fun w' hw' => (put_c (TrAt.keep HGK.out.lies hw') n s).mono fun e w'' ⟨tp', t', he, hT', hN', hG', _, hsame, hB'⟩ => by
              have hL' : Lk t' L' := by
                rw [HLE.out]
                by_cases hn : inR n
                · rw [if_pos hn]
                  exact HGK.out.lk.put hn (hN' HGK.out.lk.root) hG'
                · rw [if_neg hn, (hsame hn).2]
                  exact HGK.out.lk
              obtain ⟨b', rfl⟩ := root_ptr hT' hL'.root
              exact ⟨b', t', he, hT', hL', hw'.trans (hB'.mono hw'.size)⟩
            have e3B : wA.cell? ⟨g3, k, none⟩ = some (.pointer (some ⟨x.b, 0, none⟩)) := e3A
            have gd : Below wA.heap.size wA wA.drew := below_drew _ _
            have hkI : (k : Int) < (i : Int) + 1 := by omega
            have hk0 : (0 : Int) ≤ (k : Int) := by omega
            have hmx : i + 1 + 1 ≤ maxLen := by unfold maxLen; omega
            have hwsz := HBA.out.size
            clear e3A
            go_upto_region 12 with fail
            rw [HWA.out]
            go_cut [3] (fun s3 wx => AllGrown W wA its (.slice (some ⟨g4, 0, none⟩) (i + 1) cap4) i L' s3 wx)
            case first =>
              go_region_law (first
                | (go_simp; go_at_call 13; refine (HDR.out _ ?_).mono ?_; assumption; rintro e w3 ⟨b3, t3, rfl, hT3, hL3, gg3⟩)
                | (refine step_append_lies _ (by rfl) _ _ _ (by rfl) W.heap.size 25 i25 _ 1 8 Try.underlying40 hi25 hz25a hz25b hz25c rfl (by omega) _ (i + 1) (its.map It.p) (by rfl) ((ownsRow_below HO3A.out gg3).alloc _) ⟨w3.heap.size, 0, none⟩ 1 1 [.pointer (some ⟨b3, 0, none⟩)] (by rfl) (by rfl) (news1 w3 _ 25) (by simp [Value.oneCell']) (by omega) hmx (by omega) (by have := gg3.size; simp; omega) (w3.heap.size + 1) (by simp) ?_; intro gx cap5 w5 hown5 hgrow5 hgat5 hglt5))
              all_goals
                go_wp2_with fail
                go_meet
                exact all_grown HBA.out HO3A.out HO4A.out gg3 hT3 hL3 hown5 hgrow5
            case rest =>
            obtain ⟨b3, t3, hT3, hL3, hR3, hR4, hKA, hBx⟩ := hcut
            obtain ⟨g5, cap5, rfl, hc5a, hc5b, hg5, _⟩ := own_at hR3 (by omega)
            obtain ⟨g6, cap6, ev6, _, _, hg6, hat6⟩ := own_at hR4 (by omega)
            obtain ⟨rfl, rfl⟩ : g4 = g6 ∧ cap4 = cap6 := by
              injection ev6 with e1 _ e2
              injection e1 with e1
              injection e1 with e1
              exact ⟨e1, e2⟩
            have e4X := hat6 k (by simpa using hk)
            rw [List.getElem_map] at e4X
            have e4Y : wc.cell? ⟨g4, k, none⟩ = some x.v := e4X.trans (congrArg (fun y : It => some y.v) HXK.out)
            obtain ⟨f0, f1, f2⟩ := cells3 (hKA.cells _ _ _ _ HNA.out (by decide) (by decide))
            have HGX := hid_mk (HGK.out.kt hKA)
            have HRD : Hid (∀ w', Below wc.heap.size wc w' → Calls Try.prog 14 #[x.v, .int .i64 n, .string s] w' fun e w'' => ∃ v', e = .returned v' ∧ PsAt w'' v' L' ∧ PsTy w'' v' ∧ Below wc.heap.size wc w'') := fun w' hw' => by
              rw [HLE.out]
              by_cases hn : inR n
              · rw [if_pos hn]
                exact (rput_ty (HGX.out.ps.keep hw') (HGX.out.lk.short HGX.out.lies.wf) n s hn).mono fun e w'' ⟨v', he, h1, h2, h3⟩ => ⟨v', he, h1, h2, hw'.trans (h3.mono hw'.size)⟩
              · rw [if_neg hn]
                exact (rput_out w' x.v n s hn).mono fun e w'' ⟨he, hw⟩ => ⟨x.v, he, by rw [hw]; exact HGX.out.ps.keep hw', by rw [hw]; exact HGX.out.ty.kt (KT.of_below hw'), by rw [hw]; exact hw'⟩
            have gd5 : Below wc.heap.size wc wc.drew := below_drew _ _
            have HT3 := hid_mk hT3
            have HL3 := hid_mk hL3
            have HR3 := hid_mk hR3
            have HR4 := hid_mk hR4
            have HKA := hid_mk hKA
            have HBx := hid_mk hBx
            have hwszx := hBx.size
            clear hT3 hL3 hR3 hR4 hKA hBx hat6 e4X ev6 e3B e4A d0 d1 d2 gd HDR
            have HGC : Hid (∀ x ∈ its, Good wc x) := fun x hx => (HGA.out x hx).kt HKA.out
            go_upto_region 13 with fail
            go_region_law (first
              | (go_simp; go_at_call 14; refine (HRD.out _ ?_).mono ?_; assumption; rintro e w3 ⟨v3, rfl, hP3, hY3, gg3⟩; obtain ⟨av, capv, rfl, _⟩ := id hP3)
              | (refine step_append_lies _ (by rfl) _ _ _ (by rfl) W.heap.size 27 i27 _ 1 24 Try.underlying41 hi27 hz27a hz27b hz27c rfl (by omega) _ (i + 1) (its.map It.v) (by rfl) ((ownsRow_below HR4.out gg3).alloc _) ⟨w3.heap.size, 0, none⟩ 1 1 [.slice av L'.length capv] (by rfl) (by rfl) (news1 w3 _ 27) (by simp [Value.oneCell']) (by omega) hmx (by omega) (by have := gg3.size; simp; omega) (w3.heap.size + 1) (by simp) ?_; intro gx cap7 w7 hown7 hgrow7 hgat7 hglt7))
            all_goals
              have HLG := hid_mk (push_all hil (lists_grown HBx.out HR3.out HR4.out gg3 hP3 hY3 hown7 hgrow7) HT3.out HL3.out HGC.out)
              clear hP3 hY3 hown7 hgrow7 gg3
              go_wp2
              obtain ⟨its', y1, y2, y3, y4, y5⟩ := HLG.out
              exact ⟨⟨i + 1, its', by omega, y1, y2, y3, y4, rfl, y5⟩, by simp only [intOf]; omega⟩
        · obtain rfl : i = xs.length := by omega
          clear HX hlt
          obtain ⟨w0, rfl⟩ : ∃ w0, w0 = wr := ⟨_, rfl⟩
          go_wp2
          go_loopw [82] (fun a82 wr' => ∃ j : Nat, j ≤ its.length ∧ a82 = .int .i64 (j : Int) ∧ Below w0.heap.size w0 wr') (fun a82 _ => its.length + 1 - (intOf a82).toNat)
          case atStart => exact ⟨0, Nat.zero_le _, rfl, Below.refl _ _⟩
          case round =>
            obtain ⟨j, hj, rfl, hBj⟩ := hrel
            have HBJ := hid_mk hBj
            by_cases hlt : j < its.length
            · have e3 := hat3 j (by simpa using hlt)
              have e4 := hat4 j (by simpa using hlt)
              rw [List.getElem_map] at e3 e4
              have hGk := HG.out its[j] (List.getElem_mem hlt)
              obtain ⟨x, hxk⟩ : ∃ x, its[j] = x := ⟨_, rfl⟩
              rw [hxk] at e3 e4 hGk
              have HGK := hid_mk hGk
              have HF : Hid (∀ w', Below w0.heap.size w0 w' → w'.cell? ⟨g3, j, none⟩ = some (.pointer (some ⟨x.b, 0, none⟩)) ∧ w'.cell? ⟨g4, j, none⟩ = some x.v) := fun w' hw' => ⟨(hw'.cell (p := ⟨g3, j, none⟩) hg3).trans e3, (hw'.cell (p := ⟨g4, j, none⟩) hg4).trans e4⟩
              have HSM : Hid (∀ w', Below w0.heap.size w0 w' → Calls Try.prog 17 #[.pointer (some ⟨x.b, 0, none⟩), x.v, .int .i64 (-1)] w' fun e w'' => e = .returned (.bool true) ∧ Below w0.heap.size w0 w'') := fun w' hw' => (same_yes (TrAt.keep HGK.out.lies hw') HGK.out.lk (HGK.out.ps.keep hw') (-1)).mono fun e w'' ⟨he, hb⟩ => ⟨he, hw'.trans (hb.mono hw'.size)⟩
              have gd : Below w0.heap.size w0 wr.drew := hBj.trans ((below_drew _ wr).mono (Nat.le_refl _))
              have hjI : (j : Int) < (xs.length : Int) + 1 := by omega
              have hj0 : (0 : Int) ≤ (j : Int) := by omega
              clear hxk hGk e3 e4 hBj
              go_wp2
              go_region_held3 (fun w' => w'.cell? ⟨g3, j, none⟩ = some (.pointer (some ⟨x.b, 0, none⟩)) ∧ w'.cell? ⟨g4, j, none⟩ = some x.v) (first | exact HF.out _ (by assumption)) (first
                | (go_at_call 17; refine (HSM.out _ ?_).mono ?_; assumption; rintro e w5 ⟨rfl, g5⟩))
              all_goals
                go_wp2
                exact ⟨⟨j + 1, by omega, rfl, g5⟩, by simp only [intOf]; omega⟩
            · obtain rfl : j = its.length := by omega
              have hB0j := HB.out.trans (HBJ.out.mono HB.out.size)
              go_wp2_with (go_at_call 9; refine (HLV.out _).mono ?_; rintro e w5 ⟨rfl, hB5⟩)
              go_ret
              exact ⟨rfl, hB0j.trans (hB5.mono hB0j.size)⟩

end Go.Proofs.Ytnmpakjklbamiaa
