/- Source of a sign. Source of a sign, and of a Dimension whose number is long. -/
import Derived.Test.YtbfgnfcecfjlnaaDoorSources
namespace Go.Proofs.YtbfgnfcecfjlnaaDoor
open Go.RowKit

def signL (k : Int) : Int := if k = 16 then 58 else if k = 17 then 59 else if k = 18 then 44 else if k = 19 then 91 else if k = 20 then 93 else if k = 21 then 40 else if k = 22 then 41 else if k = 23 then 123 else 125
theorem wr_drewN {w : World} {b : Nat} {ns : List Int} (h : Wr b ns w) (h0 : 0 < b) (n : Nat) : Wr b ns (w.drewN n) := wr_kept h (Kept.drewN 0 w n) h0
theorem below_drewN (B : Nat) (w : World) (n : Nat) : Below B w (w.drewN n) := ⟨rfl, rfl, rfl, Nat.le_refl _, fun _ _ => rfl⟩

set_option maxHeartbeats 1000000 in
theorem sign_16 (b : Nat) (w : World) (h : Wr b [] w) (h0 : 0 < b) :
    Calls Tryd.prog 26 #[.pointer (some ⟨b, 0, none⟩), .int .i64 16] w fun e w' => e = .returned (.tuple #[]) ∧ Wr b [58] w' ∧ Below b w w' := by
  have hby : ∀ m, Calls Tryd.prog 22 #[.pointer (some ⟨b, 0, none⟩), .int .u8 58] (w.drewN m) fun e w' => e = .returned .nilIface ∧ Wr b [58] w' ∧ Below b w w' := by
    intro m
    refine (wr_byte_k b [] 58 (by omega) (w.drewN m) (wr_drewN h h0 m) (by simp)).mono ?_
    rintro e w' ⟨he, h1, h2, _⟩
    exact ⟨he, h1, (below_drewN b w m).trans h2⟩
  go_enter Tryd.func26, Tryd.ntmps26
  go_wp2
  go_region_with (go_at_call 22; refine (hby _).mono ?_; rintro e w2 ⟨rfl, h2, b2⟩)
  go_wp2
  go_end0
  exact ⟨rfl, h2, b2⟩

set_option maxHeartbeats 1000000 in
theorem sign_17 (b : Nat) (w : World) (h : Wr b [] w) (h0 : 0 < b) :
    Calls Tryd.prog 26 #[.pointer (some ⟨b, 0, none⟩), .int .i64 17] w fun e w' => e = .returned (.tuple #[]) ∧ Wr b [59] w' ∧ Below b w w' := by
  have hby : ∀ m, Calls Tryd.prog 22 #[.pointer (some ⟨b, 0, none⟩), .int .u8 59] (w.drewN m) fun e w' => e = .returned .nilIface ∧ Wr b [59] w' ∧ Below b w w' := by
    intro m
    refine (wr_byte_k b [] 59 (by omega) (w.drewN m) (wr_drewN h h0 m) (by simp)).mono ?_
    rintro e w' ⟨he, h1, h2, _⟩
    exact ⟨he, h1, (below_drewN b w m).trans h2⟩
  go_enter Tryd.func26, Tryd.ntmps26
  go_wp2
  go_region_with (go_at_call 22; refine (hby _).mono ?_; rintro e w2 ⟨rfl, h2, b2⟩)
  go_wp2
  go_end0
  exact ⟨rfl, h2, b2⟩

set_option maxHeartbeats 1000000 in
theorem sign_18 (b : Nat) (w : World) (h : Wr b [] w) (h0 : 0 < b) :
    Calls Tryd.prog 26 #[.pointer (some ⟨b, 0, none⟩), .int .i64 18] w fun e w' => e = .returned (.tuple #[]) ∧ Wr b [44] w' ∧ Below b w w' := by
  have hby : ∀ m, Calls Tryd.prog 22 #[.pointer (some ⟨b, 0, none⟩), .int .u8 44] (w.drewN m) fun e w' => e = .returned .nilIface ∧ Wr b [44] w' ∧ Below b w w' := by
    intro m
    refine (wr_byte_k b [] 44 (by omega) (w.drewN m) (wr_drewN h h0 m) (by simp)).mono ?_
    rintro e w' ⟨he, h1, h2, _⟩
    exact ⟨he, h1, (below_drewN b w m).trans h2⟩
  go_enter Tryd.func26, Tryd.ntmps26
  go_wp2
  go_region_with (go_at_call 22; refine (hby _).mono ?_; rintro e w2 ⟨rfl, h2, b2⟩)
  go_wp2
  go_end0
  exact ⟨rfl, h2, b2⟩

set_option maxHeartbeats 1000000 in
theorem sign_19 (b : Nat) (w : World) (h : Wr b [] w) (h0 : 0 < b) :
    Calls Tryd.prog 26 #[.pointer (some ⟨b, 0, none⟩), .int .i64 19] w fun e w' => e = .returned (.tuple #[]) ∧ Wr b [91] w' ∧ Below b w w' := by
  have hby : ∀ m, Calls Tryd.prog 22 #[.pointer (some ⟨b, 0, none⟩), .int .u8 91] (w.drewN m) fun e w' => e = .returned .nilIface ∧ Wr b [91] w' ∧ Below b w w' := by
    intro m
    refine (wr_byte_k b [] 91 (by omega) (w.drewN m) (wr_drewN h h0 m) (by simp)).mono ?_
    rintro e w' ⟨he, h1, h2, _⟩
    exact ⟨he, h1, (below_drewN b w m).trans h2⟩
  go_enter Tryd.func26, Tryd.ntmps26
  go_wp2
  go_region_with (go_at_call 22; refine (hby _).mono ?_; rintro e w2 ⟨rfl, h2, b2⟩)
  go_wp2
  go_end0
  exact ⟨rfl, h2, b2⟩

set_option maxHeartbeats 1000000 in
theorem sign_20 (b : Nat) (w : World) (h : Wr b [] w) (h0 : 0 < b) :
    Calls Tryd.prog 26 #[.pointer (some ⟨b, 0, none⟩), .int .i64 20] w fun e w' => e = .returned (.tuple #[]) ∧ Wr b [93] w' ∧ Below b w w' := by
  have hby : ∀ m, Calls Tryd.prog 22 #[.pointer (some ⟨b, 0, none⟩), .int .u8 93] (w.drewN m) fun e w' => e = .returned .nilIface ∧ Wr b [93] w' ∧ Below b w w' := by
    intro m
    refine (wr_byte_k b [] 93 (by omega) (w.drewN m) (wr_drewN h h0 m) (by simp)).mono ?_
    rintro e w' ⟨he, h1, h2, _⟩
    exact ⟨he, h1, (below_drewN b w m).trans h2⟩
  go_enter Tryd.func26, Tryd.ntmps26
  go_wp2
  go_region_with (go_at_call 22; refine (hby _).mono ?_; rintro e w2 ⟨rfl, h2, b2⟩)
  go_wp2
  go_end0
  exact ⟨rfl, h2, b2⟩

set_option maxHeartbeats 1000000 in
theorem sign_21 (b : Nat) (w : World) (h : Wr b [] w) (h0 : 0 < b) :
    Calls Tryd.prog 26 #[.pointer (some ⟨b, 0, none⟩), .int .i64 21] w fun e w' => e = .returned (.tuple #[]) ∧ Wr b [40] w' ∧ Below b w w' := by
  have hby : ∀ m, Calls Tryd.prog 22 #[.pointer (some ⟨b, 0, none⟩), .int .u8 40] (w.drewN m) fun e w' => e = .returned .nilIface ∧ Wr b [40] w' ∧ Below b w w' := by
    intro m
    refine (wr_byte_k b [] 40 (by omega) (w.drewN m) (wr_drewN h h0 m) (by simp)).mono ?_
    rintro e w' ⟨he, h1, h2, _⟩
    exact ⟨he, h1, (below_drewN b w m).trans h2⟩
  go_enter Tryd.func26, Tryd.ntmps26
  go_wp2
  go_region_with (go_at_call 22; refine (hby _).mono ?_; rintro e w2 ⟨rfl, h2, b2⟩)
  go_wp2
  go_end0
  exact ⟨rfl, h2, b2⟩

set_option maxHeartbeats 1000000 in
theorem sign_22 (b : Nat) (w : World) (h : Wr b [] w) (h0 : 0 < b) :
    Calls Tryd.prog 26 #[.pointer (some ⟨b, 0, none⟩), .int .i64 22] w fun e w' => e = .returned (.tuple #[]) ∧ Wr b [41] w' ∧ Below b w w' := by
  have hby : ∀ m, Calls Tryd.prog 22 #[.pointer (some ⟨b, 0, none⟩), .int .u8 41] (w.drewN m) fun e w' => e = .returned .nilIface ∧ Wr b [41] w' ∧ Below b w w' := by
    intro m
    refine (wr_byte_k b [] 41 (by omega) (w.drewN m) (wr_drewN h h0 m) (by simp)).mono ?_
    rintro e w' ⟨he, h1, h2, _⟩
    exact ⟨he, h1, (below_drewN b w m).trans h2⟩
  go_enter Tryd.func26, Tryd.ntmps26
  go_wp2
  go_region_with (go_at_call 22; refine (hby _).mono ?_; rintro e w2 ⟨rfl, h2, b2⟩)
  go_wp2
  go_end0
  exact ⟨rfl, h2, b2⟩

set_option maxHeartbeats 1000000 in
theorem sign_23 (b : Nat) (w : World) (h : Wr b [] w) (h0 : 0 < b) :
    Calls Tryd.prog 26 #[.pointer (some ⟨b, 0, none⟩), .int .i64 23] w fun e w' => e = .returned (.tuple #[]) ∧ Wr b [123] w' ∧ Below b w w' := by
  have hby : ∀ m, Calls Tryd.prog 22 #[.pointer (some ⟨b, 0, none⟩), .int .u8 123] (w.drewN m) fun e w' => e = .returned .nilIface ∧ Wr b [123] w' ∧ Below b w w' := by
    intro m
    refine (wr_byte_k b [] 123 (by omega) (w.drewN m) (wr_drewN h h0 m) (by simp)).mono ?_
    rintro e w' ⟨he, h1, h2, _⟩
    exact ⟨he, h1, (below_drewN b w m).trans h2⟩
  go_enter Tryd.func26, Tryd.ntmps26
  go_wp2
  go_region_with (go_at_call 22; refine (hby _).mono ?_; rintro e w2 ⟨rfl, h2, b2⟩)
  go_wp2
  go_end0
  exact ⟨rfl, h2, b2⟩

set_option maxHeartbeats 1000000 in
theorem sign_24 (b : Nat) (w : World) (h : Wr b [] w) (h0 : 0 < b) :
    Calls Tryd.prog 26 #[.pointer (some ⟨b, 0, none⟩), .int .i64 24] w fun e w' => e = .returned (.tuple #[]) ∧ Wr b [125] w' ∧ Below b w w' := by
  have hby : ∀ m, Calls Tryd.prog 22 #[.pointer (some ⟨b, 0, none⟩), .int .u8 125] (w.drewN m) fun e w' => e = .returned .nilIface ∧ Wr b [125] w' ∧ Below b w w' := by
    intro m
    refine (wr_byte_k b [] 125 (by omega) (w.drewN m) (wr_drewN h h0 m) (by simp)).mono ?_
    rintro e w' ⟨he, h1, h2, _⟩
    exact ⟨he, h1, (below_drewN b w m).trans h2⟩
  go_enter Tryd.func26, Tryd.ntmps26
  go_wp2
  go_region_with (go_at_call 22; refine (hby _).mono ?_; rintro e w2 ⟨rfl, h2, b2⟩)
  go_wp2
  go_end0
  exact ⟨rfl, h2, b2⟩

end Go.Proofs.YtbfgnfcecfjlnaaDoor
namespace Go.Proofs.YtbfgnfcecfjlnaaDoor
open Go.RowKit

set_option maxHeartbeats 1000000 in
set_option maxRecDepth 100000 in
theorem source_dim2 (ds : List Int) (hds : ∀ n ∈ ds, 0 ≤ n ∧ n < 256) (hd0 : ds ≠ []) (hdl : ds.length ≤ 1000000000) (u : ByteArray) (hu : u.size ≤ 1000000000) (hu0 : 0 < u.size) (wh fl : Bool) (w : World) (ht : Tab w) (h3 : 3 < w.heap.size) :
    Calls Tryd.prog 13 #[.agg #[.int .i64 12, .string (strOfNums ds), .string u, .bool wh, .bool fl]] w fun e w' => e = .returned (.string (strOfNums (ds ++ unitL u))) ∧ Below w.heap.size w w' := by
  have hB1 : Below w.heap.size w ((w.alloc (.cells #[.int .i64 12, .string (strOfNums ds), .string u, .bool wh, .bool fl] 28)).alloc (.cells #[.pointer none, .slice none 0 0] 44)) := ((Below.refl _ w).alloc (Nat.le_refl _) _).alloc (by simp) _
  have hw := wr_new (w.alloc (.cells #[.int .i64 12, .string (strOfNums ds), .string u, .bool wh, .bool fl] 28))
  have e9 : (w.alloc (.cells #[.int .i64 12, .string (strOfNums ds), .string u, .bool wh, .bool fl] 28)).heap.size = w.heap.size + 1 := by simp
  rw [e9] at hw
  have ht0 : Tab ((w.alloc (.cells #[.int .i64 12, .string (strOfNums ds), .string u, .bool wh, .bool fl] 28)).alloc (.cells #[.pointer none, .slice none 0 0] 44)) := tab_below ht hB1 h3
  have hstr := wr_str_k (w.heap.size + 1) [] ds hds hd0 _ hw (by simp; omega)
  have hc2 : ((w.alloc (.cells #[.int .i64 12, .string (strOfNums ds), .string u, .bool wh, .bool fl] 28)).alloc (.cells #[.pointer none, .slice none 0 0] 44)).cell? ⟨w.heap.size, 2, none⟩ = some (.string u) := by
    have h := heap_alloc_new w (.cells #[.int .i64 12, .string (strOfNums ds), .string u, .bool wh, .bool fl] 28)
    have h2 := (Below.heap_alloc (w.alloc (.cells #[.int .i64 12, .string (strOfNums ds), .string u, .bool wh, .bool fl] 28)) (.cells #[.pointer none, .slice none 0 0] 44) w.heap.size (by simp)).trans h
    simp only [World.cell?, h2]
    rfl
  rw [List.nil_append] at hstr
  clear e9 hw
  go_enter Tryd.func13, Tryd.ntmps13
  go_wp2_with (go_at_call 24; fail)
  refine (hstr).mono ?_
  rintro e w1 ⟨⟨rn, rfl⟩, h1, b1, k1⟩
  have c2 := (b1.cell (p := ⟨w.heap.size, 2, none⟩) (by simp)).trans hc2
  have ht1 := tab_below ht0 b1 (by omega)
  have hun := unit_k (w.heap.size + 1) ds u hu hu0 w1 h1 ht1 (by omega) (by omega)
  clear hc2 hstr ht0
  go_wp2_with (go_at_call 25; fail)
  refine (hun).mono ?_
  rintro e w2 ⟨rfl, h2, b2, k2⟩
  go_wp2_with (go_at_call 20; fail)
  refine (wr_string (w.heap.size + 1) (ds ++ unitL u) w2 h2).mono ?_
  rintro e w3 ⟨rfl, b3⟩
  go_wp2
  go_ret
  exact ⟨rfl, hB1.trans ((b1.trans (b2.trans b3)).mono (by omega))⟩

section
variable (tx un : ByteArray) (wh fl : Bool) (w : World)

set_option maxHeartbeats 1000000 in
set_option maxRecDepth 100000 in
theorem source_16 (_hs : tx.size ≤ 1000000000) (ht : Tab w) (h3 : 3 < w.heap.size) :
    Calls Tryd.prog 13 #[.agg #[.int .i64 16, .string tx, .string un, .bool wh, .bool fl]] w fun e w' => e = .returned (.string (strOfNums ([58]))) ∧ Below w.heap.size w w' := by
  have hB1 : Below w.heap.size w ((w.alloc (.cells #[.int .i64 16, .string tx, .string un, .bool wh, .bool fl] 28)).alloc (.cells #[.pointer none, .slice none 0 0] 44)) := ((Below.refl _ w).alloc (Nat.le_refl _) _).alloc (by simp) _
  have hw := wr_new (w.alloc (.cells #[.int .i64 16, .string tx, .string un, .bool wh, .bool fl] 28))
  have e9 : (w.alloc (.cells #[.int .i64 16, .string tx, .string un, .bool wh, .bool fl] 28)).heap.size = w.heap.size + 1 := by simp
  rw [e9] at hw
  have ht0 : Tab ((w.alloc (.cells #[.int .i64 16, .string tx, .string un, .bool wh, .bool fl] 28)).alloc (.cells #[.pointer none, .slice none 0 0] 44)) := tab_below ht hB1 h3
  have hy := sign_16 (w.heap.size + 1) _ hw (by omega)
  clear e9 hw ht0
  go_enter Tryd.func13, Tryd.ntmps13
  go_wp2_with (go_at_call 26; fail)
  refine (hy).mono ?_
  rintro e w1 ⟨rfl, h2, b2⟩
  go_wp2_with (go_at_call 20; fail)
  refine (wr_string (w.heap.size + 1) ([58]) w1 h2).mono ?_
  rintro e w9 ⟨rfl, b9⟩
  go_wp2
  go_ret
  exact ⟨rfl, hB1.trans ((b2.trans b9).mono (by omega))⟩


set_option maxHeartbeats 1000000 in
set_option maxRecDepth 100000 in
theorem source_17 (_hs : tx.size ≤ 1000000000) (ht : Tab w) (h3 : 3 < w.heap.size) :
    Calls Tryd.prog 13 #[.agg #[.int .i64 17, .string tx, .string un, .bool wh, .bool fl]] w fun e w' => e = .returned (.string (strOfNums ([59]))) ∧ Below w.heap.size w w' := by
  have hB1 : Below w.heap.size w ((w.alloc (.cells #[.int .i64 17, .string tx, .string un, .bool wh, .bool fl] 28)).alloc (.cells #[.pointer none, .slice none 0 0] 44)) := ((Below.refl _ w).alloc (Nat.le_refl _) _).alloc (by simp) _
  have hw := wr_new (w.alloc (.cells #[.int .i64 17, .string tx, .string un, .bool wh, .bool fl] 28))
  have e9 : (w.alloc (.cells #[.int .i64 17, .string tx, .string un, .bool wh, .bool fl] 28)).heap.size = w.heap.size + 1 := by simp
  rw [e9] at hw
  have ht0 : Tab ((w.alloc (.cells #[.int .i64 17, .string tx, .string un, .bool wh, .bool fl] 28)).alloc (.cells #[.pointer none, .slice none 0 0] 44)) := tab_below ht hB1 h3
  have hy := sign_17 (w.heap.size + 1) _ hw (by omega)
  clear e9 hw ht0
  go_enter Tryd.func13, Tryd.ntmps13
  go_wp2_with (go_at_call 26; fail)
  refine (hy).mono ?_
  rintro e w1 ⟨rfl, h2, b2⟩
  go_wp2_with (go_at_call 20; fail)
  refine (wr_string (w.heap.size + 1) ([59]) w1 h2).mono ?_
  rintro e w9 ⟨rfl, b9⟩
  go_wp2
  go_ret
  exact ⟨rfl, hB1.trans ((b2.trans b9).mono (by omega))⟩


set_option maxHeartbeats 1000000 in
set_option maxRecDepth 100000 in
theorem source_18 (_hs : tx.size ≤ 1000000000) (ht : Tab w) (h3 : 3 < w.heap.size) :
    Calls Tryd.prog 13 #[.agg #[.int .i64 18, .string tx, .string un, .bool wh, .bool fl]] w fun e w' => e = .returned (.string (strOfNums ([44]))) ∧ Below w.heap.size w w' := by
  have hB1 : Below w.heap.size w ((w.alloc (.cells #[.int .i64 18, .string tx, .string un, .bool wh, .bool fl] 28)).alloc (.cells #[.pointer none, .slice none 0 0] 44)) := ((Below.refl _ w).alloc (Nat.le_refl _) _).alloc (by simp) _
  have hw := wr_new (w.alloc (.cells #[.int .i64 18, .string tx, .string un, .bool wh, .bool fl] 28))
  have e9 : (w.alloc (.cells #[.int .i64 18, .string tx, .string un, .bool wh, .bool fl] 28)).heap.size = w.heap.size + 1 := by simp
  rw [e9] at hw
  have ht0 : Tab ((w.alloc (.cells #[.int .i64 18, .string tx, .string un, .bool wh, .bool fl] 28)).alloc (.cells #[.pointer none, .slice none 0 0] 44)) := tab_below ht hB1 h3
  have hy := sign_18 (w.heap.size + 1) _ hw (by omega)
  clear e9 hw ht0
  go_enter Tryd.func13, Tryd.ntmps13
  go_wp2_with (go_at_call 26; fail)
  refine (hy).mono ?_
  rintro e w1 ⟨rfl, h2, b2⟩
  go_wp2_with (go_at_call 20; fail)
  refine (wr_string (w.heap.size + 1) ([44]) w1 h2).mono ?_
  rintro e w9 ⟨rfl, b9⟩
  go_wp2
  go_ret
  exact ⟨rfl, hB1.trans ((b2.trans b9).mono (by omega))⟩


set_option maxHeartbeats 1000000 in
set_option maxRecDepth 100000 in
theorem source_19 (_hs : tx.size ≤ 1000000000) (ht : Tab w) (h3 : 3 < w.heap.size) :
    Calls Tryd.prog 13 #[.agg #[.int .i64 19, .string tx, .string un, .bool wh, .bool fl]] w fun e w' => e = .returned (.string (strOfNums ([91]))) ∧ Below w.heap.size w w' := by
  have hB1 : Below w.heap.size w ((w.alloc (.cells #[.int .i64 19, .string tx, .string un, .bool wh, .bool fl] 28)).alloc (.cells #[.pointer none, .slice none 0 0] 44)) := ((Below.refl _ w).alloc (Nat.le_refl _) _).alloc (by simp) _
  have hw := wr_new (w.alloc (.cells #[.int .i64 19, .string tx, .string un, .bool wh, .bool fl] 28))
  have e9 : (w.alloc (.cells #[.int .i64 19, .string tx, .string un, .bool wh, .bool fl] 28)).heap.size = w.heap.size + 1 := by simp
  rw [e9] at hw
  have ht0 : Tab ((w.alloc (.cells #[.int .i64 19, .string tx, .string un, .bool wh, .bool fl] 28)).alloc (.cells #[.pointer none, .slice none 0 0] 44)) := tab_below ht hB1 h3
  have hy := sign_19 (w.heap.size + 1) _ hw (by omega)
  clear e9 hw ht0
  go_enter Tryd.func13, Tryd.ntmps13
  go_wp2_with (go_at_call 26; fail)
  refine (hy).mono ?_
  rintro e w1 ⟨rfl, h2, b2⟩
  go_wp2_with (go_at_call 20; fail)
  refine (wr_string (w.heap.size + 1) ([91]) w1 h2).mono ?_
  rintro e w9 ⟨rfl, b9⟩
  go_wp2
  go_ret
  exact ⟨rfl, hB1.trans ((b2.trans b9).mono (by omega))⟩


set_option maxHeartbeats 1000000 in
set_option maxRecDepth 100000 in
theorem source_20 (_hs : tx.size ≤ 1000000000) (ht : Tab w) (h3 : 3 < w.heap.size) :
    Calls Tryd.prog 13 #[.agg #[.int .i64 20, .string tx, .string un, .bool wh, .bool fl]] w fun e w' => e = .returned (.string (strOfNums ([93]))) ∧ Below w.heap.size w w' := by
  have hB1 : Below w.heap.size w ((w.alloc (.cells #[.int .i64 20, .string tx, .string un, .bool wh, .bool fl] 28)).alloc (.cells #[.pointer none, .slice none 0 0] 44)) := ((Below.refl _ w).alloc (Nat.le_refl _) _).alloc (by simp) _
  have hw := wr_new (w.alloc (.cells #[.int .i64 20, .string tx, .string un, .bool wh, .bool fl] 28))
  have e9 : (w.alloc (.cells #[.int .i64 20, .string tx, .string un, .bool wh, .bool fl] 28)).heap.size = w.heap.size + 1 := by simp
  rw [e9] at hw
  have ht0 : Tab ((w.alloc (.cells #[.int .i64 20, .string tx, .string un, .bool wh, .bool fl] 28)).alloc (.cells #[.pointer none, .slice none 0 0] 44)) := tab_below ht hB1 h3
  have hy := sign_20 (w.heap.size + 1) _ hw (by omega)
  clear e9 hw ht0
  go_enter Tryd.func13, Tryd.ntmps13
  go_wp2_with (go_at_call 26; fail)
  refine (hy).mono ?_
  rintro e w1 ⟨rfl, h2, b2⟩
  go_wp2_with (go_at_call 20; fail)
  refine (wr_string (w.heap.size + 1) ([93]) w1 h2).mono ?_
  rintro e w9 ⟨rfl, b9⟩
  go_wp2
  go_ret
  exact ⟨rfl, hB1.trans ((b2.trans b9).mono (by omega))⟩


set_option maxHeartbeats 1000000 in
set_option maxRecDepth 100000 in
theorem source_21 (_hs : tx.size ≤ 1000000000) (ht : Tab w) (h3 : 3 < w.heap.size) :
    Calls Tryd.prog 13 #[.agg #[.int .i64 21, .string tx, .string un, .bool wh, .bool fl]] w fun e w' => e = .returned (.string (strOfNums ([40]))) ∧ Below w.heap.size w w' := by
  have hB1 : Below w.heap.size w ((w.alloc (.cells #[.int .i64 21, .string tx, .string un, .bool wh, .bool fl] 28)).alloc (.cells #[.pointer none, .slice none 0 0] 44)) := ((Below.refl _ w).alloc (Nat.le_refl _) _).alloc (by simp) _
  have hw := wr_new (w.alloc (.cells #[.int .i64 21, .string tx, .string un, .bool wh, .bool fl] 28))
  have e9 : (w.alloc (.cells #[.int .i64 21, .string tx, .string un, .bool wh, .bool fl] 28)).heap.size = w.heap.size + 1 := by simp
  rw [e9] at hw
  have ht0 : Tab ((w.alloc (.cells #[.int .i64 21, .string tx, .string un, .bool wh, .bool fl] 28)).alloc (.cells #[.pointer none, .slice none 0 0] 44)) := tab_below ht hB1 h3
  have hy := sign_21 (w.heap.size + 1) _ hw (by omega)
  clear e9 hw ht0
  go_enter Tryd.func13, Tryd.ntmps13
  go_wp2_with (go_at_call 26; fail)
  refine (hy).mono ?_
  rintro e w1 ⟨rfl, h2, b2⟩
  go_wp2_with (go_at_call 20; fail)
  refine (wr_string (w.heap.size + 1) ([40]) w1 h2).mono ?_
  rintro e w9 ⟨rfl, b9⟩
  go_wp2
  go_ret
  exact ⟨rfl, hB1.trans ((b2.trans b9).mono (by omega))⟩


set_option maxHeartbeats 1000000 in
set_option maxRecDepth 100000 in
theorem source_22 (_hs : tx.size ≤ 1000000000) (ht : Tab w) (h3 : 3 < w.heap.size) :
    Calls Tryd.prog 13 #[.agg #[.int .i64 22, .string tx, .string un, .bool wh, .bool fl]] w fun e w' => e = .returned (.string (strOfNums ([41]))) ∧ Below w.heap.size w w' := by
  have hB1 : Below w.heap.size w ((w.alloc (.cells #[.int .i64 22, .string tx, .string un, .bool wh, .bool fl] 28)).alloc (.cells #[.pointer none, .slice none 0 0] 44)) := ((Below.refl _ w).alloc (Nat.le_refl _) _).alloc (by simp) _
  have hw := wr_new (w.alloc (.cells #[.int .i64 22, .string tx, .string un, .bool wh, .bool fl] 28))
  have e9 : (w.alloc (.cells #[.int .i64 22, .string tx, .string un, .bool wh, .bool fl] 28)).heap.size = w.heap.size + 1 := by simp
  rw [e9] at hw
  have ht0 : Tab ((w.alloc (.cells #[.int .i64 22, .string tx, .string un, .bool wh, .bool fl] 28)).alloc (.cells #[.pointer none, .slice none 0 0] 44)) := tab_below ht hB1 h3
  have hy := sign_22 (w.heap.size + 1) _ hw (by omega)
  clear e9 hw ht0
  go_enter Tryd.func13, Tryd.ntmps13
  go_wp2_with (go_at_call 26; fail)
  refine (hy).mono ?_
  rintro e w1 ⟨rfl, h2, b2⟩
  go_wp2_with (go_at_call 20; fail)
  refine (wr_string (w.heap.size + 1) ([41]) w1 h2).mono ?_
  rintro e w9 ⟨rfl, b9⟩
  go_wp2
  go_ret
  exact ⟨rfl, hB1.trans ((b2.trans b9).mono (by omega))⟩


set_option maxHeartbeats 1000000 in
set_option maxRecDepth 100000 in
theorem source_23 (_hs : tx.size ≤ 1000000000) (ht : Tab w) (h3 : 3 < w.heap.size) :
    Calls Tryd.prog 13 #[.agg #[.int .i64 23, .string tx, .string un, .bool wh, .bool fl]] w fun e w' => e = .returned (.string (strOfNums ([123]))) ∧ Below w.heap.size w w' := by
  have hB1 : Below w.heap.size w ((w.alloc (.cells #[.int .i64 23, .string tx, .string un, .bool wh, .bool fl] 28)).alloc (.cells #[.pointer none, .slice none 0 0] 44)) := ((Below.refl _ w).alloc (Nat.le_refl _) _).alloc (by simp) _
  have hw := wr_new (w.alloc (.cells #[.int .i64 23, .string tx, .string un, .bool wh, .bool fl] 28))
  have e9 : (w.alloc (.cells #[.int .i64 23, .string tx, .string un, .bool wh, .bool fl] 28)).heap.size = w.heap.size + 1 := by simp
  rw [e9] at hw
  have ht0 : Tab ((w.alloc (.cells #[.int .i64 23, .string tx, .string un, .bool wh, .bool fl] 28)).alloc (.cells #[.pointer none, .slice none 0 0] 44)) := tab_below ht hB1 h3
  have hy := sign_23 (w.heap.size + 1) _ hw (by omega)
  clear e9 hw ht0
  go_enter Tryd.func13, Tryd.ntmps13
  go_wp2_with (go_at_call 26; fail)
  refine (hy).mono ?_
  rintro e w1 ⟨rfl, h2, b2⟩
  go_wp2_with (go_at_call 20; fail)
  refine (wr_string (w.heap.size + 1) ([123]) w1 h2).mono ?_
  rintro e w9 ⟨rfl, b9⟩
  go_wp2
  go_ret
  exact ⟨rfl, hB1.trans ((b2.trans b9).mono (by omega))⟩


set_option maxHeartbeats 1000000 in
set_option maxRecDepth 100000 in
theorem source_24 (_hs : tx.size ≤ 1000000000) (ht : Tab w) (h3 : 3 < w.heap.size) :
    Calls Tryd.prog 13 #[.agg #[.int .i64 24, .string tx, .string un, .bool wh, .bool fl]] w fun e w' => e = .returned (.string (strOfNums ([125]))) ∧ Below w.heap.size w w' := by
  have hB1 : Below w.heap.size w ((w.alloc (.cells #[.int .i64 24, .string tx, .string un, .bool wh, .bool fl] 28)).alloc (.cells #[.pointer none, .slice none 0 0] 44)) := ((Below.refl _ w).alloc (Nat.le_refl _) _).alloc (by simp) _
  have hw := wr_new (w.alloc (.cells #[.int .i64 24, .string tx, .string un, .bool wh, .bool fl] 28))
  have e9 : (w.alloc (.cells #[.int .i64 24, .string tx, .string un, .bool wh, .bool fl] 28)).heap.size = w.heap.size + 1 := by simp
  rw [e9] at hw
  have ht0 : Tab ((w.alloc (.cells #[.int .i64 24, .string tx, .string un, .bool wh, .bool fl] 28)).alloc (.cells #[.pointer none, .slice none 0 0] 44)) := tab_below ht hB1 h3
  have hy := sign_24 (w.heap.size + 1) _ hw (by omega)
  clear e9 hw ht0
  go_enter Tryd.func13, Tryd.ntmps13
  go_wp2_with (go_at_call 26; fail)
  refine (hy).mono ?_
  rintro e w1 ⟨rfl, h2, b2⟩
  go_wp2_with (go_at_call 20; fail)
  refine (wr_string (w.heap.size + 1) ([125]) w1 h2).mono ?_
  rintro e w9 ⟨rfl, b9⟩
  go_wp2
  go_ret
  exact ⟨rfl, hB1.trans ((b2.trans b9).mono (by omega))⟩


end
end Go.Proofs.YtbfgnfcecfjlnaaDoor
