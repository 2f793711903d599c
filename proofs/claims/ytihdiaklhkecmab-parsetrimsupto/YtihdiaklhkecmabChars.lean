/- What gouacheref01.char and gouacheref01.Chars answer: the model's own decoding. -/
import Derived.Test.YtihdiaklhkecmabChar
namespace Go.Proofs.Ytihdiaklhkecmab
open Go.RowKit

theorem get_lt (t : ByteArray) (j : Nat) : (t.get! j).toNat < 256 := (t.get! j).toNat_lt

set_option maxRecDepth 100000 in
set_option maxHeartbeats 2000000 in
theorem ok_C {t : ByteArray} {c n : Int} (hs : 2 ≤ t.size) (hr : 192 ≤ (t.get! 0).toNat) (hr2 : (t.get! 0).toNat < 224) (h : PostC (t.get! 0).toNat (t.get! 1).toNat c n) : CharOk t c n := by
  have h1 := get_lt t 1
  unfold CharOk
  rw [dec0]
  generalize (t.get! 0).toNat = b0 at *
  generalize (t.get! 1).toNat = b1 at *
  generalize (t.get! 2).toNat = b2 at *
  generalize (t.get! 3).toNat = b3 at *
  unfold PostC at h
  unfold Lib.decodeN
  rw [if_neg (by omega)]
  rcases h with ⟨rfl, rfl, hv⟩ | ⟨rfl, hv, rfl⟩
  · left
    refine ⟨rfl, ?_⟩
    by_cases h2 : b0 / 32 = 6 ∧ 1 < t.size ∧ b1 / 64 = 2
    · rw [if_pos h2, if_neg (by omega)]
    · rw [if_neg h2, if_neg (by omega), if_neg (by omega)]
  · right
    rw [if_pos (by omega), if_pos (by omega)]
    refine ⟨by omega, rfl, ?_⟩
    simp only
    omega

set_option maxRecDepth 100000 in
set_option maxHeartbeats 2000000 in
theorem ok_D {t : ByteArray} {c n : Int} (hs : 3 ≤ t.size) (hr : 224 ≤ (t.get! 0).toNat) (hr2 : (t.get! 0).toNat < 240) (h : PostD (t.get! 0).toNat (t.get! 1).toNat (t.get! 2).toNat c n) : CharOk t c n := by
  have h1 := get_lt t 1
  have h2 := get_lt t 2
  unfold CharOk
  rw [dec0]
  generalize (t.get! 0).toNat = b0 at *
  generalize (t.get! 1).toNat = b1 at *
  generalize (t.get! 2).toNat = b2 at *
  generalize (t.get! 3).toNat = b3 at *
  unfold PostD at h
  unfold Lib.decodeN
  rw [if_neg (by omega), if_neg (by omega)]
  rcases h with ⟨rfl, rfl, hv⟩ | ⟨rfl, hv, rfl⟩
  · left
    refine ⟨rfl, ?_⟩
    by_cases h2 : b0 / 16 = 14 ∧ (1 < t.size ∧ b1 / 64 = 2) ∧ (2 < t.size ∧ b2 / 64 = 2)
    · rw [if_pos h2, if_neg (by omega)]
    · rw [if_neg h2, if_neg (by omega)]
  · right
    rw [if_pos (by omega), if_pos (by omega)]
    refine ⟨by omega, rfl, ?_⟩
    simp only
    omega

set_option maxRecDepth 100000 in
set_option maxHeartbeats 2000000 in
theorem ok_E {t : ByteArray} {c n : Int} (hs : 4 ≤ t.size) (hr : 240 ≤ (t.get! 0).toNat) (hr2 : (t.get! 0).toNat < 248) (h : PostE (t.get! 0).toNat (t.get! 1).toNat (t.get! 2).toNat (t.get! 3).toNat c n) : CharOk t c n := by
  have h1 := get_lt t 1
  have h2 := get_lt t 2
  have h3 := get_lt t 3
  unfold CharOk
  rw [dec0]
  generalize (t.get! 0).toNat = b0 at *
  generalize (t.get! 1).toNat = b1 at *
  generalize (t.get! 2).toNat = b2 at *
  generalize (t.get! 3).toNat = b3 at *
  unfold PostE at h
  unfold Lib.decodeN
  rw [if_neg (by omega), if_neg (by omega), if_neg (by omega)]
  rcases h with ⟨rfl, rfl, hv⟩ | ⟨rfl, hv, rfl⟩
  · left
    refine ⟨rfl, ?_⟩
    by_cases h2 : b0 / 8 = 30 ∧ (1 < t.size ∧ b1 / 64 = 2) ∧ (2 < t.size ∧ b2 / 64 = 2) ∧ (3 < t.size ∧ b3 / 64 = 2)
    · rw [if_pos h2, if_neg (by omega)]
    · rw [if_neg h2]
  · right
    rw [if_pos (by omega), if_pos (by omega)]
    refine ⟨by omega, rfl, ?_⟩
    simp only
    omega

theorem ok_short {t : ByteArray} (h : (192 ≤ (t.get! 0).toNat ∧ (t.get! 0).toNat < 224 ∧ t.size < 2) ∨ (224 ≤ (t.get! 0).toNat ∧ (t.get! 0).toNat < 240 ∧ t.size < 3) ∨ (240 ≤ (t.get! 0).toNat ∧ (t.get! 0).toNat < 248 ∧ t.size < 4) ∨ (128 ≤ (t.get! 0).toNat ∧ (t.get! 0).toNat < 192) ∨ 248 ≤ (t.get! 0).toNat) : CharOk t 0 0 := by
  have h0 := get_lt t 0
  unfold CharOk
  rw [dec0]
  generalize (t.get! 0).toNat = b0 at *
  left
  refine ⟨rfl, ?_⟩
  unfold Lib.decodeN
  rw [if_neg (by omega), if_neg (by omega), if_neg (by omega), if_neg (by omega)]

theorem ok_ascii {t : ByteArray} (h : (t.get! 0).toNat < 128) : CharOk t (t.get! 0).toNat 1 := by
  unfold CharOk
  rw [dec0]
  unfold Lib.decodeN
  rw [if_pos h]
  exact .inr ⟨by omega, rfl, rfl⟩

set_option maxHeartbeats 4000000 in
set_option maxRecDepth 1000000 in
theorem char_short (b off cap len : Nat) (w : World) (b0 : Nat) (hs : 1 ≤ len) (hs2 : len ≤ 1000000000000) (_hcap : len ≤ cap)
    (c0 : w.cell? ⟨b, off, none⟩ = some (.int .u8 b0)) (h256 : b0 < 256)
    (h : (192 ≤ b0 ∧ b0 < 224 ∧ len < 2) ∨ (224 ≤ b0 ∧ b0 < 240 ∧ len < 3) ∨ (240 ≤ b0 ∧ b0 < 248 ∧ len < 4) ∨ (128 ≤ b0 ∧ b0 < 192) ∨ 248 ≤ b0) :
    Calls Try.prog 51 #[.slice (some ⟨b, off, none⟩) len cap] w fun e w' => e = .returned (.tuple #[.int .i32 0, .int .i64 0]) ∧ w = w' := by
  rcases h with ⟨g1, g2, g3⟩ | ⟨g1, g2, g3⟩ | ⟨g1, g2, g3⟩ | ⟨g1, g2⟩ | g1
  all_goals
    go_enter Try.func51, Try.ntmps51
    go_wp2
    go_ret2
    exact ⟨rfl, rfl⟩

set_option maxRecDepth 1000000 in
theorem char_ascii (b off cap len : Nat) (w : World) (b0 : Nat) (hs : 1 ≤ len) (hs2 : len ≤ 1000000000000) (_hcap : len ≤ cap)
    (c0 : w.cell? ⟨b, off, none⟩ = some (.int .u8 b0)) (h : b0 < 128) :
    Calls Try.prog 51 #[.slice (some ⟨b, off, none⟩) len cap] w fun e w' => e = .returned (.tuple #[.int .i32 b0, .int .i64 1]) ∧ w = w' := by
  go_enter Try.func51, Try.ntmps51
  go_wp2
  go_ret2
  exact ⟨rfl, rfl⟩

theorem char_any (v : Value) (t : ByteArray) (w : World) (ht : 0 < t.size) (hs : t.size ≤ 1000000000000) (hv : BytesAt w v t) :
    Calls Try.prog 51 #[v] w fun e w' => (∃ c n : Int, e = .returned (.tuple #[.int .i32 c, .int .i64 n]) ∧ CharOk t c n) ∧ w = w' := by
  obtain ⟨a, cap, rfl, hcap, hc⟩ := hv
  obtain ⟨b, off, rfl, hcell⟩ := hc ht
  have c0 : w.cell? ⟨b, off, none⟩ = some (.int .u8 (t.get! 0).toNat) := hcell 0 ht
  have h0 := get_lt t 0
  by_cases ha : (t.get! 0).toNat < 128
  · refine (char_ascii b off cap t.size w _ (by omega) hs hcap c0 ha).mono ?_
    rintro e w' ⟨rfl, rfl⟩
    exact ⟨⟨_, _, rfl, ok_ascii ha⟩, rfl⟩
  · by_cases hsh : (192 ≤ (t.get! 0).toNat ∧ (t.get! 0).toNat < 224 ∧ t.size < 2) ∨ (224 ≤ (t.get! 0).toNat ∧ (t.get! 0).toNat < 240 ∧ t.size < 3) ∨ (240 ≤ (t.get! 0).toNat ∧ (t.get! 0).toNat < 248 ∧ t.size < 4) ∨ (128 ≤ (t.get! 0).toNat ∧ (t.get! 0).toNat < 192) ∨ 248 ≤ (t.get! 0).toNat
    · refine (char_short b off cap t.size w _ (by omega) hs hcap c0 h0 hsh).mono ?_
      rintro e w' ⟨rfl, rfl⟩
      exact ⟨⟨_, _, rfl, ok_short hsh⟩, rfl⟩
    · rcases (show (192 ≤ (t.get! 0).toNat ∧ (t.get! 0).toNat < 224 ∧ 2 ≤ t.size) ∨ (224 ≤ (t.get! 0).toNat ∧ (t.get! 0).toNat < 240 ∧ 3 ≤ t.size) ∨ (240 ≤ (t.get! 0).toNat ∧ (t.get! 0).toNat < 248 ∧ 4 ≤ t.size) by omega) with ⟨g1, g2, g3⟩ | ⟨g1, g2, g3⟩ | ⟨g1, g2, g3⟩
      · refine (char_C b off cap t.size w _ _ g3 hs hcap g1 g2 (get_lt t 1) c0 (hcell 1 (by omega))).mono ?_
        rintro e w' ⟨⟨c, n, rfl, hp⟩, rfl⟩
        exact ⟨⟨c, n, rfl, ok_C g3 g1 g2 hp⟩, rfl⟩
      · refine (char_D b off cap t.size w _ _ _ g3 hs hcap g1 g2 (get_lt t 1) (get_lt t 2) c0 (hcell 1 (by omega)) (hcell 2 (by omega))).mono ?_
        rintro e w' ⟨⟨c, n, rfl, hp⟩, rfl⟩
        exact ⟨⟨c, n, rfl, ok_D g3 g1 g2 hp⟩, rfl⟩
      · refine (char_E b off cap t.size w _ _ _ _ g3 hs hcap g1 g2 (get_lt t 1) (get_lt t 2) (get_lt t 3) c0 (hcell 1 (by omega)) (hcell 2 (by omega)) (hcell 3 (by omega))).mono ?_
        rintro e w' ⟨⟨c, n, rfl, hp⟩, rfl⟩
        exact ⟨⟨c, n, rfl, ok_E g3 g1 g2 hp⟩, rfl⟩

theorem get_extract (s : ByteArray) (pos j : Nat) (hp : pos ≤ s.size) : (s.extract pos s.size).get! j = s.get! (pos + j) := by
  cases s with
  | mk d =>
    have hp' : pos ≤ d.size := hp
    have e1 : ((ByteArray.mk d).extract pos (ByteArray.mk d).size).data = d.extract pos d.size := by
      rw [ByteArray.data_extract]; rfl
    unfold ByteArray.get!
    simp only [e1]
    by_cases h1 : pos + j < d.size
    · have h2 : j < (d.extract pos d.size).size := by simp; omega
      simp only [getElem!_pos, h1, h2]
      simp
    · have h2 : ¬ j < (d.extract pos d.size).size := by simp; omega
      exact (getElem!_neg (d.extract pos d.size) j h2).trans (getElem!_neg d (pos + j) h1).symm

theorem size_extract (s : ByteArray) (pos : Nat) : (s.extract pos s.size).size = s.size - pos := by simp

theorem decode_extract (s : ByteArray) (pos : Nat) (hp : pos ≤ s.size) : Utf8.decode (s.extract pos s.size) 0 = Utf8.decode s pos := by
  rw [dec0, Lib.decode_at s pos, size_extract, get_extract s pos 0 hp, get_extract s pos 1 hp, get_extract s pos 2 hp, get_extract s pos 3 hp]
  rfl

theorem ext_bytes {s t : ByteArray} (h1 : s.size = t.size) (h2 : ∀ j, j < s.size → s.get! j = t.get! j) : s = t := by
  cases s with
  | mk a =>
    cases t with
    | mk b =>
      have e : a = b := by
        apply Array.ext h1
        intro i hi hj
        have := h2 i hi
        unfold ByteArray.get! at this
        simpa [getElem!_pos, hi, hj] using this
      rw [e]

theorem extract_extract (s : ByteArray) (pos d : Nat) (hp : pos + d ≤ s.size) : (s.extract pos s.size).extract d (s.extract pos s.size).size = s.extract (pos + d) s.size := by
  have hz := size_extract s pos
  refine ext_bytes (by rw [size_extract, size_extract s (pos + d)]; omega) (fun j hj => ?_)
  rw [get_extract _ d j (by omega), get_extract s pos (d + j) (by omega), get_extract s (pos + d) j hp, Nat.add_assoc]

set_option maxRecDepth 100000 in
theorem width_le (t : ByteArray) (h : 0 < t.size) : 1 ≤ (Utf8.decode t 0).2 ∧ (Utf8.decode t 0).2 ≤ t.size := by
  rw [dec0]
  unfold Lib.decodeN
  repeat' split
  all_goals (simp only; omega)

theorem BytesAt.cut {w : World} {a : Option Addr} {cap d : Nat} {t : ByteArray} (h : BytesAt w (.slice a t.size cap) t) (hd : d ≤ t.size) {a' : Option Addr}
    (ha : d < t.size → ∀ b off, a = some ⟨b, off, none⟩ → a' = some ⟨b, off + d, none⟩) {len' cap' : Nat} (hl : len' = t.size - d) (hc : cap' = cap - d) : BytesAt w (.slice a' len' cap') (t.extract d t.size) := by
  obtain ⟨a1, cap1, e, hcap, hcell⟩ := h
  simp only [Value.slice.injEq] at e
  obtain ⟨rfl, _, rfl⟩ := e
  refine ⟨a', cap', by rw [size_extract, hl], by rw [size_extract, hc]; omega, fun h0 => ?_⟩
  rw [size_extract] at h0
  obtain ⟨b, off, rfl, hcell2⟩ := hcell (by omega)
  refine ⟨b, off + d, ha (by omega) b off rfl, fun j hj => ?_⟩
  rw [size_extract] at hj
  rw [get_extract t d j hd, Nat.add_assoc]
  exact hcell2 (d + j) (by omega)

theorem addr_add (b off d : Nat) : (⟨b, off, none⟩ : Addr).add d = ⟨b, off + d, none⟩ := by unfold Addr.add; split <;> simp_all

def lenOf : Value → Nat
  | .slice _ n _ => n
  | _ => 0

set_option maxHeartbeats 400000 in
set_option maxRecDepth 1000000 in
theorem chars_any (v : Value) (s : ByteArray) (w : World) (hs : s.size ≤ 1000000000) (hv : BytesAt w v s) :
    Calls Try.prog 32 #[v] w fun e w' => ∃ u, e = .returned u ∧ w'.ownsRow w.heap.size 21 1 u (chars s).length ((chars s).map (Value.int .i32)) ∧ Below w.heap.size w w' := by
  obtain ⟨i0, hi, hz0, hz1, hz2⟩ := info_parts Try.info21
  go_enter Try.func32, Try.ntmps32
  go_wp2
  go_loopw [0, 3] (fun b out wr => ∃ (pos fuel : Nat) (acc : List Int), BytesAt w b (s.extract pos s.size) ∧ wr.ownsRow w.heap.size 21 1 out acc.length (acc.map (Value.int .i32)) ∧ Below w.heap.size w wr ∧ acc ++ charsFrom s fuel pos = chars s ∧ pos ≤ s.size ∧ s.size ≤ pos + fuel ∧ acc.length ≤ pos) (fun b _ _ => lenOf b)
  case atStart =>
    have e : s.extract 0 s.size = s := by
      refine ext_bytes (by rw [size_extract]; omega) (fun j hj => ?_)
      rw [get_extract s 0 j (by omega), Nat.zero_add]
    exact ⟨0, s.size, [], by rw [e]; exact hv, World.ownsRow_nil _ _ _ _, Below.refl _ _, rfl, by omega, by omega, by simp⟩
  case round =>
    obtain ⟨pos, fuel, acc, hb, hown, hbel, hacc, hp, hfu, hal⟩ := hrel
    have hsz := size_extract s pos
    have hde := decode_extract s pos hp
    by_cases hlt : pos < s.size
    · obtain ⟨f, rfl⟩ : ∃ f, fuel = f + 1 := ⟨fuel - 1, by omega⟩
      simp only [charsFrom, if_pos hlt] at hacc
      rw [← hde] at hacc
      have hwl := width_le (s.extract pos s.size) (by omega)
      have hv2 := hb
      obtain ⟨a, cap, rfl, hcap, hcc⟩ := hb
      clear hcc
      generalize hte : s.extract pos s.size = t at *
      have ht0 : 0 < t.size := by omega
      have ht1 : t.size ≤ 1000000000 := by omega
      have HZ : Hid (t.size = s.size - pos) := hsz
      have HE : Hid (s.extract pos s.size = t) := hte
      clear hde hte hsz
      go_wp2_with (go_at_call 51; fail)
      refine (char_any _ t _ ht0 (by omega) (hv2.below hbel)).mono ?_
      rintro e w' ⟨⟨c, n, rfl, hok⟩, rfl⟩
      obtain ⟨c', d', hdc⟩ : ∃ c' d', Utf8.decode t 0 = (c', d') := ⟨_, _, rfl⟩
      unfold CharOk at hok
      rw [hdc] at hok hwl hacc
      simp only at hok hwl hacc
      clear hdc
      rcases hok with ⟨rfl, hd⟩ | ⟨hn0, rfl, rfl⟩
      · simp only [Prod.mk.injEq] at hd
        obtain ⟨rfl, rfl⟩ := hd
        go_wp2_with (at_builtin; go_must (refine wpList_append_own _ rfl _ _ 49 rfl w.heap.size 21 i0 (.int .i32 0) 1 4 Try.underlying49 hi hz0 hz1 hz2 rfl (by decide) _ _ _ rfl (hown.alloc _) ⟨wr.heap.size, 0, none⟩ 1 1 [.int .i32 65533] rfl rfl (cell_one_new _ _ _) (by intro u hu; simp at hu; subst hu; rfl) (by unfold maxLen; omega) (by omega) (by have := hbel.size; simp; omega) ?_); intro v' w5 hown5 hgrow5 _)
        refine ⟨⟨pos + 1, f, acc ++ [65533], ?_, by simpa using hown5, (hbel.alloc hbel.size _).grown hgrow5 (by have := hbel.size; simp; omega) (fun k hk => (hown.lt k hk).1), by rw [← hacc]; simp, by have := HZ.out; omega, by have := HZ.out; omega, by simp; omega⟩, by simp only [lenOf]; omega⟩
        rw [← extract_extract s pos 1 (by have := HZ.out; omega), HE.out]
        exact hv2.cut (by omega) (fun hl b off e => by rw [if_neg (by omega), e]; first | rfl | exact congrArg some (addr_add b off _)) rfl rfl
      · have hdl : d' ≤ t.size := hwl.2
        have hd1 : 1 ≤ d' := hwl.1
        have e0 : ((d' : Int) == 0) = false := beq_eq_false_iff_ne.2 (by omega)
        clear hn0 hwl
        go_wp2_with (at_builtin; go_must (refine wpList_append_own _ rfl _ _ 49 rfl w.heap.size 21 i0 (.int .i32 0) 1 4 Try.underlying49 hi hz0 hz1 hz2 rfl (by decide) _ _ _ rfl (hown.alloc _) ⟨wr.heap.size, 0, none⟩ 1 1 [.int .i32 c'] rfl rfl (cell_one_new _ _ _) (by intro u hu; simp at hu; subst hu; rfl) (by unfold maxLen; omega) (by omega) (by have := hbel.size; simp; omega) ?_); intro v' w5 hown5 hgrow5 _)
        refine ⟨⟨pos + d', f, acc ++ [(c' : Int)], ?_, by simpa using hown5, (hbel.alloc hbel.size _).grown hgrow5 (by have := hbel.size; simp; omega) (fun k hk => (hown.lt k hk).1), by rw [← hacc]; simp, by have := HZ.out; omega, by have := HZ.out; omega, by simp; omega⟩, by simp only [lenOf]; omega⟩
        rw [← extract_extract s pos d' (by have := HZ.out; omega), HE.out]
        exact hv2.cut (by omega) (fun hl b off e => by rw [if_neg (by omega), e]; first | rfl | exact congrArg some (addr_add b off _)) rfl rfl
    · obtain ⟨a, cap, rfl, hcap, hcc⟩ := hb
      have h0 : (s.extract pos s.size).size ≤ 0 := by omega
      clear hcc hsz hde
      rw [charsFrom_end s fuel pos hlt, List.append_nil] at hacc
      subst hacc
      go_wp2
      go_ret
      exact ⟨_, rfl, hown, hbel⟩

end Go.Proofs.Ytihdiaklhkecmab
