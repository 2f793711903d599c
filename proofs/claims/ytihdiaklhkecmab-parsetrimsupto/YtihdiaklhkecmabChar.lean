/- What gouacheref01.char answers: the model's own decoding of the first character, or that there is none. -/
import Derived.Test.YtihdiaklhkecmabArgs
import Derived.Lib.DecodeN
namespace Go.Proofs.Ytihdiaklhkecmab
open Go.RowKit

def CharOk (t : ByteArray) (c n : Int) : Prop := (n = 0 ∧ Utf8.decode t 0 = (65533, 1)) ∨ (0 < n ∧ n = (Utf8.decode t 0).2 ∧ c = (Utf8.decode t 0).1)

theorem dec0 (t : ByteArray) : Utf8.decode t 0 = Lib.decodeN t.size (t.get! 0).toNat (t.get! 1).toNat (t.get! 2).toNat (t.get! 3).toNat := by
  have := Lib.decode_at t 0
  simpa using this

theorem CharOk.none {t : ByteArray} (h : Utf8.decode t 0 = (65533, 1)) : CharOk t 0 0 := .inl ⟨rfl, h⟩

def PostC (b0 b1 : Nat) (c n : Int) : Prop := (n = 0 ∧ c = 0 ∧ ¬ (128 ≤ b1 ∧ b1 < 192 ∧ 128 ≤ (((b0 : Int) - 192) * 64 + ((b1 : Int) - 128)) ∧ (((b0 : Int) - 192) * 64 + ((b1 : Int) - 128)) ≤ 1114111 ∧ ¬ (55296 ≤ (((b0 : Int) - 192) * 64 + ((b1 : Int) - 128)) ∧ (((b0 : Int) - 192) * 64 + ((b1 : Int) - 128)) < 57344))) ∨ (n = 2 ∧ (128 ≤ b1 ∧ b1 < 192 ∧ 128 ≤ (((b0 : Int) - 192) * 64 + ((b1 : Int) - 128)) ∧ (((b0 : Int) - 192) * 64 + ((b1 : Int) - 128)) ≤ 1114111 ∧ ¬ (55296 ≤ (((b0 : Int) - 192) * 64 + ((b1 : Int) - 128)) ∧ (((b0 : Int) - 192) * 64 + ((b1 : Int) - 128)) < 57344)) ∧ c = (((b0 : Int) - 192) * 64 + ((b1 : Int) - 128)))
def RelC (b0 b1 : Nat) (c i : Value) : Prop := (i = .int .i64 0 ∧ c = .int .i32 ((b0 : Int) - 192)) ∨ (i = .int .i64 1 ∧ c = .int .i32 (((b0 : Int) - 192) * 64 + ((b1 : Int) - 128)) ∧ 128 ≤ b1 ∧ b1 < 192)

set_option maxHeartbeats 4000000 in
set_option maxRecDepth 1000000 in
theorem char_C (b off cap len : Nat) (w : World) (b0 b1 : Nat) (hs : 2 ≤ len) (hs2 : len ≤ 1000000000000) (hcap : len ≤ cap) (hr : 192 ≤ b0) (hr2 : b0 < 224) (h1 : b1 < 256)
    (c0 : w.cell? ⟨b, off, none⟩ = some (.int .u8 b0)) (c1 : w.cell? ⟨b, off + 1, none⟩ = some (.int .u8 b1)) :
    Calls Try.prog 51 #[.slice (some ⟨b, off, none⟩) len cap] w fun e w' => (∃ c n : Int, e = .returned (.tuple #[.int .i32 c, .int .i64 n]) ∧
      PostC b0 b1 c n) ∧ w = w' := by
  go_enter Try.func51, Try.ntmps51
  go_wp2
  go_loop [4, 54] (fun c i => RelC b0 b1 c i) (fun _ i => (1 - intOf i).toNat)
  case atStart => exact .inl ⟨rfl, rfl⟩
  case round =>
    rcases hrel with ⟨rfl, rfl⟩ | ⟨rfl, rfl, v1, u1x⟩
    · rcases (show b1 < 128 ∨ 192 ≤ b1 ∨ (128 ≤ b1 ∧ b1 < 192) by omega) with y1 | y1 | ⟨y1, y2⟩
      · go_wp2
        go_ret2
        exact ⟨⟨0, 0, rfl, .inl ⟨rfl, rfl, by omega⟩⟩, rfl⟩
      · go_wp2
        go_ret2
        exact ⟨⟨0, 0, rfl, .inl ⟨rfl, rfl, by omega⟩⟩, rfl⟩
      · go_wp2
        refine ⟨⟨_, _, _, _, _, ?_, rfl, rfl, rfl, rfl, rfl⟩, ?_⟩
        · exact .inr (⟨by go_num, by go_num, y1, y2⟩)
        · decide
    · have hC0 : 0 ≤ (((b0 : Int) - 192) * 64 + ((b1 : Int) - 128)) := by omega
      have hC1 : (((b0 : Int) - 192) * 64 + ((b1 : Int) - 128)) ≤ 2047 := by omega
      generalize hC : (((b0 : Int) - 192) * 64 + ((b1 : Int) - 128)) = C at *
      have HP : Hid (∀ c n : Int, (n = 0 ∧ c = 0 ∧ ¬ (128 ≤ C ∧ C ≤ 1114111 ∧ ¬ (55296 ≤ C ∧ C < 57344))) ∨ (n = 2 ∧ (128 ≤ C ∧ C ≤ 1114111 ∧ ¬ (55296 ≤ C ∧ C < 57344)) ∧ c = C) → PostC b0 b1 c n) := by
        rintro c n (⟨e1, e2, e3⟩ | ⟨e1, e2, e3⟩)
        · exact .inl ⟨e1, e2, by rw [hC]; omega⟩
        · exact .inr ⟨e1, by rw [hC]; exact ⟨v1, u1x, e2⟩, by rw [hC]; exact e3⟩
      clear hC
      rcases (show (C < 128) ∨ (128 ≤ C) by omega) with g1 | g1
      · go_wp2
        go_ret2
        exact ⟨⟨0, 0, rfl, HP.out _ _ (.inl ⟨rfl, rfl, by omega⟩)⟩, rfl⟩
      · go_wp2
        go_ret2
        exact ⟨⟨C, 2, rfl, HP.out _ _ (.inr ⟨rfl, by omega, rfl⟩)⟩, rfl⟩

def PostD (b0 b1 b2 : Nat) (c n : Int) : Prop := (n = 0 ∧ c = 0 ∧ ¬ (128 ≤ b1 ∧ b1 < 192 ∧ 128 ≤ b2 ∧ b2 < 192 ∧ 2048 ≤ ((((b0 : Int) - 224) * 64 + ((b1 : Int) - 128)) * 64 + ((b2 : Int) - 128)) ∧ ((((b0 : Int) - 224) * 64 + ((b1 : Int) - 128)) * 64 + ((b2 : Int) - 128)) ≤ 1114111 ∧ ¬ (55296 ≤ ((((b0 : Int) - 224) * 64 + ((b1 : Int) - 128)) * 64 + ((b2 : Int) - 128)) ∧ ((((b0 : Int) - 224) * 64 + ((b1 : Int) - 128)) * 64 + ((b2 : Int) - 128)) < 57344))) ∨ (n = 3 ∧ (128 ≤ b1 ∧ b1 < 192 ∧ 128 ≤ b2 ∧ b2 < 192 ∧ 2048 ≤ ((((b0 : Int) - 224) * 64 + ((b1 : Int) - 128)) * 64 + ((b2 : Int) - 128)) ∧ ((((b0 : Int) - 224) * 64 + ((b1 : Int) - 128)) * 64 + ((b2 : Int) - 128)) ≤ 1114111 ∧ ¬ (55296 ≤ ((((b0 : Int) - 224) * 64 + ((b1 : Int) - 128)) * 64 + ((b2 : Int) - 128)) ∧ ((((b0 : Int) - 224) * 64 + ((b1 : Int) - 128)) * 64 + ((b2 : Int) - 128)) < 57344)) ∧ c = ((((b0 : Int) - 224) * 64 + ((b1 : Int) - 128)) * 64 + ((b2 : Int) - 128)))
def RelD (b0 b1 b2 : Nat) (c i : Value) : Prop := (i = .int .i64 0 ∧ c = .int .i32 ((b0 : Int) - 224)) ∨ (i = .int .i64 1 ∧ c = .int .i32 (((b0 : Int) - 224) * 64 + ((b1 : Int) - 128)) ∧ 128 ≤ b1 ∧ b1 < 192) ∨ (i = .int .i64 2 ∧ c = .int .i32 ((((b0 : Int) - 224) * 64 + ((b1 : Int) - 128)) * 64 + ((b2 : Int) - 128)) ∧ 128 ≤ b1 ∧ b1 < 192 ∧ 128 ≤ b2 ∧ b2 < 192)

set_option maxHeartbeats 4000000 in
set_option maxRecDepth 1000000 in
theorem char_D (b off cap len : Nat) (w : World) (b0 b1 b2 : Nat) (hs : 3 ≤ len) (hs2 : len ≤ 1000000000000) (hcap : len ≤ cap) (hr : 224 ≤ b0) (hr2 : b0 < 240) (h1 : b1 < 256) (h2 : b2 < 256)
    (c0 : w.cell? ⟨b, off, none⟩ = some (.int .u8 b0)) (c1 : w.cell? ⟨b, off + 1, none⟩ = some (.int .u8 b1)) (c2 : w.cell? ⟨b, off + 1 + 1, none⟩ = some (.int .u8 b2)) :
    Calls Try.prog 51 #[.slice (some ⟨b, off, none⟩) len cap] w fun e w' => (∃ c n : Int, e = .returned (.tuple #[.int .i32 c, .int .i64 n]) ∧
      PostD b0 b1 b2 c n) ∧ w = w' := by
  go_enter Try.func51, Try.ntmps51
  go_wp2
  go_loop [4, 54] (fun c i => RelD b0 b1 b2 c i) (fun _ i => (2 - intOf i).toNat)
  case atStart => exact .inl ⟨rfl, rfl⟩
  case round =>
    rcases hrel with ⟨rfl, rfl⟩ | ⟨rfl, rfl, v1, u1x⟩ | ⟨rfl, rfl, v1, u1x, v2, u2x⟩
    · rcases (show b1 < 128 ∨ 192 ≤ b1 ∨ (128 ≤ b1 ∧ b1 < 192) by omega) with y1 | y1 | ⟨y1, y2⟩
      · go_wp2
        go_ret2
        exact ⟨⟨0, 0, rfl, .inl ⟨rfl, rfl, by omega⟩⟩, rfl⟩
      · go_wp2
        go_ret2
        exact ⟨⟨0, 0, rfl, .inl ⟨rfl, rfl, by omega⟩⟩, rfl⟩
      · go_wp2
        refine ⟨⟨_, _, _, _, _, ?_, rfl, rfl, rfl, rfl, rfl⟩, ?_⟩
        · exact .inr (.inl ⟨by go_num, by go_num, y1, y2⟩)
        · decide
    · rcases (show b2 < 128 ∨ 192 ≤ b2 ∨ (128 ≤ b2 ∧ b2 < 192) by omega) with y1 | y1 | ⟨y1, y2⟩
      · go_wp2
        go_ret2
        exact ⟨⟨0, 0, rfl, .inl ⟨rfl, rfl, by omega⟩⟩, rfl⟩
      · go_wp2
        go_ret2
        exact ⟨⟨0, 0, rfl, .inl ⟨rfl, rfl, by omega⟩⟩, rfl⟩
      · go_wp2
        refine ⟨⟨_, _, _, _, _, ?_, rfl, rfl, rfl, rfl, rfl⟩, ?_⟩
        · exact .inr (.inr (⟨by go_num, by go_num, v1, u1x, y1, y2⟩))
        · decide
    · have hC0 : 0 ≤ ((((b0 : Int) - 224) * 64 + ((b1 : Int) - 128)) * 64 + ((b2 : Int) - 128)) := by omega
      have hC1 : ((((b0 : Int) - 224) * 64 + ((b1 : Int) - 128)) * 64 + ((b2 : Int) - 128)) ≤ 65535 := by omega
      generalize hC : ((((b0 : Int) - 224) * 64 + ((b1 : Int) - 128)) * 64 + ((b2 : Int) - 128)) = C at *
      have HP : Hid (∀ c n : Int, (n = 0 ∧ c = 0 ∧ ¬ (2048 ≤ C ∧ C ≤ 1114111 ∧ ¬ (55296 ≤ C ∧ C < 57344))) ∨ (n = 3 ∧ (2048 ≤ C ∧ C ≤ 1114111 ∧ ¬ (55296 ≤ C ∧ C < 57344)) ∧ c = C) → PostD b0 b1 b2 c n) := by
        rintro c n (⟨e1, e2, e3⟩ | ⟨e1, e2, e3⟩)
        · exact .inl ⟨e1, e2, by rw [hC]; omega⟩
        · exact .inr ⟨e1, by rw [hC]; exact ⟨v1, u1x, v2, u2x, e2⟩, by rw [hC]; exact e3⟩
      clear hC
      rcases (show (C < 2048) ∨ (55296 ≤ C ∧ C < 57344) ∨ (2048 ≤ C ∧ C < 55296) ∨ (57344 ≤ C) by omega) with g1 | ⟨g1, g2⟩ | ⟨g1, g2⟩ | g1
      · go_wp2
        go_ret2
        exact ⟨⟨0, 0, rfl, HP.out _ _ (.inl ⟨rfl, rfl, by omega⟩)⟩, rfl⟩
      · go_wp2
        go_ret2
        exact ⟨⟨0, 0, rfl, HP.out _ _ (.inl ⟨rfl, rfl, by omega⟩)⟩, rfl⟩
      · go_wp2
        go_ret2
        exact ⟨⟨C, 3, rfl, HP.out _ _ (.inr ⟨rfl, by omega, rfl⟩)⟩, rfl⟩
      · go_wp2
        go_ret2
        exact ⟨⟨C, 3, rfl, HP.out _ _ (.inr ⟨rfl, by omega, rfl⟩)⟩, rfl⟩

def PostE (b0 b1 b2 b3 : Nat) (c n : Int) : Prop := (n = 0 ∧ c = 0 ∧ ¬ (128 ≤ b1 ∧ b1 < 192 ∧ 128 ≤ b2 ∧ b2 < 192 ∧ 128 ≤ b3 ∧ b3 < 192 ∧ 65536 ≤ (((((b0 : Int) - 240) * 64 + ((b1 : Int) - 128)) * 64 + ((b2 : Int) - 128)) * 64 + ((b3 : Int) - 128)) ∧ (((((b0 : Int) - 240) * 64 + ((b1 : Int) - 128)) * 64 + ((b2 : Int) - 128)) * 64 + ((b3 : Int) - 128)) ≤ 1114111 ∧ ¬ (55296 ≤ (((((b0 : Int) - 240) * 64 + ((b1 : Int) - 128)) * 64 + ((b2 : Int) - 128)) * 64 + ((b3 : Int) - 128)) ∧ (((((b0 : Int) - 240) * 64 + ((b1 : Int) - 128)) * 64 + ((b2 : Int) - 128)) * 64 + ((b3 : Int) - 128)) < 57344))) ∨ (n = 4 ∧ (128 ≤ b1 ∧ b1 < 192 ∧ 128 ≤ b2 ∧ b2 < 192 ∧ 128 ≤ b3 ∧ b3 < 192 ∧ 65536 ≤ (((((b0 : Int) - 240) * 64 + ((b1 : Int) - 128)) * 64 + ((b2 : Int) - 128)) * 64 + ((b3 : Int) - 128)) ∧ (((((b0 : Int) - 240) * 64 + ((b1 : Int) - 128)) * 64 + ((b2 : Int) - 128)) * 64 + ((b3 : Int) - 128)) ≤ 1114111 ∧ ¬ (55296 ≤ (((((b0 : Int) - 240) * 64 + ((b1 : Int) - 128)) * 64 + ((b2 : Int) - 128)) * 64 + ((b3 : Int) - 128)) ∧ (((((b0 : Int) - 240) * 64 + ((b1 : Int) - 128)) * 64 + ((b2 : Int) - 128)) * 64 + ((b3 : Int) - 128)) < 57344)) ∧ c = (((((b0 : Int) - 240) * 64 + ((b1 : Int) - 128)) * 64 + ((b2 : Int) - 128)) * 64 + ((b3 : Int) - 128)))
def RelE (b0 b1 b2 b3 : Nat) (c i : Value) : Prop := (i = .int .i64 0 ∧ c = .int .i32 ((b0 : Int) - 240)) ∨ (i = .int .i64 1 ∧ c = .int .i32 (((b0 : Int) - 240) * 64 + ((b1 : Int) - 128)) ∧ 128 ≤ b1 ∧ b1 < 192) ∨ (i = .int .i64 2 ∧ c = .int .i32 ((((b0 : Int) - 240) * 64 + ((b1 : Int) - 128)) * 64 + ((b2 : Int) - 128)) ∧ 128 ≤ b1 ∧ b1 < 192 ∧ 128 ≤ b2 ∧ b2 < 192) ∨ (i = .int .i64 3 ∧ c = .int .i32 (((((b0 : Int) - 240) * 64 + ((b1 : Int) - 128)) * 64 + ((b2 : Int) - 128)) * 64 + ((b3 : Int) - 128)) ∧ 128 ≤ b1 ∧ b1 < 192 ∧ 128 ≤ b2 ∧ b2 < 192 ∧ 128 ≤ b3 ∧ b3 < 192)

set_option maxHeartbeats 4000000 in
set_option maxRecDepth 1000000 in
theorem char_E (b off cap len : Nat) (w : World) (b0 b1 b2 b3 : Nat) (hs : 4 ≤ len) (hs2 : len ≤ 1000000000000) (hcap : len ≤ cap) (hr : 240 ≤ b0) (hr2 : b0 < 248) (h1 : b1 < 256) (h2 : b2 < 256) (h3 : b3 < 256)
    (c0 : w.cell? ⟨b, off, none⟩ = some (.int .u8 b0)) (c1 : w.cell? ⟨b, off + 1, none⟩ = some (.int .u8 b1)) (c2 : w.cell? ⟨b, off + 1 + 1, none⟩ = some (.int .u8 b2)) (c3 : w.cell? ⟨b, off + 1 + 2, none⟩ = some (.int .u8 b3)) :
    Calls Try.prog 51 #[.slice (some ⟨b, off, none⟩) len cap] w fun e w' => (∃ c n : Int, e = .returned (.tuple #[.int .i32 c, .int .i64 n]) ∧
      PostE b0 b1 b2 b3 c n) ∧ w = w' := by
  go_enter Try.func51, Try.ntmps51
  go_wp2
  go_loop [4, 54] (fun c i => RelE b0 b1 b2 b3 c i) (fun _ i => (3 - intOf i).toNat)
  case atStart => exact .inl ⟨rfl, rfl⟩
  case round =>
    rcases hrel with ⟨rfl, rfl⟩ | ⟨rfl, rfl, v1, u1x⟩ | ⟨rfl, rfl, v1, u1x, v2, u2x⟩ | ⟨rfl, rfl, v1, u1x, v2, u2x, v3, u3x⟩
    · rcases (show b1 < 128 ∨ 192 ≤ b1 ∨ (128 ≤ b1 ∧ b1 < 192) by omega) with y1 | y1 | ⟨y1, y2⟩
      · go_wp2
        go_ret2
        exact ⟨⟨0, 0, rfl, .inl ⟨rfl, rfl, by omega⟩⟩, rfl⟩
      · go_wp2
        go_ret2
        exact ⟨⟨0, 0, rfl, .inl ⟨rfl, rfl, by omega⟩⟩, rfl⟩
      · go_wp2
        refine ⟨⟨_, _, _, _, _, ?_, rfl, rfl, rfl, rfl, rfl⟩, ?_⟩
        · exact .inr (.inl ⟨by go_num, by go_num, y1, y2⟩)
        · decide
    · rcases (show b2 < 128 ∨ 192 ≤ b2 ∨ (128 ≤ b2 ∧ b2 < 192) by omega) with y1 | y1 | ⟨y1, y2⟩
      · go_wp2
        go_ret2
        exact ⟨⟨0, 0, rfl, .inl ⟨rfl, rfl, by omega⟩⟩, rfl⟩
      · go_wp2
        go_ret2
        exact ⟨⟨0, 0, rfl, .inl ⟨rfl, rfl, by omega⟩⟩, rfl⟩
      · go_wp2
        refine ⟨⟨_, _, _, _, _, ?_, rfl, rfl, rfl, rfl, rfl⟩, ?_⟩
        · exact .inr (.inr (.inl ⟨by go_num, by go_num, v1, u1x, y1, y2⟩))
        · decide
    · rcases (show b3 < 128 ∨ 192 ≤ b3 ∨ (128 ≤ b3 ∧ b3 < 192) by omega) with y1 | y1 | ⟨y1, y2⟩
      · go_wp2
        go_ret2
        exact ⟨⟨0, 0, rfl, .inl ⟨rfl, rfl, by omega⟩⟩, rfl⟩
      · go_wp2
        go_ret2
        exact ⟨⟨0, 0, rfl, .inl ⟨rfl, rfl, by omega⟩⟩, rfl⟩
      · go_wp2
        refine ⟨⟨_, _, _, _, _, ?_, rfl, rfl, rfl, rfl, rfl⟩, ?_⟩
        · exact .inr (.inr (.inr (⟨by go_num, by go_num, v1, u1x, v2, u2x, y1, y2⟩)))
        · decide
    · have hC0 : 0 ≤ (((((b0 : Int) - 240) * 64 + ((b1 : Int) - 128)) * 64 + ((b2 : Int) - 128)) * 64 + ((b3 : Int) - 128)) := by omega
      have hC1 : (((((b0 : Int) - 240) * 64 + ((b1 : Int) - 128)) * 64 + ((b2 : Int) - 128)) * 64 + ((b3 : Int) - 128)) ≤ 2097151 := by omega
      generalize hC : (((((b0 : Int) - 240) * 64 + ((b1 : Int) - 128)) * 64 + ((b2 : Int) - 128)) * 64 + ((b3 : Int) - 128)) = C at *
      have HP : Hid (∀ c n : Int, (n = 0 ∧ c = 0 ∧ ¬ (65536 ≤ C ∧ C ≤ 1114111 ∧ ¬ (55296 ≤ C ∧ C < 57344))) ∨ (n = 4 ∧ (65536 ≤ C ∧ C ≤ 1114111 ∧ ¬ (55296 ≤ C ∧ C < 57344)) ∧ c = C) → PostE b0 b1 b2 b3 c n) := by
        rintro c n (⟨e1, e2, e3⟩ | ⟨e1, e2, e3⟩)
        · exact .inl ⟨e1, e2, by rw [hC]; omega⟩
        · exact .inr ⟨e1, by rw [hC]; exact ⟨v1, u1x, v2, u2x, v3, u3x, e2⟩, by rw [hC]; exact e3⟩
      clear hC
      rcases (show (C < 65536) ∨ (1114111 < C) ∨ (65536 ≤ C ∧ C ≤ 1114111) by omega) with g1 | g1 | ⟨g1, g2⟩
      · go_wp2
        go_ret2
        exact ⟨⟨0, 0, rfl, HP.out _ _ (.inl ⟨rfl, rfl, by omega⟩)⟩, rfl⟩
      · go_wp2
        go_ret2
        exact ⟨⟨0, 0, rfl, HP.out _ _ (.inl ⟨rfl, rfl, by omega⟩)⟩, rfl⟩
      · go_wp2
        go_ret2
        exact ⟨⟨C, 4, rfl, HP.out _ _ (.inr ⟨rfl, by omega, rfl⟩)⟩, rfl⟩

end Go.Proofs.Ytihdiaklhkecmab
