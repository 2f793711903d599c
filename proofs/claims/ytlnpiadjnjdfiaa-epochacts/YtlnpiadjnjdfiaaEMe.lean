/- The pile's methods, as an interface value of its pointer finds them. -/
import Derived.Test.YtlnpiadjnjdfiaaELs
namespace Go.Proofs.Ytlnpiadjnjdfiaa.E
open Go.RowKit
set_option maxRecDepth 100000

theorem m_push (w : World) (B : Nat) : (method 248 78 (.pointer (some ⟨B, 12, none⟩)) "Push").run Try.prog w = .ok (113, .pointer (some ⟨B, 12, none⟩)) w := by kernel_rfl
theorem m_pop (w : World) (B : Nat) : (method 248 78 (.pointer (some ⟨B, 12, none⟩)) "Pop").run Try.prog w = .ok (112, .pointer (some ⟨B, 12, none⟩)) w := by kernel_rfl
theorem load67 {w : World} {B n c : Nat} {a : Option Addr} (h : w.cell? ⟨B, 12, none⟩ = some (.slice a n c)) : (loadVar 67 ⟨B, 12, none⟩).run Try.prog w = .ok (.slice a n c) w := by
  have a1 := Try.isAgg67
  simp [loadVar, go_sem, a1, h]
theorem wrapN (w : World) (p : Addr) (s : String) : (Builtin.ssaWrapNilChk_ #[78] 78 #[.pointer (some p), strVal "", strVal s]).run Try.prog w = .ok (.pointer (some p)) w := rfl
theorem m_len {w : World} {B n c : Nat} {a : Option Addr} (h : w.cell? ⟨B, 12, none⟩ = some (.slice a n c)) : (method 248 78 (.pointer (some ⟨B, 12, none⟩)) "Len").run Try.prog w = .ok (109, .slice a n c) w := by
  obtain ⟨i, h1⟩ : ∃ i, Try.prog.info? 78 = some i := ⟨_, by rfl⟩
  obtain ⟨m, h2, h3, h4⟩ : ∃ m, (((Try.prog.info? 78).map fun i => i.methods.find? (·.name == "Len")) = some (some m)) ∧ m.path = #[] ∧ m.func = some (109, false) := ⟨_, by rfl, by rfl, by rfl⟩
  rw [h1] at h2
  have h2 : i.methods.find? (·.name == "Len") = some m := by simpa using h2
  have ht : (typeInfo 78).run Try.prog w = .ok i w := by simp [typeInfo, h1]
  rw [method, Sem.run_bind, ht, Result.andThen_ok]
  simp only [h2, h3, h4]
  simp only [follow, Sem.run_bind, Sem.run_pure, Result.andThen_ok, receiverAt, run_underlying Try.underlying78, Place.get]
  generalize ("Len".splitOn ".").getLastD "Len" = s
  have ha : (asAddr (.pointer (some ⟨B, 12, none⟩))).run Try.prog w = .ok ⟨B, 12, none⟩ w := rfl
  simp only [show (#[] : Array FieldStep).isEmpty = true from rfl, if_true, Sem.run_bind, wrapN, Result.andThen_ok, ha, load67 h]
theorem m_less {w : World} {B n c : Nat} {a : Option Addr} (h : w.cell? ⟨B, 12, none⟩ = some (.slice a n c)) : (method 248 78 (.pointer (some ⟨B, 12, none⟩)) "Less").run Try.prog w = .ok (110, .slice a n c) w := by
  obtain ⟨i, h1⟩ : ∃ i, Try.prog.info? 78 = some i := ⟨_, by rfl⟩
  obtain ⟨m, h2, h3, h4⟩ : ∃ m, (((Try.prog.info? 78).map fun i => i.methods.find? (·.name == "Less")) = some (some m)) ∧ m.path = #[] ∧ m.func = some (110, false) := ⟨_, by rfl, by rfl, by rfl⟩
  rw [h1] at h2
  have h2 : i.methods.find? (·.name == "Less") = some m := by simpa using h2
  have ht : (typeInfo 78).run Try.prog w = .ok i w := by simp [typeInfo, h1]
  rw [method, Sem.run_bind, ht, Result.andThen_ok]
  simp only [h2, h3, h4]
  simp only [follow, Sem.run_bind, Sem.run_pure, Result.andThen_ok, receiverAt, run_underlying Try.underlying78, Place.get]
  generalize ("Less".splitOn ".").getLastD "Less" = s
  have ha : (asAddr (.pointer (some ⟨B, 12, none⟩))).run Try.prog w = .ok ⟨B, 12, none⟩ w := rfl
  simp only [show (#[] : Array FieldStep).isEmpty = true from rfl, if_true, Sem.run_bind, wrapN, Result.andThen_ok, ha, load67 h]
theorem m_swap {w : World} {B n c : Nat} {a : Option Addr} (h : w.cell? ⟨B, 12, none⟩ = some (.slice a n c)) : (method 248 78 (.pointer (some ⟨B, 12, none⟩)) "Swap").run Try.prog w = .ok (111, .slice a n c) w := by
  obtain ⟨i, h1⟩ : ∃ i, Try.prog.info? 78 = some i := ⟨_, by rfl⟩
  obtain ⟨m, h2, h3, h4⟩ : ∃ m, (((Try.prog.info? 78).map fun i => i.methods.find? (·.name == "Swap")) = some (some m)) ∧ m.path = #[] ∧ m.func = some (111, false) := ⟨_, by rfl, by rfl, by rfl⟩
  rw [h1] at h2
  have h2 : i.methods.find? (·.name == "Swap") = some m := by simpa using h2
  have ht : (typeInfo 78).run Try.prog w = .ok i w := by simp [typeInfo, h1]
  rw [method, Sem.run_bind, ht, Result.andThen_ok]
  simp only [h2, h3, h4]
  simp only [follow, Sem.run_bind, Sem.run_pure, Result.andThen_ok, receiverAt, run_underlying Try.underlying78, Place.get]
  generalize ("Swap".splitOn ".").getLastD "Swap" = s
  have ha : (asAddr (.pointer (some ⟨B, 12, none⟩))).run Try.prog w = .ok ⟨B, 12, none⟩ w := rfl
  simp only [show (#[] : Array FieldStep).isEmpty = true from rfl, if_true, Sem.run_bind, wrapN, Result.andThen_ok, ha, load67 h]
end Go.Proofs.Ytlnpiadjnjdfiaa.E
