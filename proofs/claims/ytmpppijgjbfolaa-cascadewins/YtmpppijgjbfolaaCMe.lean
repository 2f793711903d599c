/- The pile's methods, as an interface value of its pointer finds them. -/
import Derived.Test.YtmpppijgjbfolaaCLs
namespace Go.Proofs.Ytmpppijgjbfolaa.C
open Go.RowKit
set_option maxRecDepth 100000

theorem m_push (w : World) (B : Nat) : (method 226 66 (.pointer (some ⟨B, 0, none⟩)) "Push").run Try.prog w = .ok (84, .pointer (some ⟨B, 0, none⟩)) w := by kernel_rfl
theorem m_pop (w : World) (B : Nat) : (method 226 66 (.pointer (some ⟨B, 0, none⟩)) "Pop").run Try.prog w = .ok (83, .pointer (some ⟨B, 0, none⟩)) w := by kernel_rfl
theorem load51 {w : World} {B n c : Nat} {a : Option Addr} (h : w.cell? ⟨B, 0, none⟩ = some (.slice a n c)) : (loadVar 51 ⟨B, 0, none⟩).run Try.prog w = .ok (.slice a n c) w := by
  have a1 := Try.isAgg51
  simp [loadVar, go_sem, a1, h]
theorem wrapN (w : World) (p : Addr) (s : String) : (Builtin.ssaWrapNilChk_ #[66] 66 #[.pointer (some p), strVal "", strVal s]).run Try.prog w = .ok (.pointer (some p)) w := rfl
theorem m_len {w : World} {B n c : Nat} {a : Option Addr} (h : w.cell? ⟨B, 0, none⟩ = some (.slice a n c)) : (method 226 66 (.pointer (some ⟨B, 0, none⟩)) "Len").run Try.prog w = .ok (32, .slice a n c) w := by
  obtain ⟨i, h1⟩ : ∃ i, Try.prog.info? 66 = some i := ⟨_, by rfl⟩
  obtain ⟨m, h2, h3, h4⟩ : ∃ m, (((Try.prog.info? 66).map fun i => i.methods.find? (·.name == "Len")) = some (some m)) ∧ m.path = #[] ∧ m.func = some (32, false) := ⟨_, by rfl, by rfl, by rfl⟩
  rw [h1] at h2
  have h2 : i.methods.find? (·.name == "Len") = some m := by simpa using h2
  have ht : (typeInfo 66).run Try.prog w = .ok i w := by simp [typeInfo, h1]
  rw [method, Sem.run_bind, ht, Result.andThen_ok]
  simp only [h2, h3, h4]
  simp only [follow, Sem.run_bind, Sem.run_pure, Result.andThen_ok, receiverAt, run_underlying Try.underlying66, Place.get]
  generalize ("Len".splitOn ".").getLastD "Len" = s
  have ha : (asAddr (.pointer (some ⟨B, 0, none⟩))).run Try.prog w = .ok ⟨B, 0, none⟩ w := rfl
  simp only [show (#[] : Array FieldStep).isEmpty = true from rfl, if_true, Sem.run_bind, wrapN, Result.andThen_ok, ha, load51 h]
theorem m_less {w : World} {B n c : Nat} {a : Option Addr} (h : w.cell? ⟨B, 0, none⟩ = some (.slice a n c)) : (method 226 66 (.pointer (some ⟨B, 0, none⟩)) "Less").run Try.prog w = .ok (81, .slice a n c) w := by
  obtain ⟨i, h1⟩ : ∃ i, Try.prog.info? 66 = some i := ⟨_, by rfl⟩
  obtain ⟨m, h2, h3, h4⟩ : ∃ m, (((Try.prog.info? 66).map fun i => i.methods.find? (·.name == "Less")) = some (some m)) ∧ m.path = #[] ∧ m.func = some (81, false) := ⟨_, by rfl, by rfl, by rfl⟩
  rw [h1] at h2
  have h2 : i.methods.find? (·.name == "Less") = some m := by simpa using h2
  have ht : (typeInfo 66).run Try.prog w = .ok i w := by simp [typeInfo, h1]
  rw [method, Sem.run_bind, ht, Result.andThen_ok]
  simp only [h2, h3, h4]
  simp only [follow, Sem.run_bind, Sem.run_pure, Result.andThen_ok, receiverAt, run_underlying Try.underlying66, Place.get]
  generalize ("Less".splitOn ".").getLastD "Less" = s
  have ha : (asAddr (.pointer (some ⟨B, 0, none⟩))).run Try.prog w = .ok ⟨B, 0, none⟩ w := rfl
  simp only [show (#[] : Array FieldStep).isEmpty = true from rfl, if_true, Sem.run_bind, wrapN, Result.andThen_ok, ha, load51 h]
theorem m_swap {w : World} {B n c : Nat} {a : Option Addr} (h : w.cell? ⟨B, 0, none⟩ = some (.slice a n c)) : (method 226 66 (.pointer (some ⟨B, 0, none⟩)) "Swap").run Try.prog w = .ok (82, .slice a n c) w := by
  obtain ⟨i, h1⟩ : ∃ i, Try.prog.info? 66 = some i := ⟨_, by rfl⟩
  obtain ⟨m, h2, h3, h4⟩ : ∃ m, (((Try.prog.info? 66).map fun i => i.methods.find? (·.name == "Swap")) = some (some m)) ∧ m.path = #[] ∧ m.func = some (82, false) := ⟨_, by rfl, by rfl, by rfl⟩
  rw [h1] at h2
  have h2 : i.methods.find? (·.name == "Swap") = some m := by simpa using h2
  have ht : (typeInfo 66).run Try.prog w = .ok i w := by simp [typeInfo, h1]
  rw [method, Sem.run_bind, ht, Result.andThen_ok]
  simp only [h2, h3, h4]
  simp only [follow, Sem.run_bind, Sem.run_pure, Result.andThen_ok, receiverAt, run_underlying Try.underlying66, Place.get]
  generalize ("Swap".splitOn ".").getLastD "Swap" = s
  have ha : (asAddr (.pointer (some ⟨B, 0, none⟩))).run Try.prog w = .ok ⟨B, 0, none⟩ w := rfl
  simp only [show (#[] : Array FieldStep).isEmpty = true from rfl, if_true, Sem.run_bind, wrapN, Result.andThen_ok, ha, load51 h]
end Go.Proofs.Ytmpppijgjbfolaa.C
