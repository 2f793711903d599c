/- The numbers of the lock's functions and types in this program. -/
import Derived.Test.YtlnpiadjnjdfiaaRows
import Derived.Conc.MuLib
import Derived.KernelRfl
namespace Go.Proofs.Ytlnpiadjnjdfiaa.E
abbrev muLink : Go.Conc.Locks.MuLink := { lock := 30, unlock := 31, ilock := 45, iunlock := 46, lockSlow := 59, unlockSlow := 62, disable := 55, enable := 57, acquire := 58, relMerge := 60, cas32 := 56, add32 := 61, tMutex := 66, tIMutex := 64, tPMutex := 86, tPIMutex := 97, tPI32 := 99, tUP := 101, tNoCopy := 61, tU32 := 62 }
theorem muLib : Go.Conc.Locks.MuLib Try.prog muLink :=
  ⟨Try.func30, Try.func31, Try.func45, Try.func46, Try.func55, Try.func57, Try.func58, Try.func60, Try.func56, Try.func61, Try.underlying64, Try.runUnderlying64, Try.sizeOf64, Try.isAgg64, Try.zeroValue64, Try.underlying66, Try.runUnderlying66, Try.sizeOf66, Try.isAgg66, Try.zeroValue66, Try.underlying86, Try.runUnderlying86, Try.sizeOf86, Try.isAgg86, Try.zeroValue86, Try.underlying97, Try.runUnderlying97, Try.sizeOf97, Try.isAgg97, Try.zeroValue97, Try.underlying99, Try.runUnderlying99, Try.sizeOf99, Try.isAgg99, Try.zeroValue99, Try.underlying101, Try.runUnderlying101, Try.sizeOf101, Try.isAgg101, Try.zeroValue101, Try.underlying61, Try.runUnderlying61, Try.sizeOf61, Try.isAgg61, Try.zeroValue61, Try.underlying21, Try.runUnderlying21, Try.sizeOf21, Try.isAgg21, Try.zeroValue21, (by kernel_rfl)⟩
end Go.Proofs.Ytlnpiadjnjdfiaa.E
