/- Package ring at int64: Keep asks each item by saysNo, which defers: the function that the law hands in. -/
import Derived.Test.YtamcakckbabeiaaRingF
import Derived.Defers
import Derived.Recover
namespace Go.Proofs.Ytamcakckbabeiaa
namespace R8
open Go.RowKit
set_option linter.unusedVariables false

/-- Is a number even? (As Go's '%' says it.) -/
def evn (x : Int) : Bool := x.tmod 2 == 0

theorem even_any (x : Int) (w : World) :
    Calls Try.prog 18 #[.int .i64 x] w fun e w' => e = .returned (.bool (evn x)) ∧ w = w' := by
  go_enter Try.func18, Try.ntmps18
  go_wp2
  go_ret
  exact ⟨rfl, rfl⟩

/-- The deferred closure, where nothing panics: recover finds nothing. -/
theorem catch_idle (w : World) :
    CallsD Try.prog 35 #[] .returning w fun e u' w' => e = .returned (.tuple #[]) ∧ u' = .returning ∧ w' = w := by
  refine callsD_of_wpS Try.func35 rfl fun c₀ cs hu => ?_
  apply wpS_region
  simp [wpOpsS, go_sem, recoverD, hu, Try.ntmps35]
  cases c₀
  simp_all [bodyPostS, results, Try.results35]

theorem saysNo_even (x : Int) (w : World) :
    Calls Try.prog 30 #[.func (.func 18) #[] #[], .int .i64 x] w fun e w' => e = .returned (.bool (!(evn x))) ∧ w = w' := by
  go_enter_defers Try.func30, Try.ntmps30
  go_wp2_with (go_at_call 18; refine (even_any x _).mono ?_; rintro e w' ⟨rfl, rfl⟩)
  refine leaves_cons (f := 35) (args := #[]) (by simp) (by simp [go_sem]) ?_
  refine (catch_idle _).mono ?_
  rintro e u' w'' ⟨rfl, rfl, rfl⟩
  exact ⟨_, results_tmp rfl _ _ _, rfl, rfl⟩
end R8
end Go.Proofs.Ytamcakckbabeiaa
