/- The drawn arguments of chapter 5. -/
import Derived.Test.YtdfhfebcbmolbaaGreatDoorDrawL01
import Derived.Deep.DeepFit
namespace Go.Proofs.YtdfhfebcbmolbaaGreatDoor
open Go.ChangeShapes Go.WideShapes Go.ChangeAt Go.RowKit

/-- two numbers that were drawn -/
def Drawn2 (w : World) (e : Ending) (w' : World) : Prop :=
  ∃ n l : Int, 2 ≤ n ∧ n ≤ 6 ∧ -1 ≤ l ∧ l ≤ 65 ∧ e = .returned (.tuple #[.int .i64 n, .int .i64 l]) ∧ w.grownBy w' none
theorem drawRoomOf_any (a : Option Addr) (len cap : Nat) (w : World) (hR : CodeAt w a len) :
    Calls Tryz.prog 99 #[.slice a len cap] w (Drawn2 w) := by
  go_enter Tryz.func99, Tryz.ntmps99
  go_wp2_with fail
  go_fit (l1New_any a len cap _ hR)
  rintro e w1 ⟨c, rfl, hlt, hc1, hg1⟩
  go_wp2_with fail
  go_fit (l1From_any c _ _ _ hc1 (by omega) (by omega) (by omega))
  rintro e w2 ⟨n, ⟨n0, n1⟩, rfl, hc2, hg2⟩
  go_wp2_with fail
  go_fit (l1From_any c _ _ _ hc2 (by omega) (by omega) (by omega))
  rintro e w3 ⟨l, ⟨l0, l1⟩, rfl, hc3, hg3⟩
  go_wp2_with fail
  exact bodyPost_ret (v := .tuple #[.int .i64 n, .int .i64 l]) (by simp [results, Tryz.results99, go_sem]) rfl ⟨n, l, n0, n1, by omega, by omega, rfl, gfresh hg1 hlt (gtrans hg2 hg3)⟩
end Go.Proofs.YtdfhfebcbmolbaaGreatDoor
