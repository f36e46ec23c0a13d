/- The drawn arguments of chapter 5. -/
import Derived.Test.YtgienfhogagdoaaDrawL01
import Derived.Deep.DeepFit
namespace Go.Proofs.Ytgienfhogagdoaa
open Go.ChangeShapes Go.WideShapes Go.ChangeAt Go.RowKit

/-- two numbers that were drawn -/
def Drawn2 (w : World) (e : Ending) (w' : World) : Prop :=
  ∃ n l : Int, 2 ≤ n ∧ n ≤ 6 ∧ -1 ≤ l ∧ l ≤ 65 ∧ e = .returned (.tuple #[.int .i64 n, .int .i64 l]) ∧ w.grownBy w' none
theorem drawDiskOf_any (a : Option Addr) (len cap : Nat) (w : World) (hR : CodeAt w a len) :
    Calls Try.prog 11 #[.slice a len cap] w (Drawn2 w) := by
  go_enter Try.func11, Try.ntmps11
  go_wp2_with fail
  go_fit (l1New_any a len cap _ hR)
  rintro e w1 ⟨c, rfl, hlt, hc1, hg1⟩
  go_wp2_with fail
  go_fit (l1From_any c _ _ _ hc1 (by omega) (by omega) (by omega))
  rintro e w2 ⟨n, ⟨n0, n1⟩, rfl, hc2, hg2⟩
  go_wp2_with fail
  go_fit (l1From_any c _ _ _ hc2 (by omega) (by omega) (by omega))
  rintro e w3 ⟨l, ⟨l0, l1⟩, rfl, hc3, hg3⟩
  go_wp2_with fail
  exact bodyPost_ret (v := .tuple #[.int .i64 n, .int .i64 l]) (by simp [results, Try.results11, go_sem]) rfl ⟨n, l, n0, n1, l0, l1, rfl, gfresh hg1 hlt (gtrans hg2 hg3)⟩
theorem drawExtraOf_any (a : Option Addr) (len cap : Nat) (w : World) (hR : CodeAt w a len) :
    Calls Try.prog 16 #[.slice a len cap] w (Drawn2 w) := by
  go_enter Try.func16, Try.ntmps16
  go_wp2_with fail
  go_fit (l1New_any a len cap _ hR)
  rintro e w1 ⟨c, rfl, hlt, hc1, hg1⟩
  go_wp2_with fail
  go_fit (l1From_any c _ _ _ hc1 (by omega) (by omega) (by omega))
  rintro e w2 ⟨n, ⟨n0, n1⟩, rfl, hc2, hg2⟩
  go_wp2_with fail
  go_fit (l1From_any c _ _ _ hc2 (by omega) (by omega) (by omega))
  rintro e w3 ⟨l, ⟨l0, l1⟩, rfl, hc3, hg3⟩
  go_wp2_with fail
  exact bodyPost_ret (v := .tuple #[.int .i64 n, .int .i64 l]) (by simp [results, Try.results16, go_sem]) rfl ⟨n, l, n0, n1, by omega, by omega, rfl, gfresh hg1 hlt (gtrans hg2 hg3)⟩
theorem drawRoomOf_any (a : Option Addr) (len cap : Nat) (w : World) (hR : CodeAt w a len) :
    Calls Try.prog 22 #[.slice a len cap] w (Drawn2 w) := by
  go_enter Try.func22, Try.ntmps22
  go_wp2_with fail
  go_fit (l1New_any a len cap _ hR)
  rintro e w1 ⟨c, rfl, hlt, hc1, hg1⟩
  go_wp2_with fail
  go_fit (l1From_any c _ _ _ hc1 (by omega) (by omega) (by omega))
  rintro e w2 ⟨n, ⟨n0, n1⟩, rfl, hc2, hg2⟩
  go_wp2_with fail
  go_fit (l1From_any c _ _ _ hc2 (by omega) (by omega) (by omega))
  rintro e w3 ⟨l, ⟨l0, l1⟩, rfl, hc3, hg3⟩
  go_wp2_with fail
  exact bodyPost_ret (v := .tuple #[.int .i64 n, .int .i64 l]) (by simp [results, Try.results22, go_sem]) rfl ⟨n, l, n0, n1, by omega, by omega, rfl, gfresh hg1 hlt (gtrans hg2 hg3)⟩
theorem drawLogicalAt_any (a : Option Addr) (len cap : Nat) (w : World) (hR : CodeAt w a len) :
    Calls Try.prog 14 #[.slice a len cap] w (Drawn3 w) := by
  go_enter Try.func14, Try.ntmps14
  go_wp2_with fail
  go_fit (l1New_any a len cap _ hR)
  rintro e w1 ⟨c, rfl, hlt, hc1, hg1⟩
  go_wp2_with fail
  go_fit (l1From_any c _ _ _ hc1 (by omega) (by omega) (by omega))
  rintro e w2 ⟨n, ⟨n0, n1⟩, rfl, hc2, hg2⟩
  go_wp2_with fail
  go_fit (l1From_any c _ _ _ hc2 (by omega) (by omega) (by omega))
  rintro e w3 ⟨l, ⟨l0, l1⟩, rfl, hc3, hg3⟩
  go_wp2_with fail
  go_fit (l1From_any c _ _ _ hc3 (by omega) (by omega) (by omega))
  rintro e w4 ⟨r, ⟨r0, r1⟩, rfl, hc4, hg4⟩
  go_wp2_with fail
  go_ret3
  exact ⟨n, l, r, ⟨by omega, by omega⟩, ⟨by omega, by omega⟩, ⟨by omega, by omega⟩, rfl, gfresh hg1 hlt (gtrans hg2 (gtrans hg3 hg4))⟩
end Go.Proofs.Ytgienfhogagdoaa
