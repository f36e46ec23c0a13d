/- The drawn arguments of chapter 1: whatever they are, they are int64, and drawing them changes nothing that was there. -/
import Derived.Test.YtnkfmjgbeoddbaaMem
import Derived.Test.YtnkfmjgbeoddbaaSpecL01
namespace Go.Proofs.Ytnkfmjgbeoddbaa
open Go.ChangeShapes Go.WideShapes Go.ChangeAt Go.RowKit

def Drawn3 (w : World) (e : Ending) (w' : World) : Prop :=
  ∃ d p v : Int, i64B d ∧ i64B p ∧ i64B v ∧ e = .returned (.tuple #[.int .i64 d, .int .i64 p, .int .i64 v]) ∧ w.grownBy w' none
theorem drawSumOf_any (a : Option Addr) (len cap : Nat) (w : World) (hR : CodeAt w a len) :
    Calls Try.prog 27 #[.slice a len cap] w (Drawn3 w) := by
  go_enter Try.func27, Try.ntmps27
  go_wp2_with fail
  refine (l1New_any a len cap _ hR).mono ?_
  rintro e w1 ⟨c, rfl, hlt, hc1, hg1⟩
  go_wp2_with fail
  refine (l1DrawDisk_any c _ hc1).mono ?_
  rintro e w2 ⟨d, ⟨hd0, hd1⟩, rfl, hc2, hg2⟩
  go_wp2_with fail
  refine (l1DrawPlace_any c _ hc2).mono ?_
  rintro e w3 ⟨p, hp, rfl, hc3, hg3⟩
  go_wp2_with fail
  refine (l1DrawValue_any c _ hc3).mono ?_
  rintro e w4 ⟨v, hv, rfl, hc4, hg4⟩
  go_wp2_with fail
  go_ret3
  exact ⟨d, p, v, ⟨by omega, by omega⟩, hp, hv, rfl, gfresh hg1 hlt (gtrans hg2 (gtrans hg3 hg4))⟩
def Drawn4 (w : World) (e : Ending) (w' : World) : Prop :=
  ∃ d p v s : Int, i64B d ∧ i64B p ∧ i64B v ∧ i64B s ∧ e = .returned (.tuple #[.int .i64 d, .int .i64 p, .int .i64 v, .int .i64 s]) ∧ w.grownBy w' none
theorem gkeep {a b c : World} (h : a.grownBy b none) (k : b.grownBy c none) : a.grownBy c none := gtrans h k
end Go.Proofs.Ytnkfmjgbeoddbaa
