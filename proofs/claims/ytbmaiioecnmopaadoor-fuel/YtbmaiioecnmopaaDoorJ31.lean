/-
  THE LAW Fuel: good. By the verifier of the loop 'triage'.
-/
import Derived.Test.YtbmaiioecnmopaaDoorLawE
import Derived.Test.YtbmaiioecnmopaaDoorJ30
namespace Go.Proofs.YtbmaiioecnmopaaDoor
open Go.RowKit

theorem good_any (s : ByteArray) (w : World) : Calls Tryd.prog 20 #[.string s] w fun e w' => e = .returned (.bool ((Im.chk s).1 == 0)) ∧ Below w.heap.size w w' := by
  go_enter Tryd.func20, Tryd.ntmps20
  go_wp2_with fail
  refine (check_any s _).mono ?_
  rintro e w1 ⟨rfl, hb⟩
  obtain ⟨c, HC⟩ : ∃ c, Hid (Im.chk s = c) := ⟨_, rfl⟩
  rw [HC.out]
  go_wp2
  go_ret
  exact ⟨by rw [HC.out]; rfl, hb⟩
end Go.Proofs.YtbmaiioecnmopaaDoor
