/- What is above a join is above both, and the other way: the walk. Conditions: there are at most as many pairs as a machine holds. -/
import Derived.Test.YtbkpfiagoinoiaaBow
import Derived.Test.YtbkpfiagoinoiaaRnw
namespace Go.Proofs.Ytbkpfiagoinoiaa
open Go.RowKit

theorem bounds_walk (n : Int) (ao : Option Addr) (cap : Nat) (ps : List (Int × Int)) (c : Int) (w : World) (hl2 : ps.length ≤ 140737488355328) (hP : LiesP w ao ps) :
    Calls Try.prog 9 #[.int .i64 n, .slice ao ps.length cap, .int .i64 c] w fun e w' => e = .returned (.bool true) ∧ Below w.heap.size w w' :=
  bounds_walk0 n ao cap ps c w hl2 hP fun hne w1 hP1 => (rnew_any n ao cap ps w1 hl2 hP1).mono fun e w' ⟨hb, h⟩ => by
    rcases h with ⟨h, _⟩ | ⟨_, rfl⟩
    · exact absurd h hne
    · exact ⟨_, _, rfl, by simpa using hne, hb⟩
end Go.Proofs.Ytbkpfiagoinoiaa
