/- The law of BlockBytes: what it returns. Conditions: strings are no longer than a machine holds. -/
import Derived.Test.YtnecbbflcpngcaaRpa
namespace Go.Proofs.Ytnecbbflcpngcaa
open Go.RowKit Go.Maps
set_option maxRecDepth 20000
set_option linter.unusedVariables false

set_option maxHeartbeats 1600000 in
theorem bblocks_any (d : ByteArray) (n : Int) (s : ByteArray) (w : World) (hs : d.size ≤ 281474976710656) (hn : In64 n) (hs2 : s.size ≤ 281474976710656) :
    Calls Try.prog 3 #[.string d, .int .i64 n, .string s] w fun e w' => e = .returned (.bool true) ∧ Below w.heap.size w w' := by
  have k1 := bytes_any d n w hs
  have k2 : Hid (∀ W, Calls Try.prog 11 #[.string d, .int .i64 n] W fun e w' => e = .returned (.tuple #[.string (ofL (bytS d.data.toList n)), .int .i64 (bytE d.data.toList n)]) ∧ Below W.heap.size W w') := fun W => rbytes_any d n W hs
  have k3 : Hid (∀ W, Calls Try.prog 12 #[.string s] W fun e w' => e = .returned (.tuple #[.string (ofL (parD s.data.toList)), .int .i64 (parN s.data.toList), .int .i64 (parE s.data.toList)]) ∧ Below W.heap.size W w') := fun W => parse_any s W hs2
  have k4 : Hid (∀ W, Calls Try.prog 13 #[.string s] W fun e w' => e = .returned (.tuple #[.string (ofL (parD s.data.toList)), .int .i64 (parN s.data.toList), .int .i64 (parE s.data.toList)]) ∧ Below W.heap.size W w') := fun W => rparse_any s W hs2
  have k5 : Hid (∀ W, Calls Try.prog 14 #[] W fun e w' => e = .returned (.bool true) ∧ Below W.heap.size W w') := fun W => fixed_any W
  generalize ofL (bytS d.data.toList n) = B at k1 k2
  generalize bytE d.data.toList n = b at k1 k2
  generalize ofL (parD s.data.toList) = D at k3 k4
  generalize parN s.data.toList = N at k3 k4
  generalize parE s.data.toList = E at k3 k4
  clear hs hn hs2
  go_enter Try.func3, Try.ntmps3
  go_wp2_with (first
    | (go_at_call 10; refine k1.mono ?_; rintro e w1 ⟨rfl, b1⟩)
    | (go_at_call 11; refine (k2.out _).mono ?_; rintro e w2 ⟨rfl, b2⟩)
    | (go_at_call 12; refine (k3.out _).mono ?_; rintro e w3 ⟨rfl, b3⟩)
    | (go_at_call 13; refine (k4.out _).mono ?_; rintro e w4 ⟨rfl, b4⟩)
    | (go_at_call 14; refine (k5.out _).mono ?_; rintro e w5 ⟨rfl, b5⟩))
  go_ret
  exact ⟨rfl, below_trans (below_trans (below_trans (below_trans b1 b2) b3) b4) b5⟩
end Go.Proofs.Ytnecbbflcpngcaa
