/- Every call on a space against the document's: parts of which no space is. No conditions. -/
import Derived.Test.YtedhefidfepclaaRqo
namespace Go.Proofs.Ytedhefidfepclaa
open Go.RowKit Go.Maps
set_option linter.unusedVariables false
set_option linter.unusedSimpArgs false

set_option maxRecDepth 100000 in
set_option maxHeartbeats 4000000 in
theorem sdoes_no (w : World) (G : Nat → Prop) (v v1 : Value) (ps : List Pg) (ht : TabV G w v ps) (hl : ps.length ≤ 140737488355328) (hno : ¬ okL ps) : Calls Try.prog 3 #[v, v1] w fun e w' => e = .returned (.bool true) ∧ Below w.heap.size w w' := by
  have k7 := snew_no w G v ps ht hno
  have K8 : Hid (∀ W, Below w.heap.size w W → Calls Try.prog 8 #[v] W fun e w' => e = .returned (.tuple #[.pointer none, .int .i64 120]) ∧ Below w.heap.size w w') := Lib.hid fun W hW =>
    (qnew_no W G v ps (ht.below hW) hl hno).mono fun e w' ⟨h1, h2⟩ => ⟨h1, hW.trans (h2.mono hW.size)⟩
  have KF : Hid (∀ W, Below w.heap.size w W → Calls Try.prog 9 #[] W fun e w' => e = .returned (.bool true) ∧ Below w.heap.size w w') := Lib.hid fun W hW =>
    (fixed_any W).mono fun e w' ⟨h1, h2⟩ => ⟨h1, hW.trans (h2.mono hW.size)⟩
  clear ht hno
  go_enter Try.func3, Try.ntmps3
  go_wp2_with (first
    | (go_at_call 7; refine k7.mono ?_; rintro e w1 ⟨rfl, hb⟩; have H1 := Lib.hid hb; clear hb k7)
    | (go_at_call 8; refine (K8.out w1 H1.out).mono ?_; rintro e w2 ⟨rfl, hb⟩; have H2 := Lib.hid hb; clear hb)
    | (go_at_call 9; refine (KF.out w2 H2.out).mono ?_; rintro e w3 ⟨rfl, hb⟩; have H3 := Lib.hid hb; clear hb))
  go_ret
  exact ⟨rfl, H3.out⟩
end Go.Proofs.Ytedhefidfepclaa
