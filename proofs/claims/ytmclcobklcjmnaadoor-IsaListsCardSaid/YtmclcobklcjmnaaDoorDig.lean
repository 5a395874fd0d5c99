/- The number of a text. Conditions: the library's variables are as they were laid. -/
import Derived.Test.YtmclcobklcjmnaaDoorNum
import Derived.Test.YtmclcobklcjmnaaDoorShlf
import Derived.WalkSmall
import Derived.Lib.SmallJoins
namespace Go.Proofs.YtmclcobklcjmnaaDoor
open Go.RowKit Go.Maps
set_option linter.unusedVariables false
set_option linter.unusedSimpArgs false

theorem gPow : Tryd.prog.globalNamed "internal/strconv.uint64pow10" = some 1 := by kernel_rfl
theorem gSyn : Tryd.prog.globalNamed "strconv.ErrSyntax" = some 2 := by kernel_rfl
theorem gRng : Tryd.prog.globalNamed "strconv.ErrRange" = some 3 := by kernel_rfl
/-- the library's variables as start-up lays them -/
structure LaidV (w : World) : Prop where
  tab : Lib.TabIs Tryd.prog w "internal/strconv.uint64pow10" .u64 Lib.pow10Tab
  syn : ∃ tp p, w.var? Tryd.prog "strconv.ErrSyntax" = some #[.iface tp p]
  rng : ∃ tp p, w.var? Tryd.prog "strconv.ErrRange" = some #[.iface tp p]
theorem LaidV.below {w w' : World} (h : LaidV w) (hb : Below w.heap.size w w') : LaidV w' := by
  obtain ⟨t1, p1, h1⟩ := h.syn
  obtain ⟨t2, p2, h2⟩ := h.rng
  exact ⟨Joins.tab_stays gPow h.tab hb (Nat.le_refl _), ⟨t1, p1, Joins.var_stays gSyn h1 hb (Nat.le_refl _)⟩, ⟨t2, p2, Joins.var_stays gRng h2 hb (Nat.le_refl _)⟩⟩
def digN (l : Bs) : Int := match Lib.atoiAll l with | .ok v => v | .«syntax» => 0 | .range => Lib.atoiSat l
def digB (l : Bs) : Bool := (numE (Lib.atoiAll l)).isSome
/-- nil, or an error -/
def isErr (v : Value) : Prop := v = .nilIface ∨ ∃ t p, v = .iface t p
set_option maxRecDepth 20000 in
set_option maxHeartbeats 4000000 in
theorem atoi_any (s : ByteArray) (hs : s.size ≤ 281474976710656) (w : World) (hL : LaidV w) : Calls Tryd.prog 74 #[.string s] w fun e w' => (∃ v, e = .returned (.tuple #[.int .i64 (digN s.data.toList), v]) ∧ (if digB s.data.toList = true then v = .nilIface else ∃ t N, v = .iface t (.pointer (some ⟨N, 0, none⟩)))) ∧ Below w.heap.size w w' := by
  unfold digN digB
  cases h : Lib.atoiAll s.data.toList with
  | ok v =>
    refine (Tryd.strconv_Atoi_ok s (by omega) v h w).mono fun e w' ⟨he, hw⟩ => ⟨⟨_, he, by simp [numE]⟩, ?_⟩
    rcases hw with rfl | ⟨t, rfl⟩
    · exact Below.refl _ _
    · exact Lib.bytesWorld_below _ _ _
  | «syntax» =>
    obtain ⟨tp, p, hv⟩ := hL.syn
    exact (Tryd.strconv_Atoi_syntax_var s hs h tp p w hv).mono fun e w' ⟨N, he, _, _, hb⟩ => ⟨⟨_, he, by simp [numE]⟩, hb⟩
  | range =>
    obtain ⟨tp, p, hv⟩ := hL.rng
    exact (Tryd.strconv_Atoi_range_var s hs h tp p w hv).mono fun e w' ⟨N, he, _, _, hb⟩ => ⟨⟨_, he, by simp [numE]⟩, hb⟩
set_option maxRecDepth 20000 in
set_option maxHeartbeats 4000000 in
theorem dig_any (s : ByteArray) (hs : s.size ≤ 281474976710656) (w : World) (hL : LaidV w) : Calls Tryd.prog 62 #[.string s] w fun e w' => e = .returned (.tuple #[.int .i64 (digN s.data.toList), .bool (digB s.data.toList)]) ∧ Below w.heap.size w w' := by
  have K := Lib.hid (atoi_any s hs w hL)
  clear hL hs
  generalize digN s.data.toList = n at *
  generalize digB s.data.toList = b at *
  cases b
  · go_enter Tryd.func62, Tryd.ntmps62
    go_wp2_with (go_at_call 74; (with_reducible refine K.out.mono ?_); rintro e w1 ⟨⟨v, rfl, hv⟩, hb⟩; rw [if_neg (by simp)] at hv; obtain ⟨t, N, rfl⟩ := hv; have HB := Lib.hid hb; clear hb)
    go_quiet (fail)
    go_wp2
    go_ret2
    exact ⟨rfl, below_drewN HB.out _⟩
  · go_enter Tryd.func62, Tryd.ntmps62
    go_wp2_with (go_at_call 74; (with_reducible refine K.out.mono ?_); rintro e w1 ⟨⟨v, rfl, hv⟩, hb⟩; rw [if_pos rfl] at hv; subst hv; have HB := Lib.hid hb; clear hb)
    go_quiet (fail)
    go_wp2
    go_ret2
    exact ⟨rfl, below_drewN HB.out _⟩
end Go.Proofs.YtmclcobklcjmnaaDoor
