/- The small functions of package journal. Conditions: ints are within 64 bits. -/
import Derived.Test.YtjippoejaieneaaGreatJst
import Derived.BigQuiet
namespace Go.Proofs.YtjippoejaieneaaGreat
open Go.RowKit Go.Maps Go.Lib
set_option maxRecDepth 20000
set_option linter.unusedVariables false

theorem headB_any (f : Int) (w : World) : Calls Tryz.prog 115 #[.int .i64 f] w fun e w' => e = .returned (.string (ofL (Cd.putS f 8))) ∧ Below w.heap.size w w' := by
  have k : Hid (∀ W, Calls Tryz.prog 121 #[.int .i64 f, .int .i64 8] W fun e w' => e = .returned (.string (ofL (Cd.putS f 8))) ∧ Below W.heap.size W w') := fun W => Cd.put_any f 8 W (by omega) (by omega)
  go_enter Tryz.func115, Tryz.ntmps115
  go_wp2_with (go_at_call 121; refine (k.out _).mono ?_; rintro e w1 ⟨rfl, hb⟩)
  go_ret
  exact ⟨rfl, hb⟩
def headW (h f : Int) : Stp := .wr (h % 2) (Cd.putS f 8) h
theorem JX.does {l : List Stp} {F : Nat → Prop} {w w1 w' : World} {j x p : Nat} {mv : Value} {S : St} {V : Dv} {J : Jn} {ret e : Ending} (hb : Below w.heap.size w w1) (h : Does l F w1 j x p mv S V J ret e w') : Does l F w j x p mv S V J ret e w' :=
  ⟨h.1, TX.trans (Gr.refl _ _ _) (Ch.of_below hb) h.2⟩
set_option maxHeartbeats 1000000 in
theorem jhead_any (F : Nat → Prop) (j x p : Nat) (mv : Value) (S : St) (V : Dv) (J : Jn) (n f : Int) (w : World) (h : JX w F j x p mv S V J) (hn : 0 ≤ n) :
    Calls Tryz.prog 89 #[.pointer (some ⟨j, 0, none⟩), .int .i64 n, .int .i64 f] w (Does [headW n f] F w j x p mv S V J (.returned (.tuple #[]))) := by
  have hd : ofL (Cd.putS f 8) = ofL (Cd.putS f 8) := rfl
  have k : Hid (∀ W, Below w.heap.size w W → Calls Tryz.prog 90 #[.pointer (some ⟨j, 0, none⟩), .int .i64 (n % 2), .string (ofL (Cd.putS f 8)), .int .i64 n] W (Does [headW n f] F W j x p mv S V J (.returned (.tuple #[])))) := fun W hb => by
    have := jwrite_any F j x p mv S V J (n % 2) (ofL (Cd.putS f 8)) n W (h.below hb) (by rw [ofL_size, Cd.putS_length]; omega)
    rwa [ofL_list] at this
  have hrem : n.tmod 2 = n % 2 := Int.tmod_eq_emod_of_nonneg hn
  clear h
  by_cases q : gone [headW n f] S V = true
  · go_enter Tryz.func89, Tryz.ntmps89
    go_wp2_with (first
      | (go_at_call 115; refine (headB_any _ _).mono ?_; rintro e w1 ⟨rfl, hb⟩)
      | (go_at_call 90; (with_reducible refine (k.out _ hb).mono ?_); intro e w2 hd2; obtain ⟨rfl, _⟩ := hd2.no q))
    exact ⟨rfl, JX.does hb hd2⟩
  · have q : gone [headW n f] S V = false := by simpa using q
    go_enter Tryz.func89, Tryz.ntmps89
    go_wp2_with (first
      | (go_at_call 115; refine (headB_any _ _).mono ?_; rintro e w1 ⟨rfl, hb⟩)
      | (go_at_call 90; (with_reducible refine (k.out _ hb).mono ?_); intro e w2 hd2; obtain ⟨rfl, _⟩ := hd2.yes q))
    go_end0
    exact JX.does hb hd2
theorem mostFrom_any (F : Nat → Prop) (j x p : Nat) (mv : Value) (S : St) (V : Dv) (J : Jn) (a : Int) (w : World) (h : JX w F j x p mv S V J) (ha : J.area ≤ 4096) (h0 : 0 ≤ a) (h1 : a ≤ 8192) :
    Calls Tryz.prog 62 #[.pointer (some ⟨j, 0, none⟩), .int .i64 a] w fun e w' => e = .returned (.int .i64 (max 0 (min 40 ((J.area : Int) - a - 1)))) ∧ w = w' := by
  obtain ⟨c0, c1, _⟩ := h.cells
  go_enter Tryz.func62, Tryz.ntmps62
  go_wp2
  go_ret
  exact ⟨rfl, rfl⟩
def mostN (area a : Int) : Int := max 0 (min 40 (area - a - 1))
theorem room_any (F : Nat → Prop) (j x p : Nat) (mv : Value) (S : St) (V : Dv) (J : Jn) (w : World) (h : JX w F j x p mv S V J) (ha : J.area ≤ 4096) (h0 : 0 ≤ J.en) (h1 : J.en ≤ 8192) :
    Calls Tryz.prog 26 #[.pointer (some ⟨j, 0, none⟩)] w fun e w' => e = .returned (.int .i64 (mostN J.area J.en)) ∧ w = w' := by
  obtain ⟨c0, c1, c2, c3, c4, _⟩ := h.cells
  have k := Lib.hid (mostFrom_any F j x p mv S V J J.en w h ha h0 h1)
  clear h
  go_enter Tryz.func26, Tryz.ntmps26
  go_wp2_with (go_at_call 62; refine k.out.mono ?_; rintro e w1 ⟨rfl, rfl⟩)
  go_ret
  exact ⟨rfl, rfl⟩
theorem most_any (F : Nat → Prop) (j x p : Nat) (mv : Value) (S : St) (V : Dv) (J : Jn) (w : World) (h : JX w F j x p mv S V J) (ha : J.area ≤ 4096) :
    Calls Tryz.prog 27 #[.pointer (some ⟨j, 0, none⟩)] w fun e w' => e = .returned (.int .i64 (mostN J.area 2)) ∧ w = w' := by
  have k := Lib.hid (mostFrom_any F j x p mv S V J 2 w h ha (by omega) (by omega))
  clear h
  go_enter Tryz.func27, Tryz.ntmps27
  go_wp2_with (go_at_call 62; refine k.out.mono ?_; rintro e w1 ⟨rfl, rfl⟩)
  go_ret
  exact ⟨rfl, rfl⟩
theorem next_any (F : Nat → Prop) (j x p : Nat) (mv : Value) (S : St) (V : Dv) (J : Jn) (w : World) (h : JX w F j x p mv S V J) :
    Calls Tryz.prog 23 #[.pointer (some ⟨j, 0, none⟩)] w fun e w' => e = .returned (.int .i64 J.next) ∧ w = w' := by
  obtain ⟨c0, c1, c2, c3, _⟩ := h.cells
  clear h
  go_enter Tryz.func23, Tryz.ntmps23
  go_wp2
  go_ret
  exact ⟨rfl, rfl⟩
theorem jdead_any (F : Nat → Prop) (j x p : Nat) (mv : Value) (S : St) (V : Dv) (J : Jn) (w : World) (h : JX w F j x p mv S V J) :
    Calls Tryz.prog 68 #[.pointer (some ⟨j, 0, none⟩)] w fun e w' => e = .returned (.bool J.dead) ∧ w = w' := by
  obtain ⟨c0, c1, c2, c3, c4, c5, c6⟩ := h.cells
  clear h
  go_enter Tryz.func68, Tryz.ntmps68
  go_wp2
  go_ret
  exact ⟨rfl, rfl⟩
theorem JX.cnt {w : World} {F : Nat → Prop} {j x p : Nat} {mv : Value} {S : St} {V : Dv} {J : Jn} (h : JX w F j x p mv S V J) : Calls Tryz.prog 63 #[.pointer (some ⟨x, 0, none⟩)] w fun e w' => e = .returned (.int .i64 (V.cnt : Int)) ∧ w = w' := by
  obtain ⟨Fd, Fv, _, hv, _⟩ := h.ext
  exact count_any' Fv x p V w hv
theorem cells_any (F : Nat → Prop) (j x p : Nat) (mv : Value) (S : St) (V : Dv) (J : Jn) (w : World) (h : JX w F j x p mv S V J) (ha : J.area < V.cnt) :
    Calls Tryz.prog 29 #[.pointer (some ⟨j, 0, none⟩)] w fun e w' => e = .returned (.int .i64 ((V.cnt - J.area : Nat) : Int)) ∧ Below w.heap.size w w' := by
  obtain ⟨c0, c1, _⟩ := h.cells
  have k := Lib.hid (JX.cnt (h.below (below_drew (Below.refl _ w))))
  have hc := h.good.fit
  unfold Fit at hc
  have hcn : V.cnt ≤ 4096 := by omega
  have hz : IntKind.i64.wrap ((V.cnt : Int) - (J.area : Int)) = ((V.cnt - J.area : Nat) : Int) := by rw [IntKind.wrap_i64]; omega
  clear h hc
  go_enter Tryz.func29, Tryz.ntmps29
  go_wp2_with fail
  go_region_held3 (fun w' => w'.cell? ⟨j, 0, none⟩ = some (.pointer (some ⟨x, 0, none⟩)) ∧ w'.cell? ⟨j, 1, none⟩ = some (.int .i64 (J.area : Int)))
    (exact ⟨c0, c1⟩)
    (first
      | (go_at_call 63; (with_reducible refine k.out.mono ?_); rintro e w1 ⟨rfl, rfl⟩))
  all_goals
    go_wp2
    go_ret
    exact ⟨rfl, below_drew (Below.refl _ w)⟩
def isC (J : Jn) (V : Dv) (c : Int) : Bool := decide (0 ≤ c) && decide (c < ((V.cnt - J.area : Nat) : Int))
theorem isCell_any (F : Nat → Prop) (j x p : Nat) (mv : Value) (S : St) (V : Dv) (J : Jn) (c : Int) (w : World) (h : JX w F j x p mv S V J) (ha : J.area < V.cnt) :
    Calls Tryz.prog 52 #[.pointer (some ⟨j, 0, none⟩), .int .i64 c] w fun e w' => e = .returned (.bool (isC J V c)) ∧ Below w.heap.size w w' := by
  have k := Lib.hid (cells_any F j x p mv S V J w h ha)
  clear h
  by_cases q : 0 ≤ c
  · have q1 : decide (0 ≤ c) = true := decide_eq_true q
    go_enter Tryz.func52, Tryz.ntmps52
    go_wp2_with (go_at_call 29; refine k.out.mono ?_; rintro e w1 ⟨rfl, hb⟩)
    go_ret
    unfold isC
    rw [q1]
    exact ⟨rfl, hb⟩
  · have q1 : decide (0 ≤ c) = false := decide_eq_false q
    go_enter Tryz.func52, Tryz.ntmps52
    go_wp2_with fail
    go_ret
    unfold isC
    rw [q1]
    exact ⟨rfl, Below.refl _ _⟩
/-- data of a text: cut, or with noughts behind -/
def dataB (d : Bts) : Bts := (d ++ List.replicate 116 0).take 116
theorem dataB_len (d : Bts) : (dataB d).length = 116 := by simp [dataB]
theorem dataB_pad {d : Bts} (h : d.length ≤ 116) : dataB d = padB d := by
  unfold dataB padB
  rw [List.take_append, List.take_of_length_le h, List.take_replicate]
  congr 2; omega
end Go.Proofs.YtjippoejaieneaaGreat
