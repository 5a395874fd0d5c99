/- Why writes can be no transaction; a record is counted; a checkpoint. Conditions: ints are within 64 bits. -/
import Derived.Test.YtjippoejaieneaaGreatJac
import Derived.Test.YtjippoejaieneaaGreatJly
namespace Go.Proofs.YtjippoejaieneaaGreat
open Go.RowKit Go.Maps
set_option maxRecDepth 20000
set_option linter.unusedVariables false

/-- why writes can be no transaction -/
def refJ (J : Jn) (V : Dv) (l : List Wt) : Int :=
  if mostN J.area 2 < (l.length : Int) ∨ l.any longB = true then 162 else if okL J V l = false then 161 else if J.next = 4611686018427387904 then 160 else 0
set_option maxHeartbeats 2000000 in
theorem refJ_any (F G : Nat → Prop) (j x p : Nat) (mv : Value) (S : St) (V : Dv) (J : Jn) (v : Value) (l : List Wt) (w : World) (hx : JX w F j x p mv S V J) (hv : WV w G v l) (ha : J.area < V.cnt) (hl : l.length ≤ 17592186044416) :
    Calls Tryz.prog 58 #[.pointer (some ⟨j, 0, none⟩), v] w fun e w' => e = .returned (.int .i64 (refJ J V l)) ∧ Below w.heap.size w w' := by
  have hcn : J.area ≤ 4096 := by have := hx.good.fit; unfold Fit at this; omega
  have KM := Lib.hid (most_any F j x p mv S V J w hx hcn)
  have KL := Lib.hid (hasL_any G v l w hv hl)
  have KA : Hid (∀ W, Below w.heap.size w W → Calls Tryz.prog 93 #[.pointer (some ⟨j, 0, none⟩), v] W fun e w' => e = .returned (.bool (okL J V l)) ∧ Below W.heap.size W w') := fun W hb => areCells_any F G j x p mv S V J v l W (hx.below hb) (hv.below hb) ha hl
  have HC : Hid (∀ W, Below w.heap.size w W → W.cell? ⟨j, 3, none⟩ = some (.int .i64 J.next)) := fun W hb => by
    obtain ⟨_, _, _, c3, _⟩ := (hx.below hb).cells
    exact c3
  obtain ⟨q, cap, hve, hlc, _⟩ := hv
  obtain ⟨L, hL⟩ : ∃ L, L = l.length := ⟨_, rfl⟩
  rw [← hL] at hve
  have HR : Hid (refJ J V l = if mostN J.area 2 < (L : Int) ∨ l.any longB = true then 162 else if okL J V l = false then 161 else if J.next = 4611686018427387904 then 160 else 0) := by rw [hL]; rfl
  subst hve
  generalize mostN (↑J.area) 2 = MM at *
  clear hx hcn hlc hL hl
  by_cases a : MM < (L : Int)
  · have HF : Hid (refJ J V l = 162) := by rw [HR.out, if_pos (.inl a)]; rfl
    go_enter Tryz.func58, Tryz.ntmps58
    go_wp2_with (first
      | (go_at_call 27; (with_reducible refine KM.out.mono ?_); rintro e w1 ⟨rfl, rfl⟩))
    go_ret
    exact ⟨by rw [HF.out]; rfl, Below.refl _ _⟩
  · cases b : l.any longB with
    | true =>
      have HF : Hid (refJ J V l = 162) := by rw [HR.out, if_pos (.inr b)]; rfl
      go_enter Tryz.func58, Tryz.ntmps58
      go_wp2_with (first
        | (go_at_call 27; (with_reducible refine KM.out.mono ?_); rintro e w1 ⟨rfl, rfl⟩)
        | (go_at_call 91; (with_reducible refine KL.out.mono ?_); rintro e w2 ⟨rfl, hb2⟩; rw [b]))
      go_ret
      exact ⟨by rw [HF.out]; rfl, hb2⟩
    | false =>
      cases c : okL J V l with
      | false =>
        have HF : Hid (refJ J V l = 161) := by rw [HR.out, if_neg (by rw [b]; simp; omega), if_pos c]; rfl
        go_enter Tryz.func58, Tryz.ntmps58
        go_wp2_with (first
          | (go_at_call 27; (with_reducible refine KM.out.mono ?_); rintro e w1 ⟨rfl, rfl⟩)
          | (go_at_call 91; (with_reducible refine KL.out.mono ?_); rintro e w2 ⟨rfl, hb2⟩; rw [b])
          | (go_at_call 93; (with_reducible refine (KA.out _ hb2).mono ?_); rintro e w3 ⟨rfl, hb3⟩; rw [c]))
        go_ret
        exact ⟨by rw [HF.out]; rfl, hb2.trans (hb3.mono hb2.size)⟩
      | true =>
        by_cases d : J.next = 4611686018427387904
        · have HF : Hid (refJ J V l = 160) := by rw [HR.out, if_neg (by rw [b]; simp; omega), if_neg (by rw [c]; simp), if_pos d]; rfl
          go_enter Tryz.func58, Tryz.ntmps58
          go_wp2_with (first
            | (go_at_call 27; (with_reducible refine KM.out.mono ?_); rintro e w1 ⟨rfl, rfl⟩)
            | (go_at_call 91; (with_reducible refine KL.out.mono ?_); rintro e w2 ⟨rfl, hb2⟩; rw [b])
            | (go_at_call 93; (with_reducible refine (KA.out _ hb2).mono ?_); rintro e w3 ⟨rfl, hb3⟩; rw [c]; have c3 := HC.out w3 (hb2.trans (hb3.mono hb2.size))))
          go_ret
          exact ⟨by rw [HF.out]; rfl, hb2.trans (hb3.mono hb2.size)⟩
        · have HF : Hid (refJ J V l = 0) := by rw [HR.out, if_neg (by rw [b]; simp; omega), if_neg (by rw [c]; simp), if_neg d]; rfl
          go_enter Tryz.func58, Tryz.ntmps58
          go_wp2_with (first
            | (go_at_call 27; (with_reducible refine KM.out.mono ?_); rintro e w1 ⟨rfl, rfl⟩)
            | (go_at_call 91; (with_reducible refine KL.out.mono ?_); rintro e w2 ⟨rfl, hb2⟩; rw [b])
            | (go_at_call 93; (with_reducible refine (KA.out _ hb2).mono ?_); rintro e w3 ⟨rfl, hb3⟩; rw [c]; have c3 := HC.out w3 (hb2.trans (hb3.mono hb2.size))))
          go_ret
          exact ⟨by rw [HF.out]; rfl, hb2.trans (hb3.mono hb2.size)⟩
end Go.Proofs.YtjippoejaieneaaGreat
