/- The assembly lies as it lay where the iterator's box is written. Conditions: the box is a block of one text. -/
import Derived.Test.YtmclcobklcjmnaaDoorItr
namespace Go.Proofs.YtmclcobklcjmnaaDoor
open Go.RowKit Go.Maps
set_option linter.unusedVariables false
set_option linter.unusedSimpArgs false
theorem Asm.box {n0 p mb : Nat} {S : St} {w : World} {b : Nat} {u v : Value} (h : Asm n0 p mb S w) (hb : w.heap[b]? = some (.cells #[u] 9)) : Asm n0 p mb S (w.setCell ⟨b, 0, none⟩ v) := by
  obtain ⟨h1, h2, ⟨vp, vw, hc, ho1, ho2⟩, hm⟩ := h
  have np : p ≠ b := by rintro rfl; rw [hc] at hb; cases hb
  have nm : mb ≠ b := by
    obtain ⟨D, ⟨es, clock, hb', _⟩, _⟩ := hm
    rintro rfl
    rw [hb'] at hb
    cases hb
  have g : w.grownBy (w.setCell ⟨b, 0, none⟩ v) (some b) := ⟨rfl, rfl, rfl, by simp [World.setCell], fun k _ hk => Below.heap_setCell _ _ _ _ (fun e => hk (by simp [e]))⟩
  exact ⟨h1, h2, ⟨vp, vw, (Below.heap_setCell _ _ _ _ np).trans hc, ho1.kept g (.inr (own_ne ho1 hb (by intro c fz e; cases e))), ho2.kept g (.inr (own_ne ho2 hb (by intro c fz e; cases e)))⟩, hm.of_heap (Below.heap_setCell _ _ _ _ nm)⟩
/-- the box lies as it lay behind whatever touches the assembly alone -/
theorem Oth.box {n0 p mb : Nat} {w w' : World} {b : Nat} {u : Value} (h : Oth n0 p mb w w') (hb : w.heap[b]? = some (.cells #[u] 9)) (hp : b ≠ p) (hm : b ≠ mb) : w'.heap[b]? = some (.cells #[u] 9) :=
  h.old b _ hb hp hm (by intro c fz e; cases e) (by intro c fz e; cases e)
end Go.Proofs.YtmclcobklcjmnaaDoor
