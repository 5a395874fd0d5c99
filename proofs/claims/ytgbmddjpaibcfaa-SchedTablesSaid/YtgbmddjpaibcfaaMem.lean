/- What a world holds: blocks, what has turned, windows in memory; what may be a window. No conditions. -/
import Derived.Test.YtgbmddjpaibcfaaRows
import Derived.WalkKit
import Derived.WalkSpells
import Derived.WalkLawsBesides
import Derived.Lib.Hide
import Derived.Lib.BufferWrite
import Derived.Maps.AppendAt
import Derived.Laws.IdiomStrings
import Derived.Laws.CopyRow
import Derived.Laws.MakeOwn
import Derived.Deep.QuietTactic
import Derived.BigQuiet
import Derived.Deep.MidRow
import Derived.Deep.WholeRow
import Derived.Deep.Cut
namespace Go.Proofs.Ytgbmddjpaibcfaa
open Go.RowKit Go.Maps
set_option linter.unusedVariables false

theorem block_lt {w : World} {b : Nat} {o : Obj} (h : w.heap[b]? = some o) : b < w.heap.size := by
  rcases Nat.lt_or_ge b w.heap.size with h' | h'
  · exact h'
  · simp [Array.getElem?_eq_none h'] at h
theorem block_setCell {w : World} {b o : Nat} {C : Array Value} {t : TypeId} {fr : Nat × Nat} {u : Value} (h : w.heap[b]? = some (.cells C t fr)) :
    (w.setCell ⟨b, o, none⟩ u).heap[b]? = some (.cells (C.setIfInBounds o u) t fr) := by
  have hlt := block_lt h
  have h' : w.heap[b] = .cells C t fr := by simpa [Array.getElem?_eq_getElem hlt] using h
  show (w.heap.modify b _)[b]? = _
  rw [Array.getElem?_eq_getElem (by simpa using hlt), Array.getElem_modify_self, h']
  rfl
theorem block_setCell_other {w : World} {b : Nat} {x : Addr} {u : Value} (h : b ≠ x.block) : (w.setCell x u).heap[b]? = w.heap[b]? := heap_setCell_other w x b u h
theorem block_free {w : World} {b o : Nat} {C : Array Value} {t : TypeId} (h : w.heap[b]? = some (.cells C t (0, 0))) : w.frozen? ⟨b, o, none⟩ = false := by simp [World.frozen?, h]
theorem block_new (w : World) (o : Obj) : (w.alloc o).heap[w.heap.size]? = some o := heap_alloc_last w o
theorem block_alloc {w : World} {b : Nat} {o : Obj} (h : w.heap[b]? = some o) (o2 : Obj) : (w.alloc o2).heap[b]? = some o := by
  rw [Below.heap_alloc w o2 b (block_lt h)]; exact h
theorem heap_below {w w' : World} {B C : Nat} {o : Obj} (h : w.heap[B]? = some o) (hb : Below C w w') (hlt : B < C) : w'.heap[B]? = some o := by
  rw [hb.block B hlt]; exact h
theorem addr_at (b o i : Nat) : (⟨b, o, none⟩ : Addr).add i = ⟨b, o + i, none⟩ := Addr.add_mid b o i
theorem below_drewN {B : Nat} {a w : World} (h : Below B a w) (n : Nat) : Below B a (w.drewN n) := ⟨h.os, h.tape, h.output, h.size, h.block⟩
theorem below_trans {w w1 w2 : World} (h : Below w.heap.size w w1) (k : Below w1.heap.size w1 w2) : Below w.heap.size w w2 := h.trans (k.mono h.size)

/-! ### what turns -/
/-- only blocks of F have turned -/
structure Ch (F : Nat → Prop) (w w' : World) : Prop where
  os : w'.os = w.os
  tape : w'.tape = w.tape
  output : w'.output = w.output
  size : w.heap.size ≤ w'.heap.size
  block : ∀ k, k < w.heap.size → ¬ F k → w'.heap[k]? = w.heap[k]?
theorem Ch.refl (F : Nat → Prop) (w : World) : Ch F w w := ⟨rfl, rfl, rfl, Nat.le_refl _, fun _ _ _ => rfl⟩
theorem Ch.of_below {F : Nat → Prop} {w w' : World} (h : Below w.heap.size w w') : Ch F w w' := ⟨h.os, h.tape, h.output, h.size, fun k hk _ => h.block k hk⟩
/-- F' has blocks of F and new ones -/
def Gr (F F' : Nat → Prop) (w w' : World) : Prop := ∀ k, F' k → F k ∨ (w.heap.size ≤ k ∧ k < w'.heap.size)
theorem Ch.trans {F F' : Nat → Prop} {w w1 w2 : World} (h : Ch F w w1) (hg : Gr F F' w w1) (k : Ch F' w1 w2) : Ch F w w2 :=
  ⟨k.os.trans h.os, k.tape.trans h.tape, k.output.trans h.output, Nat.le_trans h.size k.size, fun i hi hn => (k.block i (Nat.lt_of_lt_of_le hi h.size) (fun q => by rcases hg i q with q | q; exact hn q; omega)).trans (h.block i hi hn)⟩
theorem Gr.refl (F : Nat → Prop) (w w' : World) : Gr F F w w' := fun _ h => .inl h
theorem Gr.trans {F F1 F2 : Nat → Prop} {w w1 w2 : World} (h : Gr F F1 w w1) (k : Gr F1 F2 w1 w2) (hs : w.heap.size ≤ w1.heap.size) (hs2 : w1.heap.size ≤ w2.heap.size) : Gr F F2 w w2 := fun i hi => by
  rcases k i hi with q | q
  · rcases h i q with q | q
    · exact .inl q
    · right; omega
  · right; omega
theorem Ch.setCell {F : Nat → Prop} {w w' : World} (h : Ch F w w') {p : Nat} (hp : F p) (o : Nat) (v : Value) : Ch F w (w'.setCell ⟨p, o, none⟩ v) :=
  ⟨h.os, h.tape, h.output, by rw [show (w'.setCell ⟨p, o, none⟩ v).heap.size = w'.heap.size from by simp [World.setCell]]; exact h.size, fun k hk hn => by rw [block_setCell_other (fun e => hn (by subst e; exact hp))]; exact h.block k hk hn⟩
theorem Ch.setRow {F : Nat → Prop} {w w' : World} (h : Ch F w w') {p : Nat} (hp : F p) (cs : Array Value) : Ch F w (w'.setRow p cs) :=
  ⟨h.os, h.tape, h.output, by rw [setRow_size]; exact h.size, fun k hk hn => by rw [setRow_other _ _ _ _ (fun e => hn (by subst e; exact hp))]; exact h.block k hk hn⟩
theorem Ch.drew {F : Nat → Prop} {w w' : World} (h : Ch F w w') : Ch F w w'.drew := ⟨h.os, h.tape, h.output, h.size, h.block⟩
theorem Ch.grown {F : Nat → Prop} {w w' w'' : World} {r : Option Nat} (h : Ch F w w') (k : w'.grownBy w'' r) (hr : ∀ j, r = some j → F j ∨ w.heap.size ≤ j) : Ch F w w'' :=
  ⟨k.os.trans h.os, k.tape.trans h.tape, k.output.trans h.output, Nat.le_trans h.size k.size, fun i hi hn => (k.block i (Nat.lt_of_lt_of_le hi h.size) (fun e => by
    rcases hr i e.symm with q | q
    · exact hn q
    · omega)).trans (h.block i hi hn)⟩
theorem Ch.below {F : Nat → Prop} {B : Nat} {w w' : World} (h : Ch F w w') (hB : B ≤ w.heap.size) (hF : ∀ k, F k → B ≤ k) : Below B w w' :=
  ⟨h.os, h.tape, h.output, h.size, fun k hk => h.block k (by omega) (fun q => by have := hF k q; omega)⟩
theorem Ch.then_below {F : Nat → Prop} {w w' w'' : World} (h : Ch F w w') (k : Below w'.heap.size w' w'') : Ch F w w'' :=
  ⟨k.os.trans h.os, k.tape.trans h.tape, k.output.trans h.output, Nat.le_trans h.size k.size, fun i hi hn => (k.block i (Nat.lt_of_lt_of_le hi h.size)).trans (h.block i hi hn)⟩


theorem ret_int {k : IntKind} {a b : Int} (h : a = b) : Ending.returned (.int k a) = .returned (.int k b) := by rw [h]
theorem ret_bool {a b : Bool} (h : a = b) : Ending.returned (.bool a) = .returned (.bool b) := by rw [h]
theorem cell_below {w w' : World} {b o : Nat} {v : Value} (h : w.cell? ⟨b, o, none⟩ = some v) (hb : Below w.heap.size w w') : w'.cell? ⟨b, o, none⟩ = some v := by
  have hlt : b < w.heap.size := block_lt_of_cell h
  simp only [World.cell?, hb.block b hlt]; exact h

/-! ### windows -/
/-- kind, index, ticks -/
abbrev Wn := Int × Int × Int
def okW (x : Wn) : Prop := 1 ≤ x.2.2 ∧ x.2.2 ≤ 255 ∧ (((x.1 = 0 ∨ x.1 = 4) ∧ x.2.1 = 0) ∨ (1 ≤ x.1 ∧ x.1 ≤ 3 ∧ 0 ≤ x.2.1 ∧ x.2.1 ≤ 7))
instance (x : Wn) : Decidable (okW x) := by unfold okW; infer_instance
def nokW (x : Wn) : Bool := decide (¬ okW x)
def okL (ws : List Wn) : Prop := 1 ≤ ws.length ∧ ws.length ≤ 64 ∧ ∀ x ∈ ws, okW x
instance (ws : List Wn) : Decidable (okL ws) := by unfold okL; infer_instance
def chkE (ws : List Wn) : Int := if okL ws then 0 else 130
abbrev w0 : Wn := (0, 0, 0)
/-- a slice of windows, whose row is a block of G -/
def WinV (G : Nat → Prop) (w : World) (v : Value) (ws : List Wn) : Prop :=
  ∃ q cap, v = .slice q ws.length cap ∧ ws.length ≤ cap ∧ (ws ≠ [] → ∃ b o, q = some ⟨b, o, none⟩ ∧ G b ∧ b < w.heap.size ∧
    ∀ j, j < ws.length → w.cell? ⟨b, o + j * 3, none⟩ = some (.int .i64 (ws.getD j w0).1) ∧ w.cell? ⟨b, o + j * 3 + 1, none⟩ = some (.int .i64 (ws.getD j w0).2.1) ∧ w.cell? ⟨b, o + j * 3 + 2, none⟩ = some (.int .i64 (ws.getD j w0).2.2))
theorem WinV.of_heap {G : Nat → Prop} {w w' : World} {v : Value} {ws : List Wn} (h : WinV G w v ws) (hs : w.heap.size ≤ w'.heap.size) (e : ∀ k, k < w.heap.size → G k → w'.heap[k]? = w.heap[k]?) : WinV G w' v ws := by
  obtain ⟨q, cap, h1, h2, h3⟩ := h
  refine ⟨q, cap, h1, h2, fun hne => ?_⟩
  obtain ⟨b, o, hq, hG, hlt, hc⟩ := h3 hne
  refine ⟨b, o, hq, hG, by omega, fun j hj => ?_⟩
  have := hc j hj
  simp only [World.cell?, e b hlt hG] at this ⊢
  exact this
theorem WinV.below {G : Nat → Prop} {w w' : World} {v : Value} {ws : List Wn} (h : WinV G w v ws) (hb : Below w.heap.size w w') : WinV G w' v ws := h.of_heap hb.size fun k hk _ => hb.block k hk
theorem WinV.lt {G : Nat → Prop} {w : World} {v : Value} {ws : List Wn} (h : WinV G w v ws) {s : Nat} (hs : w.heap.size ≤ s) : WinV (fun k => G k ∧ k < s) w v ws := by
  obtain ⟨q, cap, h1, h2, h3⟩ := h
  refine ⟨q, cap, h1, h2, fun hne => ?_⟩
  obtain ⟨b, o, hq, hG, hlt, hc⟩ := h3 hne
  exact ⟨b, o, hq, ⟨hG, by omega⟩, hlt, hc⟩
theorem WinV.nil (G : Nat → Prop) (w : World) : WinV G w (.slice none 0 0) [] := ⟨none, 0, rfl, Nat.le_refl _, fun h => absurd rfl h⟩
set_option maxHeartbeats 1000000 in
theorem notW_any (w : World) (k i t : Int) :
    Calls Try.prog 35 #[.agg #[.int .i64 k, .int .i64 i, .int .i64 t]] w fun e w' => e = .returned (.bool (nokW (k, i, t))) ∧ Below w.heap.size w w' := by
  have hb : Below w.heap.size w (w.alloc (.cells #[.int .i64 k, .int .i64 i, .int .i64 t] 40)) := (Below.refl _ w).alloc (Nat.le_refl _) _
  have HB := Lib.hid hb
  clear hb
  by_cases a : t < 1
  · have e : nokW (k, i, t) = true := by unfold nokW okW; simp; omega
    rw [e]; clear e
    go_enter Try.func35, Try.ntmps35
    go_wp2
    go_ret
    exact ⟨rfl, HB.out⟩
  · by_cases b : 255 < t
    · have e : nokW (k, i, t) = true := by unfold nokW okW; simp; omega
      rw [e]; clear e
      go_enter Try.func35, Try.ntmps35
      go_wp2
      go_ret
      exact ⟨rfl, HB.out⟩
    · by_cases c : k = 0 ∨ k = 4
      · have e : nokW (k, i, t) = !(i == 0) := by
          unfold nokW okW
          by_cases z : i = 0
          · rw [decide_eq_false (by intro q; exact q ⟨by show 1 ≤ t; omega, by show t ≤ 255; omega, .inl ⟨c, z⟩⟩)]; simp [z]
          · rw [decide_eq_true (by rintro ⟨_, _, ⟨_, q⟩ | q⟩; exact z q; rcases c with c | c <;> rw [c] at q <;> exact absurd q (by simp))]; simp [z]
        rw [e]; clear e
        rcases c with rfl | rfl
        · go_enter Try.func35, Try.ntmps35
          go_wp2
          go_ret
          exact ⟨rfl, HB.out⟩
        · go_enter Try.func35, Try.ntmps35
          go_wp2
          go_ret
          exact ⟨rfl, HB.out⟩
      · by_cases d : k = 1 ∨ k = 2 ∨ k = 3
        · by_cases f : i < 0
          · have e : nokW (k, i, t) = true := by unfold nokW okW; simp; omega
            rw [e]; clear e
            rcases d with rfl | rfl | rfl
            · go_enter Try.func35, Try.ntmps35
              go_wp2
              go_ret
              exact ⟨rfl, HB.out⟩
            · go_enter Try.func35, Try.ntmps35
              go_wp2
              go_ret
              exact ⟨rfl, HB.out⟩
            · go_enter Try.func35, Try.ntmps35
              go_wp2
              go_ret
              exact ⟨rfl, HB.out⟩
          · have e : nokW (k, i, t) = decide (7 < i) := by
              unfold nokW okW
              by_cases z : 7 < i
              · simp [z]; omega
              · simp [z]; omega
            rw [e]; clear e
            rcases d with rfl | rfl | rfl
            · go_enter Try.func35, Try.ntmps35
              go_wp2
              go_ret
              exact ⟨rfl, HB.out⟩
            · go_enter Try.func35, Try.ntmps35
              go_wp2
              go_ret
              exact ⟨rfl, HB.out⟩
            · go_enter Try.func35, Try.ntmps35
              go_wp2
              go_ret
              exact ⟨rfl, HB.out⟩
        · have e : nokW (k, i, t) = true := by unfold nokW okW; simp; omega
          have k0 : (k == 0) = false := by simp; omega
          have k4 : (k == 4) = false := by simp; omega
          have k1 : (k == 1) = false := by simp; omega
          have k2 : (k == 2) = false := by simp; omega
          have k3 : (k == 3) = false := by simp; omega
          rw [e]; clear e
          go_enter Try.func35, Try.ntmps35
          go_wp2
          go_ret
          exact ⟨rfl, HB.out⟩
end Go.Proofs.Ytgbmddjpaibcfaa
