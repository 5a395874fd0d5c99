/- What a world holds: blocks, what has turned, ports in memory; what may be a port. No conditions. -/
import Derived.Test.YtolcdfkkdhkpfaaRows
import Derived.WalkKit
import Derived.WalkSpells
import Derived.WalkLawsBesides
import Derived.Lib.Hide
import Derived.Lib.BufferWrite
import Derived.Maps.AppendAt
import Derived.Laws.IdiomStrings
import Derived.Laws.CopyRow
import Derived.Laws.MakeOwn
import Derived.Deep.QuietTactic
import Derived.BigQuiet
import Derived.Deep.MidRow
import Derived.Deep.WholeRow
import Derived.Deep.Cut
namespace Go.Proofs.Ytolcdfkkdhkpfaa
open Go.RowKit Go.Maps
set_option linter.unusedVariables false

theorem block_lt {w : World} {b : Nat} {o : Obj} (h : w.heap[b]? = some o) : b < w.heap.size := by
  rcases Nat.lt_or_ge b w.heap.size with h' | h'
  · exact h'
  · simp [Array.getElem?_eq_none h'] at h
theorem block_setCell {w : World} {b o : Nat} {C : Array Value} {t : TypeId} {fr : Nat × Nat} {u : Value} (h : w.heap[b]? = some (.cells C t fr)) :
    (w.setCell ⟨b, o, none⟩ u).heap[b]? = some (.cells (C.setIfInBounds o u) t fr) := by
  have hlt := block_lt h
  have h' : w.heap[b] = .cells C t fr := by simpa [Array.getElem?_eq_getElem hlt] using h
  show (w.heap.modify b _)[b]? = _
  rw [Array.getElem?_eq_getElem (by simpa using hlt), Array.getElem_modify_self, h']
  rfl
theorem block_setCell_other {w : World} {b : Nat} {x : Addr} {u : Value} (h : b ≠ x.block) : (w.setCell x u).heap[b]? = w.heap[b]? := heap_setCell_other w x b u h
theorem block_free {w : World} {b o : Nat} {C : Array Value} {t : TypeId} (h : w.heap[b]? = some (.cells C t (0, 0))) : w.frozen? ⟨b, o, none⟩ = false := by simp [World.frozen?, h]
theorem block_new (w : World) (o : Obj) : (w.alloc o).heap[w.heap.size]? = some o := heap_alloc_last w o
theorem block_alloc {w : World} {b : Nat} {o : Obj} (h : w.heap[b]? = some o) (o2 : Obj) : (w.alloc o2).heap[b]? = some o := by
  rw [Below.heap_alloc w o2 b (block_lt h)]; exact h
theorem heap_below {w w' : World} {B C : Nat} {o : Obj} (h : w.heap[B]? = some o) (hb : Below C w w') (hlt : B < C) : w'.heap[B]? = some o := by
  rw [hb.block B hlt]; exact h
theorem addr_at (b o i : Nat) : (⟨b, o, none⟩ : Addr).add i = ⟨b, o + i, none⟩ := Addr.add_mid b o i
theorem below_drewN {B : Nat} {a w : World} (h : Below B a w) (n : Nat) : Below B a (w.drewN n) := ⟨h.os, h.tape, h.output, h.size, h.block⟩
theorem below_trans {w w1 w2 : World} (h : Below w.heap.size w w1) (k : Below w1.heap.size w1 w2) : Below w.heap.size w w2 := h.trans (k.mono h.size)

/-! ### what turns -/
/-- only blocks of F have turned -/
structure Ch (F : Nat → Prop) (w w' : World) : Prop where
  os : w'.os = w.os
  tape : w'.tape = w.tape
  output : w'.output = w.output
  size : w.heap.size ≤ w'.heap.size
  block : ∀ k, k < w.heap.size → ¬ F k → w'.heap[k]? = w.heap[k]?
theorem Ch.refl (F : Nat → Prop) (w : World) : Ch F w w := ⟨rfl, rfl, rfl, Nat.le_refl _, fun _ _ _ => rfl⟩
theorem Ch.of_below {F : Nat → Prop} {w w' : World} (h : Below w.heap.size w w') : Ch F w w' := ⟨h.os, h.tape, h.output, h.size, fun k hk _ => h.block k hk⟩
/-- F' has blocks of F and new ones -/
def Gr (F F' : Nat → Prop) (w w' : World) : Prop := ∀ k, F' k → F k ∨ (w.heap.size ≤ k ∧ k < w'.heap.size)
theorem Ch.trans {F F' : Nat → Prop} {w w1 w2 : World} (h : Ch F w w1) (hg : Gr F F' w w1) (k : Ch F' w1 w2) : Ch F w w2 :=
  ⟨k.os.trans h.os, k.tape.trans h.tape, k.output.trans h.output, Nat.le_trans h.size k.size, fun i hi hn => (k.block i (Nat.lt_of_lt_of_le hi h.size) (fun q => by rcases hg i q with q | q; exact hn q; omega)).trans (h.block i hi hn)⟩
theorem Gr.refl (F : Nat → Prop) (w w' : World) : Gr F F w w' := fun _ h => .inl h
theorem Gr.trans {F F1 F2 : Nat → Prop} {w w1 w2 : World} (h : Gr F F1 w w1) (k : Gr F1 F2 w1 w2) (hs : w.heap.size ≤ w1.heap.size) (hs2 : w1.heap.size ≤ w2.heap.size) : Gr F F2 w w2 := fun i hi => by
  rcases k i hi with q | q
  · rcases h i q with q | q
    · exact .inl q
    · right; omega
  · right; omega
theorem Ch.setCell {F : Nat → Prop} {w w' : World} (h : Ch F w w') {p : Nat} (hp : F p) (o : Nat) (v : Value) : Ch F w (w'.setCell ⟨p, o, none⟩ v) :=
  ⟨h.os, h.tape, h.output, by rw [show (w'.setCell ⟨p, o, none⟩ v).heap.size = w'.heap.size from by simp [World.setCell]]; exact h.size, fun k hk hn => by rw [block_setCell_other (fun e => hn (by subst e; exact hp))]; exact h.block k hk hn⟩
theorem Ch.setRow {F : Nat → Prop} {w w' : World} (h : Ch F w w') {p : Nat} (hp : F p) (cs : Array Value) : Ch F w (w'.setRow p cs) :=
  ⟨h.os, h.tape, h.output, by rw [setRow_size]; exact h.size, fun k hk hn => by rw [setRow_other _ _ _ _ (fun e => hn (by subst e; exact hp))]; exact h.block k hk hn⟩
theorem Ch.drew {F : Nat → Prop} {w w' : World} (h : Ch F w w') : Ch F w w'.drew := ⟨h.os, h.tape, h.output, h.size, h.block⟩
theorem Ch.grown {F : Nat → Prop} {w w' w'' : World} {r : Option Nat} (h : Ch F w w') (k : w'.grownBy w'' r) (hr : ∀ j, r = some j → F j ∨ w.heap.size ≤ j) : Ch F w w'' :=
  ⟨k.os.trans h.os, k.tape.trans h.tape, k.output.trans h.output, Nat.le_trans h.size k.size, fun i hi hn => (k.block i (Nat.lt_of_lt_of_le hi h.size) (fun e => by
    rcases hr i e.symm with q | q
    · exact hn q
    · omega)).trans (h.block i hi hn)⟩
theorem Ch.below {F : Nat → Prop} {B : Nat} {w w' : World} (h : Ch F w w') (hB : B ≤ w.heap.size) (hF : ∀ k, F k → B ≤ k) : Below B w w' :=
  ⟨h.os, h.tape, h.output, h.size, fun k hk => h.block k (by omega) (fun q => by have := hF k q; omega)⟩
theorem Ch.then_below {F : Nat → Prop} {w w' w'' : World} (h : Ch F w w') (k : Below w'.heap.size w' w'') : Ch F w w'' :=
  ⟨k.os.trans h.os, k.tape.trans h.tape, k.output.trans h.output, Nat.le_trans h.size k.size, fun i hi hn => (k.block i (Nat.lt_of_lt_of_le hi h.size)).trans (h.block i hi hn)⟩


theorem ret_int {k : IntKind} {a b : Int} (h : a = b) : Ending.returned (.int k a) = .returned (.int k b) := by rw [h]
theorem ret_bool {a b : Bool} (h : a = b) : Ending.returned (.bool a) = .returned (.bool b) := by rw [h]
theorem cell_below {w w' : World} {b o : Nat} {v : Value} (h : w.cell? ⟨b, o, none⟩ = some v) (hb : Below w.heap.size w w') : w'.cell? ⟨b, o, none⟩ = some v := by
  have hlt : b < w.heap.size := block_lt_of_cell h
  simp only [World.cell?, hb.block b hlt]; exact h

/-! ### ports -/
/-- kind, from, to, size, depth -/
structure Cf where
  kind : Int
  frm : Int
  to : Int
  size : Int
  dep : Int
def okC (c : Cf) : Prop := (c.kind = 0 ∨ c.kind = 1) ∧ (0 ≤ c.frm ∧ c.frm ≤ 7) ∧ (0 ≤ c.to ∧ c.to ≤ 7) ∧ c.frm ≠ c.to ∧ (1 ≤ c.size ∧ c.size ≤ 255) ∧ 1 ≤ c.dep ∧ (c.kind = 0 → c.dep ≤ 1) ∧ c.dep ≤ 8
instance (c : Cf) : Decidable (okC c) := by unfold okC; infer_instance
def chkE (c : Cf) : Int := if okC c then 0 else 140
def Cf.agg (c : Cf) : Value := .agg #[.int .i64 c.kind, .int .i64 c.frm, .int .i64 c.to, .int .i64 c.size, .int .i64 c.dep]
/-- a port's state -/
structure Po where
  kind : Int
  size : Int
  dep : Nat
  l : List ByteArray
  sent : Int
  lost : Nat
def okT (t : Int) : Prop := 0 ≤ t ∧ t ≤ 1099511627776
instance (t : Int) : Decidable (okT t) := by unfold okT; infer_instance
/-- what holds of a port's state -/
structure Po.ok (s : Po) : Prop where
  kind : s.kind = 0 ∨ s.kind = 1
  size : 1 ≤ s.size ∧ s.size ≤ 255
  dep : 1 ≤ s.dep ∧ s.dep ≤ 8
  len : s.l.length ≤ s.dep
  one : s.kind = 0 → s.l.length ≤ 1
  sent : okT s.sent
  small : ∀ m ∈ s.l, m.size ≤ 255
def TyB (w : World) (b t : Nat) : Prop := ∃ cur f, w.heap[b]? = some (.cells cur t f)
theorem TyB.ne {w : World} {a b t u : Nat} (h : TyB w a t) (k : TyB w b u) (e : t ≠ u) : a ≠ b := by
  obtain ⟨c, f, h⟩ := h
  obtain ⟨d, f2, k⟩ := k
  intro x; subst x; rw [h] at k; injection k with k; injection k with k1 k2; exact e k2
theorem TyB.lt {w : World} {a t : Nat} (h : TyB w a t) : a < w.heap.size := by
  obtain ⟨c, f, h⟩ := h; exact block_lt h
theorem own_ty {w : World} {b e n : Nat} {v : Value} {xs : List Value} (h : w.ownsRow b e 1 v n xs) : ∀ j, v.ownBlock = some j → TyB w j e ∧ b ≤ j := by
  rcases h.2 with ⟨e1, _⟩ | ⟨g, c, cur, e1, hb, hg, _⟩
  · rw [e1]; intro j hj; cases hj
  · rw [e1]; intro j hj; injection hj with hj; subst hj; exact ⟨⟨_, _, hg⟩, hb⟩
theorem own_keep {w W : World} {b e n : Nat} {v : Value} {xs : List Value} (h : w.ownsRow b e 1 v n xs) (hk : ∀ j, v.ownBlock = some j → TyB w j e → W.heap[j]? = w.heap[j]?) : W.ownsRow b e 1 v n xs := by
  refine ⟨h.1, ?_⟩
  rcases h.2 with e1 | ⟨g, c, cur, e1, h1, hg, h2⟩
  · exact .inl e1
  · exact .inr ⟨g, c, cur, e1, h1, (hk g (by rw [e1]; rfl) ⟨_, _, hg⟩).trans hg, h2⟩
theorem own_base {w : World} {b c e n : Nat} {v : Value} {xs : List Value} (h : w.ownsRow b e 1 v n xs) (hc : ∀ j, v.ownBlock = some j → c ≤ j) : w.ownsRow c e 1 v n xs := by
  refine ⟨h.1, ?_⟩
  rcases h.2 with e1 | ⟨g, cp, cur, e1, h1, hg, h2⟩
  · exact .inl e1
  · exact .inr ⟨g, cp, cur, e1, hc g (by rw [e1]; rfl), hg, h2⟩
theorem own_below {w W : World} {b e n : Nat} {v : Value} {xs : List Value} (h : w.ownsRow b e 1 v n xs) (hb : Below w.heap.size w W) : W.ownsRow b e 1 v n xs := own_keep h fun j _ hj => hb.block j hj.lt
theorem own_slice {w : World} {b e n : Nat} {v : Value} {xs : List Value} (h : w.ownsRow b e 1 v n xs) : ∃ q cap, v = .slice q n cap ∧ (0 < n → ∃ g, q = some ⟨g, 0, none⟩ ∧ ∀ i u, xs[i]? = some u → w.cell? ⟨g, i, none⟩ = some u) := by
  rcases h.2 with ⟨e1, e2⟩ | ⟨g, c, cur, e1, h1, hg, _, _, _, htk⟩
  · exact ⟨none, 0, by rw [e1, e2], fun h => by omega⟩
  · refine ⟨_, c, e1, fun _ => ⟨g, rfl, fun i u hu => ?_⟩⟩
    have hi : i < n := by
      have := (List.getElem?_eq_some_iff.1 hu).1
      rw [h.1] at this; omega
    rw [← htk, List.getElem?_take, if_pos (by omega), Array.getElem?_toList] at hu
    rw [cell_of_row _ _ _ _ _ _ hg]; exact hu
/-- a port at p, all its blocks in F -/
def IsP (w : World) (F : Nat → Prop) (p : Nat) (s : Po) : Prop :=
  F p ∧ ∃ v, w.heap[p]? = some (.cells #[.int .i64 s.kind, .int .i64 s.size, .int .i64 (s.dep : Int), v, .int .i64 s.sent, .int .i64 (s.lost : Int)] 52 (0, 0)) ∧
    w.ownsRow 0 9 1 v s.l.length (s.l.map .string) ∧ ∀ j, v.ownBlock = some j → F j
theorem IsP.ltp {w : World} {F : Nat → Prop} {p : Nat} {s : Po} (h : IsP w F p s) : p < w.heap.size := by
  obtain ⟨_, v, h1, _⟩ := h
  exact block_lt h1
theorem IsP.ty {w : World} {F : Nat → Prop} {p : Nat} {s : Po} (h : IsP w F p s) : TyB w p 52 := by
  obtain ⟨_, v, h1, _⟩ := h
  exact ⟨_, _, h1⟩
theorem IsP.keep {w w' : World} {F : Nat → Prop} {p : Nat} {s : Po} (h : IsP w F p s) (e : ∀ k, k < w.heap.size → F k → w'.heap[k]? = w.heap[k]?) : IsP w' F p s := by
  obtain ⟨hF, v, h1, h2, h3⟩ := h
  exact ⟨hF, v, (e p (block_lt h1) hF).trans h1, own_keep h2 (fun j hj ht => e j ht.lt (h3 j hj)), h3⟩
theorem IsP.below {w w' : World} {F : Nat → Prop} {p : Nat} {s : Po} (h : IsP w F p s) (hb : Below w.heap.size w w') : IsP w' F p s := h.keep fun k hk _ => hb.block k hk
/-- the blocks of F and the new ones -/
def nw (F : Nat → Prop) (w w' : World) : Nat → Prop := fun k => F k ∨ (w.heap.size ≤ k ∧ k < w'.heap.size)
theorem IsP.mono {w : World} {F G : Nat → Prop} {p : Nat} {s : Po} (h : IsP w F p s) (hg : ∀ k, k < w.heap.size → F k → G k) : IsP w G p s := by
  obtain ⟨hF, v, h1, h2, h3⟩ := h
  exact ⟨hg _ (block_lt h1) hF, v, h1, h2, fun j hj => hg j (own_ty h2 j hj).1.lt (h3 j hj)⟩
/-- the cells of the port's block -/
theorem IsP.cells {w : World} {F : Nat → Prop} {p : Nat} {s : Po} (h : IsP w F p s) : ∃ q cap, w.cell? ⟨p, 0, none⟩ = some (.int .i64 s.kind) ∧ w.cell? ⟨p, 1, none⟩ = some (.int .i64 s.size) ∧ w.cell? ⟨p, 2, none⟩ = some (.int .i64 (s.dep : Int)) ∧ w.cell? ⟨p, 3, none⟩ = some (.slice q s.l.length cap) ∧ w.cell? ⟨p, 4, none⟩ = some (.int .i64 s.sent) ∧ w.cell? ⟨p, 5, none⟩ = some (.int .i64 (s.lost : Int)) ∧
    (∀ o, w.frozen? ⟨p, o, none⟩ = false) ∧ w.ownsRow 0 9 1 (.slice q s.l.length cap) s.l.length (s.l.map .string) ∧ ∀ j, (Value.slice q s.l.length cap).ownBlock = some j → F j := by
  obtain ⟨_, v, h1, h2, h3⟩ := h
  obtain ⟨q, cap, hv, _⟩ := own_slice h2
  subst hv
  refine ⟨q, cap, ?_, ?_, ?_, ?_, ?_, ?_, fun o => block_free h1, h2, h3⟩
  all_goals (rw [cell_of_row _ _ _ _ _ _ h1]; rfl)
set_option maxHeartbeats 1000000 in
theorem within_any (w : World) (n a b : Int) :
    Calls Try.prog 23 #[.int .i64 n, .int .i64 a, .int .i64 b] w fun e w' => e = .returned (.bool (decide (a ≤ n ∧ n ≤ b))) ∧ w = w' := by
  by_cases h : a ≤ n
  · by_cases k : n ≤ b
    · rw [decide_eq_true (show a ≤ n ∧ n ≤ b from ⟨h, k⟩)]
      go_enter Try.func23, Try.ntmps23
      go_wp2
      go_ret
      exact ⟨ret_bool (by first | rfl | simp; omega), rfl⟩
    · rw [decide_eq_false (fun q : a ≤ n ∧ n ≤ b => k q.2)]
      go_enter Try.func23, Try.ntmps23
      go_wp2
      go_ret
      exact ⟨ret_bool (by first | rfl | simp; omega), rfl⟩
  · rw [decide_eq_false (fun q : a ≤ n ∧ n ≤ b => h q.1)]
    go_enter Try.func23, Try.ntmps23
    go_wp2
    go_ret
    exact ⟨ret_bool (by first | rfl | simp), rfl⟩
theorem isPart_any (w : World) (n : Int) : Calls Try.prog 22 #[.int .i64 n] w fun e w' => e = .returned (.bool (decide (0 ≤ n ∧ n ≤ 7))) ∧ w = w' := by
  have k := within_any w n 0 7
  generalize decide (0 ≤ n ∧ n ≤ 7) = b at *
  go_enter Try.func22, Try.ntmps22
  go_wp2_with (go_at_call 23; refine k.mono ?_; rintro e _ ⟨rfl, rfl⟩)
  go_ret
  exact ⟨rfl, rfl⟩
theorem isTick_any (w : World) (n : Int) : Calls Try.prog 25 #[.int .i64 n] w fun e w' => e = .returned (.bool (decide (okT n))) ∧ w = w' := by
  have k := within_any w n 0 1099511627776
  have e : decide (0 ≤ n ∧ n ≤ 1099511627776) = decide (okT n) := rfl
  rw [e] at k
  generalize decide (okT n) = b at *
  go_enter Try.func25, Try.ntmps25
  go_wp2_with (go_at_call 23; refine k.mono ?_; rintro e _ ⟨rfl, rfl⟩)
  go_ret
  exact ⟨rfl, rfl⟩
def deeV (k : Int) : Int := if k = 0 then 1 else if k = 1 then 8 else 0
theorem deepest_any (w : World) (k : Int) : Calls Try.prog 24 #[.int .i64 k] w fun e w' => e = .returned (.int .i64 (deeV k)) ∧ w = w' := by
  unfold deeV
  by_cases a : k = 0
  · subst a
    go_enter Try.func24, Try.ntmps24
    go_wp2
    go_ret
    exact ⟨rfl, rfl⟩
  · by_cases b : k = 1
    · subst b
      go_enter Try.func24, Try.ntmps24
      go_wp2
      go_ret
      exact ⟨rfl, rfl⟩
    · have a2 : (k == 0) = false := by simpa using a
      have b2 : (k == 1) = false := by simpa using b
      rw [if_neg a, if_neg b]
      go_enter Try.func24, Try.ntmps24
      go_wp2
      go_ret
      exact ⟨rfl, rfl⟩
end Go.Proofs.Ytolcdfkkdhkpfaa
