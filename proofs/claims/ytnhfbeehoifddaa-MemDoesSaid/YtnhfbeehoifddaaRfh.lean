/- A memory and the document's one beside it, and one call on both: what the law's calls return. Conditions: numbers that a machine holds. -/
import Derived.Test.YtnhfbeehoifddaaRfg
import Derived.Test.YtnhfbeehoifddaaApa
import Derived.Deep.RegionHeld3
namespace Go.Proofs.Ytnhfbeehoifddaa
open Go.RowKit Go.Maps
set_option linter.unusedVariables false

/-- the memory at p has the bytes B, the document's one at p2 B2 -/
structure MM (w0 : World) (p g c p2 g2 c2 F : Nat) (B B2 : Bts) (W : World) : Prop where
  im : IsM W p g c F B
  ir : IsR W p2 g2 c2 F B2
  b : Below w0.heap.size w0 W
  lo : w0.heap.size ≤ p ∧ w0.heap.size ≤ g ∧ w0.heap.size ≤ p2 ∧ w0.heap.size ≤ g2
theorem MM.below {w0 : World} {p g c p2 g2 c2 F : Nat} {B B2 : Bts} {W W' : World} (h : MM w0 p g c p2 g2 c2 F B B2 W) (hb : Below W.heap.size W W') : MM w0 p g c p2 g2 c2 F B B2 W' :=
  ⟨h.im.below hb, h.ir.below hb, h.b.trans (hb.mono h.b.size), h.lo⟩
theorem MM.drew {w0 : World} {p g c p2 g2 c2 F : Nat} {B B2 : Bts} {W : World} (h : MM w0 p g c p2 g2 c2 F B B2 W) : MM w0 p g c p2 g2 c2 F B B2 W.drew := h.below ⟨rfl, rfl, rfl, Nat.le_refl _, fun _ _ => rfl⟩
theorem ne_type {W : World} {a b : Nat} {ca cb : Array Value} {ta tb : TypeId} {fa fb : Nat × Nat} (ha : W.heap[a]? = some (.cells ca ta fa)) (hb : W.heap[b]? = some (.cells cb tb fb)) (h : ta ≠ tb) : a ≠ b := fun e => by
  subst e; rw [ha] at hb; cases hb; exact h rfl
theorem MM.ne {w0 : World} {p g c p2 g2 c2 F : Nat} {B B2 : Bts} {W : World} (h : MM w0 p g c p2 g2 c2 F B B2 W) : p2 ≠ g ∧ g2 ≠ g ∧ p ≠ g2 ∧ g ≠ g2 := by
  obtain ⟨cur, fr, hg, _⟩ := h.im.row
  obtain ⟨cur2, hg2, _⟩ := h.ir.row
  have hp := h.im.blk
  have hp2 := h.ir.blk
  exact ⟨ne_type hp2 hg (by decide), ne_type hg2 hg (by decide), ne_type hp hg2 (by decide), ne_type hg hg2 (by decide)⟩
theorem MM.box {w0 : World} {p g c p2 g2 c2 F : Nat} {B B2 : Bts} {W : World} (h : MM w0 p g c p2 g2 c2 F B B2 W) {X : Nat} {cx : Array Value} {fx : Nat × Nat} (hx : W.heap[X]? = some (.cells cx 35 fx)) : X ≠ g ∧ X ≠ g2 := by
  obtain ⟨cur, fr, hg, _⟩ := h.im.row
  obtain ⟨cur2, hg2, _⟩ := h.ir.row
  exact ⟨ne_type hx hg (by decide), ne_type hx hg2 (by decide)⟩
theorem below_chw {w0 w w' : World} {B0 g : Nat} (h : Below B0 w0 w) (hc : Ch (onB g) w w') (hB : B0 ≤ w.heap.size) (hg : B0 ≤ g) : Below B0 w0 w' :=
  h.trans (hc.below hB (fun k hk => by cases hk; exact hg))
theorem MM.setM {w0 : World} {p g c p2 g2 c2 F : Nat} {B B2 B' : Bts} {W W1 : World} (h : MM w0 p g c p2 g2 c2 F B B2 W) (m1 : IsM W1 p g c F B') (c1 : Ch (onB g) W W1) : MM w0 p g c p2 g2 c2 F B' B2 W1 :=
  ⟨m1, h.ir.ch c1 h.ne.1 h.ne.2.1, below_chw h.b c1 h.b.size h.lo.2.1, h.lo⟩
theorem MM.setR {w0 : World} {p g c p2 g2 c2 F : Nat} {B B2 B' : Bts} {W W1 : World} (h : MM w0 p g c p2 g2 c2 F B B2 W) (m1 : IsR W1 p2 g2 c2 F B') (c1 : Ch (onB g2) W W1) : MM w0 p g c p2 g2 c2 F B B' W1 :=
  ⟨h.im.of_heap (c1.block p h.im.lt.1 h.ne.2.2.1) (c1.block g h.im.lt.2 h.ne.2.2.2), m1, below_chw h.b c1 h.b.size h.lo.2.2.2, h.lo⟩
/-- the cells of an operation in block X -/
def OpX (X : Nat) (oa ob oc : Int) (os : ByteArray) (W : World) : Prop := W.cell? ⟨X, 2, none⟩ = some (.int .i64 oa) ∧ W.cell? ⟨X, 3, none⟩ = some (.int .i64 ob) ∧ W.cell? ⟨X, 4, none⟩ = some (.int .i64 oc) ∧ W.cell? ⟨X, 5, none⟩ = some (.string os)
theorem OpX.of {W : World} {X : Nat} {on kd oa ob oc : Int} {os : ByteArray} {fr : Nat × Nat} (h : W.heap[X]? = some (.cells #[.int .i64 on, .int .i64 kd, .int .i64 oa, .int .i64 ob, .int .i64 oc, .string os] 35 fr)) : OpX X oa ob oc os W :=
  ⟨by rw [cell_of_row _ _ _ _ _ _ h]; rfl, by rw [cell_of_row _ _ _ _ _ _ h]; rfl, by rw [cell_of_row _ _ _ _ _ _ h]; rfl, by rw [cell_of_row _ _ _ _ _ _ h]; rfl⟩
def DoesPost (w0 : World) (p g c p2 g2 c2 F : Nat) (W' : World) : Prop := ∃ B, MM w0 p g c p2 g2 c2 F B B W'
set_option maxRecDepth 20000 in
set_option maxHeartbeats 4000000 in
theorem does0 (w0 : World) (p g c p2 g2 c2 F : Nat) (B : Bts) (W : World) (h : MM w0 p g c p2 g2 c2 F B B W) (v : Value) (ps : List Pg) (ht : TabV (fun b => b < w0.heap.size) w0 v ps) (on oa ob oc : Int) (os : ByteArray) (hoa : In64 oa) (hob : In64 ob) (hoc : In64 oc) (hos : os.size ≤ 140737488351232) :
    Calls Try.prog 18 #[.pointer (some ⟨p, 0, none⟩), .pointer (some ⟨p2, 0, none⟩), v, .agg #[.int .i64 on, .int .i64 0, .int .i64 oa, .int .i64 ob, .int .i64 oc, .string os]] W fun e w' => e = .returned (.bool true) ∧ DoesPost w0 p g c p2 g2 c2 F w' := by
  obtain ⟨q, np, cap0, rfl⟩ : ∃ q n cap, v = .slice q n cap := by obtain ⟨q, cap, e, _⟩ := ht; exact ⟨_, _, _, e⟩
  obtain ⟨w1, hw1⟩ : ∃ w1, w1 = W.alloc (.cells #[.int .i64 on, .int .i64 0, .int .i64 oa, .int .i64 ob, .int .i64 oc, .string os] 35) := ⟨_, rfl⟩
  obtain ⟨X, hX⟩ : ∃ X, X = W.heap.size := ⟨_, rfl⟩
  have cb : w1.heap[X]? = some (.cells #[.int .i64 on, .int .i64 0, .int .i64 oa, .int .i64 ob, .int .i64 oc, .string os] 35 (0, 0)) := by rw [hw1, hX]; exact block_new _ _
  have h1 : MM w0 p g c p2 g2 c2 F B B w1 := h.below (by rw [hw1]; exact (Below.refl _ W).alloc (Nat.le_refl _) _)
  have hXl : X < w1.heap.size := block_lt cb
  have hne := h1.box cb
  have c1 : w1.cell? ⟨X, 1, none⟩ = some (.int .i64 0) := by rw [cell_of_row _ _ _ _ _ _ cb]; rfl
  have HT : Hid (∀ W, Below w0.heap.size w0 W → TabV (fun b => b < w0.heap.size) W (.slice q np cap0) ps) := fun W hW => ht.below hW
  have HX : Hid (∀ W, W.heap[X]? = w1.heap[X]? → OpX X oa ob oc os W) := fun W hW => OpX.of (hW.trans cb)
  have HR : Hid (∀ W', Below w1.heap.size w1 W' → Calls Try.prog 36 #[.pointer (some ⟨p2, 0, none⟩), .slice q np cap0, .int .i64 oa, .int .i64 ob, .int .i64 oc] W' fun e w' => e = .returned (.tuple #[.string (ofL (readS F ps B oa ob oc)), .int .i64 (readE F ps oa ob oc)]) ∧ Below W'.heap.size W' w') := fun W' hW' =>
    rread_any p2 g2 c2 F B W' (h1.ir.below hW') _ _ ps (HT.out _ (h1.b.trans (hW'.mono h1.b.size))) oa ob oc hoa
  have kr := read_any p g c F B w1 h1.im _ _ ps (HT.out _ h1.b) oa ob oc hoa
  obtain ⟨E, hE⟩ : ∃ E, E = readE F ps oa ob oc := ⟨_, rfl⟩
  obtain ⟨S, hS⟩ : ∃ S, S = ofL (readS F ps B oa ob oc) := ⟨_, rfl⟩
  rw [← hE, ← hS] at kr HR
  obtain ⟨s2, s3, s4, s5⟩ := HX.out w1 rfl
  have HM := Lib.hid h1
  have HW := Lib.hid (And.intro hw1 hX)
  clear h ht h1 hne cb hE hS
  go_enter Try.func18, Try.ntmps18
  go_wp2_with (fail)
  rw [← hw1, ← hX]
  clear hw1 hX
  refine kr.mono ?_
  rintro e u1 ⟨rfl, b1⟩
  obtain ⟨t2, t3, t4, t5⟩ := HX.out u1 (b1.block X hXl)
  have kr2 := HR.out u1 b1
  have HB := Lib.hid b1
  clear kr b1
  go_wp2_with (fail)
  refine kr2.mono ?_
  rintro e u2 ⟨rfl, b2⟩
  have hfin : Hid (DoesPost w0 p g c p2 g2 c2 F u2) := ⟨B, HM.out.below (HB.out.trans (b2.mono HB.out.size))⟩
  clear kr2 b2
  go_wp2
  go_ret
  exact ⟨by simp, hfin.out⟩
set_option maxRecDepth 20000 in
set_option maxHeartbeats 4000000 in
theorem does2 (w0 : World) (p g c p2 g2 c2 F : Nat) (B : Bts) (W : World) (h : MM w0 p g c p2 g2 c2 F B B W) (v : Value) (ps : List Pg) (ht : TabV (fun b => b < w0.heap.size) w0 v ps) (on oa ob oc : Int) (os : ByteArray) (hoa : In64 oa) (hob : In64 ob) (hoc : In64 oc) (hos : os.size ≤ 140737488351232) :
    Calls Try.prog 18 #[.pointer (some ⟨p, 0, none⟩), .pointer (some ⟨p2, 0, none⟩), v, .agg #[.int .i64 on, .int .i64 2, .int .i64 oa, .int .i64 ob, .int .i64 oc, .string os]] W fun e w' => e = .returned (.bool true) ∧ DoesPost w0 p g c p2 g2 c2 F w' := by
  obtain ⟨q, np, cap0, rfl⟩ : ∃ q n cap, v = .slice q n cap := by obtain ⟨q, cap, e, _⟩ := ht; exact ⟨_, _, _, e⟩
  obtain ⟨w1, hw1⟩ : ∃ w1, w1 = W.alloc (.cells #[.int .i64 on, .int .i64 2, .int .i64 oa, .int .i64 ob, .int .i64 oc, .string os] 35) := ⟨_, rfl⟩
  obtain ⟨X, hX⟩ : ∃ X, X = W.heap.size := ⟨_, rfl⟩
  have cb : w1.heap[X]? = some (.cells #[.int .i64 on, .int .i64 2, .int .i64 oa, .int .i64 ob, .int .i64 oc, .string os] 35 (0, 0)) := by rw [hw1, hX]; exact block_new _ _
  have h1 : MM w0 p g c p2 g2 c2 F B B w1 := h.below (by rw [hw1]; exact (Below.refl _ W).alloc (Nat.le_refl _) _)
  have hXl : X < w1.heap.size := block_lt cb
  have hne := h1.box cb
  have c1 : w1.cell? ⟨X, 1, none⟩ = some (.int .i64 2) := by rw [cell_of_row _ _ _ _ _ _ cb]; rfl
  have HT : Hid (∀ W, Below w0.heap.size w0 W → TabV (fun b => b < w0.heap.size) W (.slice q np cap0) ps) := fun W hW => ht.below hW
  have HX : Hid (∀ W, W.heap[X]? = w1.heap[X]? → OpX X oa ob oc os W) := fun W hW => OpX.of (hW.trans cb)
  have HR : Hid (∀ W', Below w1.heap.size w1 W' → Calls Try.prog 38 #[.pointer (some ⟨p2, 0, none⟩), .slice q np cap0, .int .i64 oa, .int .i64 ob, .int .i64 oc] W' fun e w' => e = .returned (.tuple #[.int .i64 (loadN F ps B oa ob oc), .int .i64 (loadE F ps oa ob oc)]) ∧ Below W'.heap.size W' w') := fun W' hW' =>
    rload_any p2 g2 c2 F B W' (h1.ir.below hW') _ _ ps (HT.out _ (h1.b.trans (hW'.mono h1.b.size))) oa ob oc hoa
  have kr := load_any p g c F B w1 h1.im _ _ ps (HT.out _ h1.b) oa ob oc hoa
  obtain ⟨E, hE⟩ : ∃ E, E = loadE F ps oa ob oc := ⟨_, rfl⟩
  obtain ⟨S, hS⟩ : ∃ S, S = loadN F ps B oa ob oc := ⟨_, rfl⟩
  rw [← hE, ← hS] at kr HR
  obtain ⟨s2, s3, s4, s5⟩ := HX.out w1 rfl
  have HM := Lib.hid h1
  have HW := Lib.hid (And.intro hw1 hX)
  clear h ht h1 hne cb hE hS
  go_enter Try.func18, Try.ntmps18
  go_wp2_with (fail)
  rw [← hw1, ← hX]
  clear hw1 hX
  refine kr.mono ?_
  rintro e u1 ⟨rfl, b1⟩
  obtain ⟨t2, t3, t4, t5⟩ := HX.out u1 (b1.block X hXl)
  have kr2 := HR.out u1 b1
  have HB := Lib.hid b1
  clear kr b1
  go_wp2_with (fail)
  refine kr2.mono ?_
  rintro e u2 ⟨rfl, b2⟩
  have hfin : Hid (DoesPost w0 p g c p2 g2 c2 F u2) := ⟨B, HM.out.below (HB.out.trans (b2.mono HB.out.size))⟩
  clear kr2 b2
  go_wp2
  go_ret
  exact ⟨by simp, hfin.out⟩
set_option maxRecDepth 20000 in
set_option maxHeartbeats 4000000 in
theorem does1 (w0 : World) (p g c p2 g2 c2 F : Nat) (B : Bts) (W : World) (h : MM w0 p g c p2 g2 c2 F B B W) (v : Value) (ps : List Pg) (ht : TabV (fun b => b < w0.heap.size) w0 v ps) (on oa ob oc : Int) (os : ByteArray) (hoa : In64 oa) (hob : In64 ob) (hoc : In64 oc) (hos : os.size ≤ 140737488351232) :
    Calls Try.prog 18 #[.pointer (some ⟨p, 0, none⟩), .pointer (some ⟨p2, 0, none⟩), v, .agg #[.int .i64 on, .int .i64 1, .int .i64 oa, .int .i64 ob, .int .i64 oc, .string os]] W fun e w' => e = .returned (.bool true) ∧ DoesPost w0 p g c p2 g2 c2 F w' := by
  obtain ⟨q, np, cap0, rfl⟩ : ∃ q n cap, v = .slice q n cap := by obtain ⟨q, cap, e, _⟩ := ht; exact ⟨_, _, _, e⟩
  obtain ⟨w1, hw1⟩ : ∃ w1, w1 = W.alloc (.cells #[.int .i64 on, .int .i64 1, .int .i64 oa, .int .i64 ob, .int .i64 oc, .string os] 35) := ⟨_, rfl⟩
  obtain ⟨X, hX⟩ : ∃ X, X = W.heap.size := ⟨_, rfl⟩
  have cb : w1.heap[X]? = some (.cells #[.int .i64 on, .int .i64 1, .int .i64 oa, .int .i64 ob, .int .i64 oc, .string os] 35 (0, 0)) := by rw [hw1, hX]; exact block_new _ _
  have h1 : MM w0 p g c p2 g2 c2 F B B w1 := h.below (by rw [hw1]; exact (Below.refl _ W).alloc (Nat.le_refl _) _)
  have hXl : X < w1.heap.size := block_lt cb
  have hne := h1.box cb
  have c1 : w1.cell? ⟨X, 1, none⟩ = some (.int .i64 1) := by rw [cell_of_row _ _ _ _ _ _ cb]; rfl
  have HT : Hid (∀ W, Below w0.heap.size w0 W → TabV (fun b => b < w0.heap.size) W (.slice q np cap0) ps) := fun W hW => ht.below hW
  have HX : Hid (∀ W, W.heap[X]? = w1.heap[X]? → OpX X oa ob oc os W) := fun W hW => OpX.of (hW.trans cb)
  obtain ⟨E, hE⟩ : ∃ E, E = writeE F ps oa os.size := ⟨_, rfl⟩
  have kk : Calls Try.prog 27 #[.pointer (some ⟨p, 0, none⟩), .slice q np cap0, .int .i64 oa, .string os] w1.drew fun e u1 => e = .returned (.int .i64 E) ∧ OpX X oa ob oc os u1 ∧
      Calls Try.prog 37 #[.pointer (some ⟨p2, 0, none⟩), .slice q np cap0, .int .i64 oa, .string os] u1 fun e u2 => e = .returned (.int .i64 E) ∧ OpX X oa ob oc os u2 ∧ Hid (DoesPost w0 p g c p2 g2 c2 F u2) := by
    have hd := h1.drew
    refine (write_any p g c F B w1.drew hd.im (fun b => b < w0.heap.size) (by have := hd.lo; omega) _ ps (HT.out _ hd.b) oa os hoa (by omega)).mono ?_
    rintro e u1 ⟨he, m1, c1⟩
    refine ⟨by rw [he, hE], HX.out u1 (c1.block X hXl hne.1), ?_⟩
    have h2 := hd.setM m1 c1
    refine (rwrite_any p2 g2 c2 F B u1 h2.ir (fun b => b < w0.heap.size) (by have := hd.lo; omega) _ ps (HT.out _ h2.b) oa os hoa (by omega)).mono ?_
    rintro e u2 ⟨he, m2, c2⟩
    refine ⟨by rw [he, hE], HX.out u2 ((c2.block X (Nat.lt_of_lt_of_le hXl c1.size) hne.2).trans (c1.block X hXl hne.1)), ?_⟩
    exact ⟨_, h2.setR m2 c2⟩
  have hS0 : OpX X oa ob oc os w1.drew := HX.out _ rfl
  clear h ht h1 hne cb hE
  go_enter Try.func18, Try.ntmps18
  go_wp2
  rw [← hw1, ← hX]
  have HW := Lib.hid (And.intro hw1 hX)
  clear hw1 hX
  obtain ⟨s2, s3, s4, s5⟩ := hS0
  go_region_held3 (fun w' => w'.cell? ⟨X, 2, none⟩ = some (.int .i64 oa) ∧ w'.cell? ⟨X, 3, none⟩ = some (.int .i64 ob) ∧ w'.cell? ⟨X, 4, none⟩ = some (.int .i64 oc) ∧ w'.cell? ⟨X, 5, none⟩ = some (.string os)) (first | exact ⟨s2, s3, s4, s5⟩ | exact hS1 | exact hS2)
    (first
      | (go_at_call 27; with_reducible refine kk.mono ?_; rintro e u1 ⟨rfl, hS1, kk2⟩; clear kk)
      | (go_at_call 37; with_reducible refine kk2.mono ?_; rintro e u2 ⟨rfl, hS2, HTF⟩; clear kk2))
  go_wp2
  go_ret
  exact ⟨rfl, HTF.out⟩
set_option maxRecDepth 20000 in
set_option maxHeartbeats 4000000 in
theorem does3 (w0 : World) (p g c p2 g2 c2 F : Nat) (B : Bts) (W : World) (h : MM w0 p g c p2 g2 c2 F B B W) (v : Value) (ps : List Pg) (ht : TabV (fun b => b < w0.heap.size) w0 v ps) (on oa ob oc : Int) (os : ByteArray) (hoa : In64 oa) (hob : In64 ob) (hoc : In64 oc) (hos : os.size ≤ 140737488351232) :
    Calls Try.prog 18 #[.pointer (some ⟨p, 0, none⟩), .pointer (some ⟨p2, 0, none⟩), v, .agg #[.int .i64 on, .int .i64 3, .int .i64 oa, .int .i64 ob, .int .i64 oc, .string os]] W fun e w' => e = .returned (.bool true) ∧ DoesPost w0 p g c p2 g2 c2 F w' := by
  obtain ⟨q, np, cap0, rfl⟩ : ∃ q n cap, v = .slice q n cap := by obtain ⟨q, cap, e, _⟩ := ht; exact ⟨_, _, _, e⟩
  obtain ⟨w1, hw1⟩ : ∃ w1, w1 = W.alloc (.cells #[.int .i64 on, .int .i64 3, .int .i64 oa, .int .i64 ob, .int .i64 oc, .string os] 35) := ⟨_, rfl⟩
  obtain ⟨X, hX⟩ : ∃ X, X = W.heap.size := ⟨_, rfl⟩
  have cb : w1.heap[X]? = some (.cells #[.int .i64 on, .int .i64 3, .int .i64 oa, .int .i64 ob, .int .i64 oc, .string os] 35 (0, 0)) := by rw [hw1, hX]; exact block_new _ _
  have h1 : MM w0 p g c p2 g2 c2 F B B w1 := h.below (by rw [hw1]; exact (Below.refl _ W).alloc (Nat.le_refl _) _)
  have hXl : X < w1.heap.size := block_lt cb
  have hne := h1.box cb
  have c1 : w1.cell? ⟨X, 1, none⟩ = some (.int .i64 3) := by rw [cell_of_row _ _ _ _ _ _ cb]; rfl
  have HT : Hid (∀ W, Below w0.heap.size w0 W → TabV (fun b => b < w0.heap.size) W (.slice q np cap0) ps) := fun W hW => ht.below hW
  have HX : Hid (∀ W, W.heap[X]? = w1.heap[X]? → OpX X oa ob oc os W) := fun W hW => OpX.of (hW.trans cb)
  obtain ⟨E, hE⟩ : ∃ E, E = storeE F ps oa ob := ⟨_, rfl⟩
  have kk : Calls Try.prog 29 #[.pointer (some ⟨p, 0, none⟩), .slice q np cap0, .int .i64 oa, .int .i64 ob, .int .i64 oc] w1.drew fun e u1 => e = .returned (.int .i64 E) ∧ OpX X oa ob oc os u1 ∧
      Calls Try.prog 39 #[.pointer (some ⟨p2, 0, none⟩), .slice q np cap0, .int .i64 oa, .int .i64 ob, .int .i64 oc] u1 fun e u2 => e = .returned (.int .i64 E) ∧ OpX X oa ob oc os u2 ∧ Hid (DoesPost w0 p g c p2 g2 c2 F u2) := by
    have hd := h1.drew
    refine (store_any p g c F B w1.drew hd.im (fun b => b < w0.heap.size) (by have := hd.lo; omega) _ ps (HT.out _ hd.b) oa ob oc hoa hoc).mono ?_
    rintro e u1 ⟨he, m1, c1⟩
    refine ⟨by rw [he, hE], HX.out u1 (c1.block X hXl hne.1), ?_⟩
    have h2 := hd.setM m1 c1
    refine (rstore_any p2 g2 c2 F B u1 h2.ir (fun b => b < w0.heap.size) (by have := hd.lo; omega) _ ps (HT.out _ h2.b) oa ob oc hoa hoc).mono ?_
    rintro e u2 ⟨he, m2, c2⟩
    refine ⟨by rw [he, hE], HX.out u2 ((c2.block X (Nat.lt_of_lt_of_le hXl c1.size) hne.2).trans (c1.block X hXl hne.1)), ?_⟩
    exact ⟨_, h2.setR m2 c2⟩
  have hS0 : OpX X oa ob oc os w1.drew := HX.out _ rfl
  clear h ht h1 hne cb hE
  go_enter Try.func18, Try.ntmps18
  go_wp2
  rw [← hw1, ← hX]
  have HW := Lib.hid (And.intro hw1 hX)
  clear hw1 hX
  obtain ⟨s2, s3, s4, s5⟩ := hS0
  go_region_held3 (fun w' => w'.cell? ⟨X, 2, none⟩ = some (.int .i64 oa) ∧ w'.cell? ⟨X, 3, none⟩ = some (.int .i64 ob) ∧ w'.cell? ⟨X, 4, none⟩ = some (.int .i64 oc) ∧ w'.cell? ⟨X, 5, none⟩ = some (.string os)) (first | exact ⟨s2, s3, s4, s5⟩ | exact hS1 | exact hS2)
    (first
      | (go_at_call 29; with_reducible refine kk.mono ?_; rintro e u1 ⟨rfl, hS1, kk2⟩; clear kk)
      | (go_at_call 39; with_reducible refine kk2.mono ?_; rintro e u2 ⟨rfl, hS2, HTF⟩; clear kk2))
  go_wp2
  go_ret
  exact ⟨rfl, HTF.out⟩
set_option maxRecDepth 20000 in
set_option maxHeartbeats 4000000 in
theorem does4 (w0 : World) (p g c p2 g2 c2 F : Nat) (B : Bts) (W : World) (h : MM w0 p g c p2 g2 c2 F B B W) (v : Value) (ps : List Pg) (ht : TabV (fun b => b < w0.heap.size) w0 v ps) (on oa ob oc : Int) (os : ByteArray) (hoa : In64 oa) (hob : In64 ob) (hoc : In64 oc) (hos : os.size ≤ 140737488351232) :
    Calls Try.prog 18 #[.pointer (some ⟨p, 0, none⟩), .pointer (some ⟨p2, 0, none⟩), v, .agg #[.int .i64 on, .int .i64 4, .int .i64 oa, .int .i64 ob, .int .i64 oc, .string os]] W fun e w' => e = .returned (.bool true) ∧ DoesPost w0 p g c p2 g2 c2 F w' := by
  obtain ⟨q, np, cap0, rfl⟩ : ∃ q n cap, v = .slice q n cap := by obtain ⟨q, cap, e, _⟩ := ht; exact ⟨_, _, _, e⟩
  obtain ⟨w1, hw1⟩ : ∃ w1, w1 = W.alloc (.cells #[.int .i64 on, .int .i64 4, .int .i64 oa, .int .i64 ob, .int .i64 oc, .string os] 35) := ⟨_, rfl⟩
  obtain ⟨X, hX⟩ : ∃ X, X = W.heap.size := ⟨_, rfl⟩
  have cb : w1.heap[X]? = some (.cells #[.int .i64 on, .int .i64 4, .int .i64 oa, .int .i64 ob, .int .i64 oc, .string os] 35 (0, 0)) := by rw [hw1, hX]; exact block_new _ _
  have h1 : MM w0 p g c p2 g2 c2 F B B w1 := h.below (by rw [hw1]; exact (Below.refl _ W).alloc (Nat.le_refl _) _)
  have hXl : X < w1.heap.size := block_lt cb
  have hne := h1.box cb
  have c1 : w1.cell? ⟨X, 1, none⟩ = some (.int .i64 4) := by rw [cell_of_row _ _ _ _ _ _ cb]; rfl
  have HT : Hid (∀ W, Below w0.heap.size w0 W → TabV (fun b => b < w0.heap.size) W (.slice q np cap0) ps) := fun W hW => ht.below hW
  have HX : Hid (∀ W, W.heap[X]? = w1.heap[X]? → OpX X oa ob oc os W) := fun W hW => OpX.of (hW.trans cb)
  obtain ⟨E, hE⟩ : ∃ E, E = layE F oa ob os.size := ⟨_, rfl⟩
  have kk : Calls Try.prog 25 #[.pointer (some ⟨p, 0, none⟩), .int .i64 oa, .int .i64 ob, .string os] w1.drew fun e u1 => e = .returned (.int .i64 E) ∧ OpX X oa ob oc os u1 ∧
      Calls Try.prog 40 #[.pointer (some ⟨p2, 0, none⟩), .int .i64 oa, .int .i64 ob, .string os] u1 fun e u2 => e = .returned (.int .i64 E) ∧ OpX X oa ob oc os u2 ∧ Hid (DoesPost w0 p g c p2 g2 c2 F u2) := by
    have hd := h1.drew
    refine (lay_any p g c F B w1.drew hd.im oa ob os (by omega)).mono ?_
    rintro e u1 ⟨he, m1, c1⟩
    refine ⟨by rw [he, hE], HX.out u1 (c1.block X hXl hne.1), ?_⟩
    have h2 := hd.setM m1 c1
    refine (rlay_any p2 g2 c2 F B u1 h2.ir oa ob os (by omega)).mono ?_
    rintro e u2 ⟨he, m2, c2⟩
    refine ⟨by rw [he, hE], HX.out u2 ((c2.block X (Nat.lt_of_lt_of_le hXl c1.size) hne.2).trans (c1.block X hXl hne.1)), ?_⟩
    exact ⟨_, h2.setR m2 c2⟩
  have hS0 : OpX X oa ob oc os w1.drew := HX.out _ rfl
  clear h ht h1 hne cb hE
  go_enter Try.func18, Try.ntmps18
  go_wp2
  rw [← hw1, ← hX]
  have HW := Lib.hid (And.intro hw1 hX)
  clear hw1 hX
  obtain ⟨s2, s3, s4, s5⟩ := hS0
  go_region_held3 (fun w' => w'.cell? ⟨X, 2, none⟩ = some (.int .i64 oa) ∧ w'.cell? ⟨X, 3, none⟩ = some (.int .i64 ob) ∧ w'.cell? ⟨X, 4, none⟩ = some (.int .i64 oc) ∧ w'.cell? ⟨X, 5, none⟩ = some (.string os)) (first | exact ⟨s2, s3, s4, s5⟩ | exact hS1 | exact hS2)
    (first
      | (go_at_call 25; with_reducible refine kk.mono ?_; rintro e u1 ⟨rfl, hS1, kk2⟩; clear kk)
      | (go_at_call 40; with_reducible refine kk2.mono ?_; rintro e u2 ⟨rfl, hS2, HTF⟩; clear kk2))
  go_wp2
  go_ret
  exact ⟨rfl, HTF.out⟩
set_option maxRecDepth 20000 in
set_option maxHeartbeats 4000000 in
theorem does5 (w0 : World) (p g c p2 g2 c2 F : Nat) (B : Bts) (W : World) (h : MM w0 p g c p2 g2 c2 F B B W) (v : Value) (ps : List Pg) (ht : TabV (fun b => b < w0.heap.size) w0 v ps) (on oa ob oc : Int) (os : ByteArray) (hoa : In64 oa) (hob : In64 ob) (hoc : In64 oc) (hos : os.size ≤ 140737488351232) :
    Calls Try.prog 18 #[.pointer (some ⟨p, 0, none⟩), .pointer (some ⟨p2, 0, none⟩), v, .agg #[.int .i64 on, .int .i64 5, .int .i64 oa, .int .i64 ob, .int .i64 oc, .string os]] W fun e w' => e = .returned (.bool true) ∧ DoesPost w0 p g c p2 g2 c2 F w' := by
  obtain ⟨q, np, cap0, rfl⟩ : ∃ q n cap, v = .slice q n cap := by obtain ⟨q, cap, e, _⟩ := ht; exact ⟨_, _, _, e⟩
  obtain ⟨w1, hw1⟩ : ∃ w1, w1 = W.alloc (.cells #[.int .i64 on, .int .i64 5, .int .i64 oa, .int .i64 ob, .int .i64 oc, .string os] 35) := ⟨_, rfl⟩
  obtain ⟨X, hX⟩ : ∃ X, X = W.heap.size := ⟨_, rfl⟩
  have cb : w1.heap[X]? = some (.cells #[.int .i64 on, .int .i64 5, .int .i64 oa, .int .i64 ob, .int .i64 oc, .string os] 35 (0, 0)) := by rw [hw1, hX]; exact block_new _ _
  have h1 : MM w0 p g c p2 g2 c2 F B B w1 := h.below (by rw [hw1]; exact (Below.refl _ W).alloc (Nat.le_refl _) _)
  have hXl : X < w1.heap.size := block_lt cb
  have hne := h1.box cb
  have c1 : w1.cell? ⟨X, 1, none⟩ = some (.int .i64 5) := by rw [cell_of_row _ _ _ _ _ _ cb]; rfl
  have HT : Hid (∀ W, Below w0.heap.size w0 W → TabV (fun b => b < w0.heap.size) W (.slice q np cap0) ps) := fun W hW => ht.below hW
  have HX : Hid (∀ W, W.heap[X]? = w1.heap[X]? → OpX X oa ob oc os W) := fun W hW => OpX.of (hW.trans cb)
  obtain ⟨E, hE⟩ : ∃ E, E = (if isF F oa then (0 : Int) else 83) := ⟨_, rfl⟩
  have kk : Calls Try.prog 15 #[.pointer (some ⟨p, 0, none⟩), .int .i64 oa] w1.drew fun e u1 => e = .returned (.int .i64 E) ∧ OpX X oa ob oc os u1 ∧
      Calls Try.prog 41 #[.pointer (some ⟨p2, 0, none⟩), .int .i64 oa] u1 fun e u2 => e = .returned (.int .i64 E) ∧ OpX X oa ob oc os u2 ∧ Hid (DoesPost w0 p g c p2 g2 c2 F u2) := by
    have hd := h1.drew
    refine (clear_any p g c F B w1.drew hd.im oa).mono ?_
    rintro e u1 ⟨he, m1, c1⟩
    refine ⟨by rw [he, hE], HX.out u1 (c1.block X hXl hne.1), ?_⟩
    have h2 := hd.setM m1 c1
    refine (rclear_any p2 g2 c2 F B u1 h2.ir oa).mono ?_
    rintro e u2 ⟨he, m2, c2⟩
    refine ⟨by rw [he, hE], HX.out u2 ((c2.block X (Nat.lt_of_lt_of_le hXl c1.size) hne.2).trans (c1.block X hXl hne.1)), ?_⟩
    exact ⟨_, h2.setR m2 c2⟩
  have hS0 : OpX X oa ob oc os w1.drew := HX.out _ rfl
  clear h ht h1 hne cb hE
  go_enter Try.func18, Try.ntmps18
  go_wp2
  rw [← hw1, ← hX]
  have HW := Lib.hid (And.intro hw1 hX)
  clear hw1 hX
  obtain ⟨s2, s3, s4, s5⟩ := hS0
  go_region_held3 (fun w' => w'.cell? ⟨X, 2, none⟩ = some (.int .i64 oa) ∧ w'.cell? ⟨X, 3, none⟩ = some (.int .i64 ob) ∧ w'.cell? ⟨X, 4, none⟩ = some (.int .i64 oc) ∧ w'.cell? ⟨X, 5, none⟩ = some (.string os)) (first | exact ⟨s2, s3, s4, s5⟩ | exact hS1 | exact hS2)
    (first
      | (go_at_call 15; with_reducible refine kk.mono ?_; rintro e u1 ⟨rfl, hS1, kk2⟩; clear kk)
      | (go_at_call 41; with_reducible refine kk2.mono ?_; rintro e u2 ⟨rfl, hS2, HTF⟩; clear kk2))
  go_wp2
  go_ret
  exact ⟨rfl, HTF.out⟩
end Go.Proofs.Ytnhfbeehoifddaa
