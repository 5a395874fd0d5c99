/- Spaces side by side with the document's: a call on both; clones of both. No conditions. -/
import Derived.Test.YtedhefidfepclaaRqm
namespace Go.Proofs.Ytedhefidfepclaa
open Go.RowKit Go.Maps
set_option linter.unusedVariables false
set_option linter.unusedSimpArgs false

theorem Ch.mono2 {F H : Nat → Prop} {w w' : World} (h : Ch F w w') (e : ∀ k, F k → H k) : Ch H w w' := ⟨h.os, h.tape, h.output, h.size, fun k hk hn => h.block k hk fun x => hn (e k x)⟩
theorem below_draw2 (w : World) : Below w.heap.size w w.drew := ⟨rfl, rfl, rfl, Nat.le_refl _, fun _ _ => rfl⟩
theorem Try.info24 : (Try.prog.info? 24).map (fun i => (i.zero, i.size, i.bytes)) = some (some (.pointer none), 1, 8) := by kernel_rfl
theorem Try.info28 : (Try.prog.info? 28).map (fun i => (i.zero, i.size, i.bytes)) = some (some (.pointer none), 1, 8) := by kernel_rfl
section
variable {n0 k : Nat} {ns : List Nat} {w0 W : World} {xv yv : Value} {own : Nat → Nat} {R : List Rec}
/-- the two pointers of the i-th -/
theorem Stt.at (h : Stt n0 k ns w0 W xv yv own R) {i : Nat} (hi : i < R.length) : ∃ gx cx gy cy, xv = .slice (some ⟨gx, 0, none⟩) R.length cx ∧ yv = .slice (some ⟨gy, 0, none⟩) R.length cy ∧ W.cell? ⟨gx, i, none⟩ = some (.pointer (some ⟨(R.getD i r00).s.p, 0, none⟩)) ∧ W.cell? ⟨gy, i, none⟩ = some (.pointer (some ⟨(R.getD i r00).q.y, 0, none⟩)) := by
  obtain ⟨q1, c1, e1, h1⟩ := rown_slice h.x
  obtain ⟨q2, c2, e2, h2⟩ := rown_slice h.y
  obtain ⟨gx, rfl, hx⟩ := h1 h.pos
  obtain ⟨gy, rfl, hy⟩ := h2 h.pos
  exact ⟨gx, c1, gy, c2, e1, e2, hx i _ (pX_at hi), hy i _ (pY_at hi)⟩
theorem Stt.at2 {gx cx gy cy n m : Nat} (h : Stt n0 k ns w0 W (.slice (some ⟨gx, 0, none⟩) n cx) (.slice (some ⟨gy, 0, none⟩) m cy) own R) {i : Nat} (hi : i < R.length) : n = R.length ∧ m = R.length ∧ W.cell? ⟨gx, i, none⟩ = some (.pointer (some ⟨(R.getD i r00).s.p, 0, none⟩)) ∧ W.cell? ⟨gy, i, none⟩ = some (.pointer (some ⟨(R.getD i r00).q.y, 0, none⟩)) := by
  obtain ⟨gx', cx', gy', cy', e1, e2, h1, h2⟩ := h.at hi
  injection e1 with e1 e3 _
  injection e1 with e1
  injection e1 with e1 _
  injection e2 with e2 e4 _
  injection e2 with e2
  injection e2 with e2 _
  subst e1; subst e2
  exact ⟨e3, e4, h1, h2⟩
theorem Stt.two {W' : World} {i : Nat} (h : Stt n0 k ns w0 W xv yv own R) (hi : i < R.length) (hb : Below W.heap.size W W') (B' : Bts) (ps' : List Pg) (P Q : Nat) (args1 args2 : Array Value) (v1 : Value)
    (S : World → Prop) (hS : ∀ W2, (∀ b, b < W'.heap.size → own b ≠ 2 * i + 4 → own b ≠ 2 * i + 5 → W2.heap[b]? = W'.heap[b]?) → S W2)
    (hp : IsS W' (R.getD i r00).s (R.getD i r00).B ns (R.getD i r00).ps → Calls Try.prog P args1 W' fun e w1 => e = .returned v1 ∧ IsS w1 (R.getD i r00).s B' ns ps' ∧ Ch (onS (R.getD i r00).s) W' w1)
    (hr : ∀ W2 G, IsQ W2 G (R.getD i r00).q (R.getD i r00).B ns (R.getD i r00).ps → ¬ G (R.getD i r00).q.g → ¬ G (R.getD i r00).q.gt → Calls Try.prog Q args2 W2 fun e w2 => e = .returned v1 ∧ IsQ w2 (nwG G W2 w2) (R.getD i r00).q B' ns ps' ∧ Ch (onQ (R.getD i r00).q) W2 w2) :
    Calls Try.prog P args1 W' fun e w1 => e = .returned v1 ∧ S w1 ∧ Hid (∀ W1, (W1 = w1 ∨ W1 = w1.drew) → S W1 ∧ Calls Try.prog Q args2 W1 fun e2 w2 => e2 = .returned v1 ∧ S w2 ∧ Hid (∃ own' R', Stt n0 (k + 1) ns w0 w2 xv yv own' R' ∧ R'.length = R.length)) := by
  have h' := h.below hb
  obtain ⟨g1, g2, g3, g4, g5⟩ := h.ug i hi
  obtain ⟨d1, d2, d3, d4⟩ := h.dg i hi
  refine (hp (h'.u i hi)).mono fun e1 w1 ⟨x1, x2, x3⟩ => ?_
  have s1 := x3.size
  have kp1 : ∀ b, b < W'.heap.size → own b ≠ 2 * i + 4 → w1.heap[b]? = W'.heap[b]? := fun b y1 y2 => x3.block b y1 fun e => by
    rcases e with e | e <;> (rw [e] at y2; omega)
  refine ⟨x1, hS w1 fun b y1 y2 _ => kp1 b y1 y2, Lib.hid fun W1 hW1 => ?_⟩
  have hb1 : Below w1.heap.size w1 W1 := by rcases hW1 with q | q <;> subst q; exact Below.refl _ _; exact below_draw2 _
  have s2 := hb1.size
  have k1 : ∀ b, b < W'.heap.size → own b ≠ 2 * i + 4 → W1.heap[b]? = W'.heap[b]? := fun b y1 y2 => (hb1.block b (by omega)).trans (kp1 b y1 y2)
  have hd := h'.d i hi
  obtain ⟨l1, l2, l3, l4⟩ := hd.lt
  have hd1 : IsQ W1 (fun j => own j = 1) (R.getD i r00).q (R.getD i r00).B ns (R.getD i r00).ps := hd.keep (by omega) (k1 _ l1 (by omega)) (k1 _ l2 (by omega)) (k1 _ l3 (by omega)) (k1 _ l4 (by omega)) fun j y1 y2 => k1 j y1 (by have y2 : own j = 1 := y2; omega)
  refine ⟨hS W1 fun b y1 y2 _ => k1 b y1 y2, (hr W1 _ hd1 (by show ¬ own _ = 1; omega) (by show ¬ own _ = 1; omega)).mono fun e2 w2 ⟨z1, z2, z3⟩ => ?_⟩
  refine ⟨z1, hS w2 fun b y1 y2 y3 => (z3.block b (by omega) fun e => by rcases e with e | e <;> (rw [e] at y3; omega)).trans (k1 b y1 y2), Lib.hid ⟨_, _, (h.both hi hb x2 x3 hb1 z2 z3).next, by rw [List.length_set]⟩⟩
set_option maxRecDepth 20000 in
set_option maxHeartbeats 2000000 in
theorem Stt.clone {W' : World} {i : Nat} (h : Stt n0 k ns w0 W xv yv own R) (hi : i < R.length) (hb : Below W.heap.size W W') (hk : k ≤ 4398046511104) (hns : 1 ≤ ns.length) {gy cy : Nat} (hyv : yv = .slice (some ⟨gy, 0, none⟩) R.length cy) :
    Calls Try.prog 17 #[.pointer (some ⟨(R.getD i r00).s.p, 0, none⟩)] W' fun e w1 => ∃ p', e = .returned (.pointer (some ⟨p', 0, none⟩)) ∧ ∃ q1 n1 c1 W2, (Builtin.append_ #[32, 32] 32 #[xv, .slice (some ⟨w1.heap.size, 0, none⟩) 1 1]).run Try.prog (w1.alloc (.cells #[.pointer (some ⟨p', 0, none⟩)] 24)) = .ok (.slice q1 n1 c1) W2 ∧
      W2.cell? ⟨gy, i, none⟩ = some (.pointer (some ⟨(R.getD i r00).q.y, 0, none⟩)) ∧
      Hid (Calls Try.prog 18 #[.pointer (some ⟨(R.getD i r00).q.y, 0, none⟩)] W2 fun e2 w3 => ∃ r', e2 = .returned (.pointer (some ⟨r', 0, none⟩)) ∧ ∃ q2 n2 c2 W4, (Builtin.append_ #[33, 33] 33 #[yv, .slice (some ⟨w3.heap.size, 0, none⟩) 1 1]).run Try.prog (w3.alloc (.cells #[.pointer (some ⟨r', 0, none⟩)] 28)) = .ok (.slice q2 n2 c2) W4 ∧
        Hid (∃ own' R', Stt n0 (k + 1) ns w0 W4 (.slice q1 n1 c1) (.slice q2 n2 c2) own' R' ∧ R.length < R'.length)) := by
  have h' := h.below hb
  obtain ⟨i24, hi24, hz24, hs24, hb24⟩ := info_parts Try.info24
  obtain ⟨i28, hi28, hz28, hs28, hb28⟩ := info_parts Try.info28
  have hle := h.le
  have hnW : n0 ≤ W'.heap.size := Nat.le_trans h.hn h'.bel.size
  refine (sclone_any W' _ _ _ _ (h'.u i hi)).mono fun e w1 ⟨s', x1, x2, z1, z2, z3, z4, z5, x3⟩ => ⟨s'.p, x1, ?_⟩
  have ba : Below w1.heap.size w1 (w1.alloc (.cells #[.pointer (some ⟨s'.p, 0, none⟩)] 24)) := (Below.refl _ w1).alloc (Nat.le_refl _) _
  have na := block_new w1 (.cells #[.pointer (some ⟨s'.p, 0, none⟩)] 24)
  have bx : Below W'.heap.size W' (w1.alloc (.cells #[.pointer (some ⟨s'.p, 0, none⟩)] 24)) := x3.trans (ba.mono x3.size)
  have sa : (w1.alloc (.cells #[.pointer (some ⟨s'.p, 0, none⟩)] 24)).heap.size = w1.heap.size + 1 := World.size_alloc _ _
  obtain ⟨vx, W2, r1, o1, g1, _, k1⟩ := run_append_own_at (P := Try.prog) (w := w1.alloc (.cells #[.pointer (some ⟨s'.p, 0, none⟩)] 24)) n0 32 32 24 i24 (.pointer none) 1 8 Try.underlying32 hi24 hz24 hs24 hb24 rfl (by decide) xv _ _ (rown_below h'.x bx) ⟨w1.heap.size, 0, none⟩ 1 1 [.pointer (some ⟨s'.p, 0, none⟩)] rfl (by
    intro j u hu
    rw [addr_at, Nat.zero_add, cell_of_row _ _ _ _ _ _ na, ← hu]; exact (List.getElem?_toArray ..)) (by intro u hu; simp at hu; subst hu; rfl) (by unfold maxLen; omega) (by omega) (Nat.le_trans hnW bx.size)
  obtain ⟨q1, c1, rfl, _⟩ := rown_slice o1
  have xlt : ∀ j, xv.ownBlock = some j → j < W'.heap.size := fun j hj => (rown_ty h'.x j hj).1.lt
  have ylt : ∀ j, yv.ownBlock = some j → j < W'.heap.size := fun j hj => (rown_ty h'.y j hj).1.lt
  have kpa : ∀ b, b < W'.heap.size → xv.ownBlock ≠ some b → W2.heap[b]? = W'.heap[b]? := fun b h1 h2 => (g1.block b (by have := bx.size; omega) (fun e => h2 e.symm)).trans (bx.block b h1)
  have kpb : ∀ b, W'.heap.size ≤ b → b < w1.heap.size → W2.heap[b]? = w1.heap[b]? := fun b h1 h2 => (g1.block b (by omega) (fun e => by have := xlt b e.symm; omega)).trans (ba.block b h2)
  have s2 : w1.heap.size + 1 ≤ W2.heap.size := by have := g1.size; omega
  have sW : W'.heap.size ≤ w1.heap.size := x3.size
  have d1 := h'.d i hi
  have own3 : ∀ b, own b ≠ 3 → xv.ownBlock ≠ some b ∧ yv.ownBlock ≠ some b := fun b hb => ⟨fun e => hb (h.xo b e), fun e => hb (h.yo b e)⟩
  obtain ⟨e1, e2, e3, e4⟩ := h.dg i hi
  have d2W : IsQ W2 (fun j => own j = 1) (R.getD i r00).q (R.getD i r00).B ns (R.getD i r00).ps := d1.keep (by omega) (kpa _ d1.lt.1 (own3 _ (by omega)).1) (kpa _ d1.lt.2.1 (own3 _ (by omega)).1) (kpa _ d1.lt.2.2.1 (own3 _ (by omega)).1) (kpa _ d1.lt.2.2.2 (own3 _ (by omega)).1) fun j h1 h2 => kpa j h1 (own3 j (by have h2 : own j = 1 := h2; omega)).1
  have hy2 : W2.ownsRow n0 28 1 yv R.length (pY R) := rown_keep h'.y fun j hj ht => kpa j ht.lt fun e => TyB.ne (rown_ty h'.x _ e).1 ht (by decide) rfl
  refine ⟨q1, _, c1, W2, r1, ?_, Lib.hid ?_⟩
  · obtain ⟨q2, cap2, e2, hc2⟩ := rown_slice hy2
    rw [hyv] at e2
    injection e2 with e2 _ _
    obtain ⟨g2, e3, hc3⟩ := hc2 h.pos
    rw [e3] at e2
    injection e2 with e2
    injection e2 with e2 _
    subst e2
    exact hc3 i _ (pY_at hi)
  refine (qcopy_any W2 _ _ _ _ _ d2W hns).mono fun e2 w3 ⟨q', y1, y2, y4, t1, t2, t3, t4⟩ => ⟨q'.y, y1, ?_⟩
  have bb : Below w3.heap.size w3 (w3.alloc (.cells #[.pointer (some ⟨q'.y, 0, none⟩)] 28)) := (Below.refl _ w3).alloc (Nat.le_refl _) _
  have nb := block_new w3 (.cells #[.pointer (some ⟨q'.y, 0, none⟩)] 28)
  have by_ : Below W2.heap.size W2 (w3.alloc (.cells #[.pointer (some ⟨q'.y, 0, none⟩)] 28)) := y4.trans (bb.mono y4.size)
  have sb : (w3.alloc (.cells #[.pointer (some ⟨q'.y, 0, none⟩)] 28)).heap.size = w3.heap.size + 1 := World.size_alloc _ _
  have hnb : n0 ≤ (w3.alloc (.cells #[.pointer (some ⟨q'.y, 0, none⟩)] 28)).heap.size := by have := x3.size; have := y4.size; omega
  obtain ⟨vy, W4, r2, o2, g2, _, k2⟩ := run_append_own_at (P := Try.prog) (w := w3.alloc (.cells #[.pointer (some ⟨q'.y, 0, none⟩)] 28)) n0 33 33 28 i28 (.pointer none) 1 8 Try.underlying33 hi28 hz28 hs28 hb28 rfl (by decide) yv _ _ (rown_below hy2 by_) ⟨w3.heap.size, 0, none⟩ 1 1 [.pointer (some ⟨q'.y, 0, none⟩)] rfl (by
    intro j u hu
    rw [addr_at, Nat.zero_add, cell_of_row _ _ _ _ _ _ nb, ← hu]; exact (List.getElem?_toArray ..)) (by intro u hu; simp at hu; subst hu; rfl) (by unfold maxLen; omega) (by omega) hnb
  obtain ⟨q2, c2, rfl, _⟩ := rown_slice o2
  have s3 : W2.heap.size ≤ w3.heap.size := y4.size
  have s4 : w3.heap.size + 1 ≤ W4.heap.size := by have := g2.size; omega
  have kpc : ∀ b, b < W2.heap.size → yv.ownBlock ≠ some b → W4.heap[b]? = W2.heap[b]? := fun b h1 h2 => (g2.block b (by have := by_.size; omega) (fun e => h2 e.symm)).trans (by_.block b h1)
  have kpd : ∀ b, W2.heap.size ≤ b → b < w3.heap.size → W4.heap[b]? = w3.heap[b]? := fun b h1 h2 => (g2.block b (by omega) (fun e => by have := ylt b e.symm; omega)).trans (bb.block b h2)
  have kp : ∀ b, b < W'.heap.size → xv.ownBlock ≠ some b → yv.ownBlock ≠ some b → W4.heap[b]? = W'.heap[b]? := fun b h1 h2 h3 => (kpc b (by omega) h3).trans (kpa b h1 h2)
  have kps : ∀ b, W'.heap.size ≤ b → b < w1.heap.size → W4.heap[b]? = w1.heap[b]? := fun b h1 h2 => (kpc b (by omega) (fun e => by have := ylt b e; omega)).trans (kpb b h1 h2)
  obtain ⟨l1, l2, l3, l4, l5⟩ := x2.lt
  obtain ⟨m1, m2, m3, m4⟩ := y2.lt
  -- the new space's blocks are five, and the document's four
  have t77 : TyB w1 s'.p 77 := ⟨_, _, x2.blk⟩
  have t113 : TyB w1 s'.pm 113 := ⟨_, _, x2.mem.blk⟩
  have t114 : TyB w1 s'.g 114 := by obtain ⟨c, f, hc, _⟩ := x2.mem.row; exact ⟨_, _, hc⟩
  have t56 : TyB w1 s'.gp 56 := by obtain ⟨c, hc, _⟩ := x2.pgs; exact ⟨_, _, hc⟩
  have t3' : TyB w1 s'.gb 3 := by obtain ⟨c, hc, _⟩ := x2.bds; exact ⟨_, _, hc⟩
  have u81 : TyB w3 q'.y 81 := ⟨_, _, y2.blk⟩
  have u94 : TyB w3 q'.m 94 := ⟨_, _, y2.mem.blk⟩
  have u9 : TyB w3 q'.g 9 := by obtain ⟨c, hc, _⟩ := y2.mem.row; exact ⟨_, _, hc⟩
  have u50 : TyB w3 q'.gt 50 := by obtain ⟨c, hc, _⟩ := y2.tab; exact ⟨_, _, hc⟩
  obtain ⟨ow, how⟩ : ∃ ow : Nat → Nat, ow = fun j => if j < W'.heap.size then own j else if j < w1.heap.size then (if j = s'.g ∨ j = s'.gp then 2 * R.length + 4 else 0) else if W2.heap.size ≤ j ∧ j < w3.heap.size then (if j = q'.g ∨ j = q'.gt then 2 * R.length + 5 else 0) else if j < W4.heap.size then 3 else 0 := ⟨_, rfl⟩
  have a0 : ∀ j, j < W'.heap.size → ow j = own j := fun j h1 => by rw [how]; exact if_pos h1
  have a1 : ∀ j, W'.heap.size ≤ j → j < w1.heap.size → ow j = if j = s'.g ∨ j = s'.gp then 2 * R.length + 4 else 0 := fun j h1 h2 => by rw [how]; show (if j < _ then _ else _) = _; rw [if_neg (by omega), if_pos h2]
  have a2 : ∀ j, W2.heap.size ≤ j → j < w3.heap.size → ow j = if j = q'.g ∨ j = q'.gt then 2 * R.length + 5 else 0 := fun j h1 h2 => by rw [how]; show (if j < _ then _ else _) = _; rw [if_neg (by omega), if_neg (by omega), if_pos ⟨h1, h2⟩]
  have a3 : ∀ j, w1.heap.size ≤ j → j < W4.heap.size → (j < W2.heap.size ∨ w3.heap.size ≤ j) → ow j = 3 := fun j h1 h2 h3 => by rw [how]; show (if j < _ then _ else _) = _; rw [if_neg (by omega), if_neg (by omega), if_neg (by omega), if_pos h2]
  have a4 : ∀ j, W4.heap.size ≤ j → ow j = 0 := fun j h1 => by rw [how]; show (if j < _ then _ else _) = _; rw [if_neg (by omega), if_neg (by omega), if_neg (by omega), if_neg (by omega)]
  clear how
  have dlt : ∀ j, own j ≠ 0 → j < W'.heap.size := fun j hj => (h'.dom j hj).2
  have one : ∀ j, own j = 1 → ow j = 1 := fun j hj => by rw [a0 j (dlt j (by omega))]; exact hj
  have lenR : (R ++ [(⟨s', q', (R.getD i r00).B, (R.getD i r00).ps⟩ : Rec)]).length = R.length + 1 := by simp
  have bel4 : RowKit.Below n0 w0 W4 := by
    have b1 : RowKit.Below n0 w0 (w1.alloc (.cells #[.pointer (some ⟨s'.p, 0, none⟩)] 24)) := h'.bel.trans (bx.mono hnW)
    have b2 : RowKit.Below n0 w0 W2 := b1.grown g1 (Nat.le_trans hnW bx.size) (fun j hj => (rown_ty h'.x j hj).2)
    have b3 : RowKit.Below n0 w0 (w3.alloc (.cells #[.pointer (some ⟨q'.y, 0, none⟩)] 28)) := b2.trans (by_.mono (by omega))
    exact b3.grown g2 hnb (fun j hj => (rown_ty h'.y j hj).2)
  refine ⟨q2, _, c2, W4, r2, Lib.hid ⟨ow, R ++ [⟨s', q', (R.getD i r00).B, (R.getD i r00).ps⟩], ⟨h.hn, bel4, fun j hj => ?_, fun m hm => ?_, fun m hm => ?_, fun m hm => ?_, fun m hm => ?_, ?_, fun j hj => ?_, ?_, fun j hj => ?_, by rw [lenR]; omega, by rw [lenR]; omega⟩, by simp⟩⟩
  · by_cases q : j < W'.heap.size
    · rw [a0 j q] at hj; exact ⟨(h'.dom j hj).1, by omega⟩
    · refine ⟨by omega, ?_⟩
      by_cases q2 : j < W4.heap.size
      · exact q2
      · rw [a4 j (by omega)] at hj; exact absurd rfl hj
  · rw [lenR] at hm
    rw [rec_app _ _ _ hm]
    split
    · rename_i q
      have hu := h'.u m q
      obtain ⟨v1, v2, v3, v4, v5⟩ := hu.lt
      obtain ⟨b1, b2, b3, b4, b5⟩ := h.ug m q
      exact hu.keep (kp _ v1 (own3 _ (by omega)).1 (own3 _ (by omega)).2) (kp _ v2 (own3 _ (by omega)).1 (own3 _ (by omega)).2) (kp _ v3 (own3 _ (by omega)).1 (own3 _ (by omega)).2) (kp _ v4 (own3 _ (by omega)).1 (own3 _ (by omega)).2) (kp _ v5 (own3 _ (by omega)).1 (own3 _ (by omega)).2)
    · exact x2.keep (kps _ z1 l1) (kps _ z2 l2) (kps _ z3 l3) (kps _ z4 l4) (kps _ z5 l5)
  · rw [lenR] at hm
    rw [rec_app _ _ _ hm]
    split
    · rename_i q
      obtain ⟨v1, v2, v3, v4, v5⟩ := (h'.u m q).lt
      rw [a0 _ v1, a0 _ v2, a0 _ v3, a0 _ v4, a0 _ v5]
      exact h.ug m q
    · rename_i q
      obtain rfl : m = R.length := by omega
      refine ⟨?_, ?_, ?_, ?_, ?_⟩
      · show ow s'.g = _; rw [a1 _ z3 l3, if_pos (.inl rfl)]
      · show ow s'.gp = _; rw [a1 _ z4 l4, if_pos (.inr rfl)]
      · show ow s'.p ≤ _; rw [a1 _ z1 l1, if_neg (fun e => by rcases e with e | e; exact TyB.ne t77 t114 (by decide) e; exact TyB.ne t77 t56 (by decide) e)]; omega
      · show ow s'.pm ≤ _; rw [a1 _ z2 l2, if_neg (fun e => by rcases e with e | e; exact TyB.ne t113 t114 (by decide) e; exact TyB.ne t113 t56 (by decide) e)]; omega
      · show ow s'.gb ≤ _; rw [a1 _ z5 l5, if_neg (fun e => by rcases e with e | e; exact TyB.ne t3' t114 (by decide) e; exact TyB.ne t3' t56 (by decide) e)]; omega
  · rw [lenR] at hm
    rw [rec_app _ _ _ hm]
    split
    · rename_i q
      have hd := h'.d m q
      obtain ⟨v1, v2, v3, v4⟩ := hd.lt
      obtain ⟨b1, b2, b3, b4⟩ := h.dg m q
      exact (hd.keep (by omega) (kp _ v1 (own3 _ (by omega)).1 (own3 _ (by omega)).2) (kp _ v2 (own3 _ (by omega)).1 (own3 _ (by omega)).2) (kp _ v3 (own3 _ (by omega)).1 (own3 _ (by omega)).2) (kp _ v4 (own3 _ (by omega)).1 (own3 _ (by omega)).2) fun j y1 y2 => kp j y1 (own3 j (by have y2 : own j = 1 := y2; omega)).1 (own3 j (by have y2 : own j = 1 := y2; omega)).2).mono fun j _ e => one j e
    · refine (y2.keep (by omega) (kpd _ t1 m1) (kpd _ t2 m2) (kpd _ t3 m3) (kpd _ t4 m4) fun j y1 y2 => ?_).mono fun j _ e => one j e
      have y2 : own j = 1 := y2
      have jl := dlt j (by omega)
      exact (kpc j (by omega) (own3 j (by omega)).2).trans (y4.block j (by omega)).symm
  · rw [lenR] at hm
    rw [rec_app _ _ _ hm]
    split
    · rename_i q
      obtain ⟨v1, v2, v3, v4⟩ := (h'.d m q).lt
      rw [a0 _ v1, a0 _ v2, a0 _ v3, a0 _ v4]
      exact h.dg m q
    · rename_i q
      obtain rfl : m = R.length := by omega
      refine ⟨?_, ?_, ?_, ?_⟩
      · show ow q'.g = _; rw [a2 _ t3 m3, if_pos (.inl rfl)]
      · show ow q'.gt = _; rw [a2 _ t4 m4, if_pos (.inr rfl)]
      · show ow q'.y ≤ _; rw [a2 _ t1 m1, if_neg (fun e => by rcases e with e | e; exact TyB.ne u81 u9 (by decide) e; exact TyB.ne u81 u50 (by decide) e)]; omega
      · show ow q'.m ≤ _; rw [a2 _ t2 m2, if_neg (fun e => by rcases e with e | e; exact TyB.ne u94 u9 (by decide) e; exact TyB.ne u94 u50 (by decide) e)]; omega
  · rw [lenR, show pX (R ++ [(⟨s', q', (R.getD i r00).B, (R.getD i r00).ps⟩ : Rec)]) = pX R ++ [.pointer (some ⟨s'.p, 0, none⟩)] by unfold pX; simp]
    exact rown_keep o1 fun j hj ht => kpc j ht.lt fun e => by
      have hy := (rown_ty hy2 j e).1
      exact TyB.ne ht hy (by decide) rfl
  · have hj2 := hj
    rcases k1 with q | q
    · rw [q] at hj; rw [a0 j (xlt j hj)]; exact h.xo j hj
    · rw [q] at hj; injection hj with hj
      have := (rown_ty o1 j hj2).1.lt
      exact a3 j (by omega) (by omega) (.inl this)
  · rw [lenR, show pY (R ++ [(⟨s', q', (R.getD i r00).B, (R.getD i r00).ps⟩ : Rec)]) = pY R ++ [.pointer (some ⟨q'.y, 0, none⟩)] by unfold pY; simp]
    exact o2
  · have hj2 := hj
    rcases k2 with q | q
    · rw [q] at hj; rw [a0 j (ylt j hj)]; exact h.yo j hj
    · rw [q] at hj; injection hj with hj
      exact a3 j (by omega) (rown_ty o2 j hj2).1.lt (.inr (by omega))
end
end Go.Proofs.Ytedhefidfepclaa
