/- A journal that is checkpointed, its disk's crash, and the journal opened again. Conditions: ints are within 64 bits. -/
import Derived.Test.YtjippoejaieneaaGreatJrw
import Derived.Test.YtjippoejaieneaaGreatJhr
import Derived.Test.YtjippoejaieneaaGreatJoq
namespace Go.Proofs.YtjippoejaieneaaGreat
open Go.RowKit Go.Maps
set_option maxRecDepth 20000
set_option linter.unusedVariables false

def JR (n B j x p b A : Nat) (H : Int) (W : World) : Prop := ∃ S V J, JAt W B j x p S V J ∧ Calm n S ∧ CelOk S V J ∧ V.cnt = b ∧ J.area = A ∧ V.mis = 0 ∧ HI S V J ∧ V.first = 0 ∧ J.head ≤ H
def JW (n B j x p b A m : Nat) (H : Int) (l : List Bts) (W : World) (v : Value) : Prop := ∃ S V J, RJ W B j x p S V J v l ∧ l = celsL S V J ∧ Calm n S ∧ CelOk S V J ∧ V.cnt = b ∧ J.area = A ∧ V.mis ≤ m ∧ HI S V J ∧ V.first = 0 ∧ J.head ≤ H
def JE (n B j x p b A m : Nat) (nx : Int) (l : List Bts) (W : World) (v : Value) : Prop := ∃ S V J, RJ W B j x p S V J v l ∧ l = celsL S V J ∧ Calm n S ∧ CelOk S V J ∧ V.cnt = b ∧ J.area = A ∧ V.mis ≤ m ∧ HI S V J ∧ V.first = 0 ∧ J.en ≤ 2 ∧ J.next = nx
theorem JE.below {n B j x p b A m : Nat} {nx : Int} {l : List Bts} {W W' : World} {v : Value} (h : JE n B j x p b A m nx l W v) (hb : Below W.heap.size W W') : JE n B j x p b A m nx l W' v := by
  obtain ⟨S, V, J, h1, h2⟩ := h
  exact ⟨S, V, J, h1.below hb, h2⟩
theorem JAt.jok {W : World} {B j x p : Nat} {S : St} {V : Dv} {J : Jn} (h : JAt W B j x p S V J) : J.ok V ∧ Good S V ∧ B ≤ W.heap.size := by
  obtain ⟨h0, F, mb, i, g⟩ := h
  exact ⟨i.ok, i.jx.good, h0⟩
theorem cmJ_head {J : Jn} {V : Dv} {tx : List Wt} : (cmJ J V tx).head ≤ J.head + 1 := by
  by_cases go : cmGo J V tx
  · rw [(cm_yes go).2]
    show (cmK J tx).head ≤ _
    unfold cmK ckJ
    split
    · split
      · omega
      · show J.head + 1 ≤ _; omega
    · omega
  · rw [(cm_no go).2]; omega
theorem jr_commit {n : Nat} (B j x p b A : Nat) (H : Int) (v : Value) (l : List Wt) (w : World) (h : JR n B j x p b A H w) (hv : WV w (fun k => k < B) v l) (hl : l.length ≤ 17592186044416) :
    Calls Tryz.prog 24 #[.pointer (some ⟨j, 0, none⟩), v] w fun e w' => ∃ E, e = .returned (.int .i64 E) ∧ JR n B j x p b A (H + 1) w' ∧ Below B w w' := by
  obtain ⟨S, V, J, ⟨h0, F, mb, i, g⟩, hc, hco, h4, h5, h6, hi, h7, h8⟩ := h
  refine (commit_any F (fun k => k < B) j x p mb S V J v l w i hv (fun k hk z => by have := g k z; omega) (fun k hk => Nat.lt_of_lt_of_le hk h0) hl).mono fun e w' q => ?_
  obtain ⟨g1, c1⟩ := calm_run (cmS J V l) hc i.jx.good
  rcases q with ⟨q1, _⟩ | ⟨_, q2, t⟩
  · rw [g1] at q1; cases q1
  obtain ⟨_, _, _, f1, f2, _, f4⟩ := run_good (cmS J V l) hc.ok i.jx.good
  have hja : (cmJ J V l).area = J.area := by
    rcases cmE_cases (J := J) (V := V) (l := l) with ⟨_, z | z⟩ | ⟨_, z⟩
    · rw [z, cmJ_nil]
    · exact (cmJ_more z).2
    · rw [z]
  have hce : CelOk (runS (cmS J V l) S V).1 (runS (cmS J V l) S V).2 (cmJ J V l) := by
    by_cases go : cmGo J V l
    · exact (cm_cel hc i.jx.good i.ok hco go).1
    · obtain ⟨e1, e2⟩ := cm_no go
      rw [e1, e2]; exact hco
  obtain ⟨t1, t2⟩ := JAt.of h0 g t
  exact ⟨_, q2, ⟨_, _, _, t1, c1, hce, f2.trans h4, hja.trans h5, f4.trans h6, hi.cm hc i.jx.good i.ok, f1.trans h7, by have := cmJ_head (J := J) (V := V) (tx := l); omega⟩, t2⟩
theorem jr_sync {n : Nat} (B j x p b A : Nat) (H : Int) (w : World) (h : JR n B j x p b A H w) :
    Calls Tryz.prog 30 #[.pointer (some ⟨j, 0, none⟩)] w fun e w' => e = .returned (.int .i64 0) ∧ JR n B j x p b A H w' ∧ Below B w w' := by
  obtain ⟨S, V, J, ⟨h0, F, mb, i, g⟩, hc, hco, h4, h5, h6, hi, h7, h8⟩ := h
  refine (sync_any F j x p mb S V J w i).mono fun e w' q => ?_
  obtain ⟨g1, c1⟩ := calm_run [.bar] hc i.jx.good
  rcases q with ⟨q1, _⟩ | ⟨_, q2, t⟩
  · rw [g1] at q1; cases q1
  obtain ⟨_, _, _, f1, f2, _, f4⟩ := run_good [.bar] hc.ok i.jx.good
  obtain ⟨t1, t2⟩ := JAt.of h0 g t
  have a1 := i.ok.a1
  refine ⟨q2, ⟨_, _, _, t1, c1, fun c hcc hz => ?_, f2.trans h4, h5, f4.trans h6, hi.bar hc i.jx.good i.ok, f1.trans h7, h8⟩, t2⟩
  rw [f2] at hcc
  obtain ⟨r1, _⟩ := run_rd hc i.jx.good (l := [.bar]) (fun s hs => by rw [List.mem_singleton.1 hs]; trivial) (k := (J.area : Int) + (c : Int)) ⟨by omega, by omega⟩
  rw [(r1 rfl).1]
  exact hco c hcc hz
theorem jr_first {n : Nat} (B j x p b A : Nat) (H : Int) (w : World) (h : JR n B j x p b A H w) :
    Calls Tryz.prog 22 #[.pointer (some ⟨j, 0, none⟩)] w fun e w' => ∃ v l, e = .returned (.tuple #[v, .bool true]) ∧ JW n B j x p b A 4096 H l w' v ∧ Below B w w' := by
  obtain ⟨S, V, J, ⟨h0, F, mb, i, g⟩, hc, hco, h4, h5, h6, hi, h7, h8⟩ := h
  refine (readL_any F j x p mb S V J w i hc.dead hco (by omega)).mono fun e w' ⟨v2, F', mb', V', q1, q2, q3, q4, i', gr, ch, r'⟩ => ?_
  have g' : ∀ k, JF F' j mb' k → B ≤ k := fun k hk => by
    rcases gr k hk with z | z
    · exact g k z
    · exact Nat.le_trans h0 z.1
  exact ⟨v2, celsL S V J, q1, ⟨S, V', J, ⟨Nat.le_trans h0 ch.size, F', mb', i', g', ⟨own_low r'.own h0, r'.nb⟩⟩, (celsL_same q2 q3).symm, hc, hco.same q2 q3, q3.trans h4, h5, by omega, hi.same q2 q3, q2.trans h7, h8⟩, ch.below h0 g⟩
theorem jw_ck {n : Nat} (B j x p b A m : Nat) (H : Int) (l : List Bts) (v : Value) (w : World) (h : JW n B j x p b A m H l w v) (hH : H < 4611686018427387904) :
    Calls Tryz.prog 31 #[.pointer (some ⟨j, 0, none⟩)] w fun e w' => ∃ nx, e = .returned (.int .i64 0) ∧ JE n B j x p b A m nx l w' v ∧ Below B w w' := by
  obtain ⟨S, V, J, ⟨h0, F, mb, i, g, r⟩, hl, hc, hco, h4, h5, h6, hi, h7, h8⟩ := h
  have hh : J.head ≠ 4611686018427387904 := by omega
  refine (checkpoint_any F j x p mb S V J w i).mono fun e w' q => ?_
  obtain ⟨g1, c1⟩ := calm_run (ckS J V) hc i.jx.good
  rcases q with ⟨q1, _⟩ | ⟨_, q2, F', mb', i', gr, ch⟩
  · rw [g1] at q1; cases q1
  have hE : ckE J = 0 := if_neg hh
  rw [hE] at q2
  obtain ⟨_, _, _, f1, f2, _, f4⟩ := run_good (ckS J V) hc.ok i.jx.good
  obtain ⟨k1, k2⟩ := ck_cel hc i.jx.good i.ok hco
  obtain ⟨k3, k4⟩ := hi.ck hc i.jx.good i.ok hh
  have hja : (ckJ J).area = J.area := by unfold ckJ; split <;> rfl
  obtain ⟨t1, t2⟩ := RJ.to h0 g r i' gr ch
  refine ⟨_, q2, ⟨_, _, _, t1, ?_, c1, k1, f2.trans h4, hja.trans h5, by omega, k3, f1.trans h7, k4, rfl⟩, t2⟩
  rw [hl]
  unfold celsL
  rw [f2, hja]
  exact List.map_congr_left fun c hcm => (k2 c (List.mem_range.1 hcm)).symm
theorem je_room {n : Nat} (B j x p b A m : Nat) (nx : Int) (l : List Bts) (v : Value) (w : World) (h : JE n B j x p b A m nx l w v) :
    Calls Tryz.prog 26 #[.pointer (some ⟨j, 0, none⟩)] w fun e w' => e = .returned (.int .i64 (mostN A 2)) ∧ w = w' := by
  obtain ⟨S, V, J, h1, hl, hc, hco, h4, h5, h6, hi, h7, h8, h9⟩ := h
  have he : J.en = 2 := by have := h1.jx.1.e0; omega
  have := rj_room B j x p S V J v l w h1
  rw [h5, he] at this
  exact this
theorem je_again {n : Nat} (B j x p b A m : Nat) (nx : Int) (l : List Bts) (v : Value) (w : World) (h : JE n B j x p b A m nx l w v) (hm : m ≤ 100000) :
    Calls Tryz.prog 22 #[.pointer (some ⟨j, 0, none⟩)] w fun e w' => ∃ v2, e = .returned (.tuple #[v2, .bool true]) ∧ TR w' v2 l ∧ TR w' v l ∧ JE n B j x p b A (m + 4096) nx l w' v ∧ Below B w w' := by
  obtain ⟨S, V, J, h1, hl, hc, hco, h4, h5, h6, hi, h7, h8, h9⟩ := h
  refine (rj_readL B j x p S V J v l w h1 hc hco (by omega)).mono fun e w' ⟨v2, V', q1, q2, q3, q4, q5, q6, q7⟩ => ?_
  have hll : l.length ≤ 8192 := by rw [hl, celsL_len]; have := h1.jx.2; omega
  rw [← hl] at q6
  exact ⟨v2, q1, q6.row hll, q5.row hll, ⟨S, V', J, q5, by rw [hl]; exact (celsL_same q2 q3).symm, hc, hco.same q2 q3, q3.trans h4, h5, by omega, hi.same q2 q3, q2.trans h7, h8, h9⟩, q7⟩
/-- a disk beside a row and a cell -/
structure DR (W : World) (B j p : Nat) (S : St) (v : Value) (l : List Bts) (nx : Int) : Prop where
  base : B ≤ W.heap.size
  dk : ∃ F, IsD W F p S ∧ ∀ k, F k → B ≤ k ∧ k < W.heap.size ∧ v.ownBlock ≠ some k ∧ k ≠ j
  own : W.ownsRow B 9 1 v l.length (l.map strV)
  cell : W.cell? ⟨j, 3, none⟩ = some (.int .i64 nx)
def RO (b A : Nat) (nx : Int) (l : List Bts) (S : St) : Prop := (∃ n, Calm n S) ∧ nwE S 0 (b : Int) 0 = 0 ∧ CanOpen S (newV 0 (b : Int) 0) (A : Int) ∧ (opnJ S (newV 0 (b : Int) 0) (A : Int)).next = nx ∧ (opnJ S (newV 0 (b : Int) 0) (A : Int)).area = A ∧
  CelOk S (vk S (newV 0 (b : Int) 0) 2) (opnJ S (newV 0 (b : Int) 0) (A : Int)) ∧ celsL S (vk S (newV 0 (b : Int) 0) 2) (opnJ S (newV 0 (b : Int) 0) (A : Int)) = l
theorem DR.chg {W W' : World} {B j p : Nat} {S' : St} {v : Value} {l : List Bts} {nx : Int} {F F' : Nat → Prop} (hB : B ≤ W.heap.size) (hF : ∀ k, F k → B ≤ k ∧ k < W.heap.size ∧ v.ownBlock ≠ some k ∧ k ≠ j) (own : W.ownsRow B 9 1 v l.length (l.map strV)) (cell : W.cell? ⟨j, 3, none⟩ = some (.int .i64 nx))
    (i : IsD W' F' p S') (g : Gr F F' W W') (c : Ch F W W') : DR W' B j p S' v l nx ∧ Below B W W' := by
  have hj : j < W.heap.size := World.block_lt_of_cell? W _ cell
  refine ⟨⟨Nat.le_trans hB c.size, ⟨F', i, fun k hk => ?_⟩, own_keep own (fun b hb => c.block b (own_lt own hb) (fun z => (hF b z).2.2.1 hb)), ?_⟩, c.below hB (fun k hk => (hF k hk).1)⟩
  · rcases g k hk with z | z
    · have := hF k z
      exact ⟨this.1, Nat.lt_of_lt_of_le this.2.1 c.size, this.2.2⟩
    · exact ⟨Nat.le_trans hB z.1, z.2, fun e => by have := own_lt own e; omega, by omega⟩
  · rw [← cell]
    unfold World.cell?
    simp only [c.block j hj (fun z => (hF j z).2.2.2 rfl)]
theorem je_crash {n : Nat} (B j x p b A m : Nat) (nx : Int) (l : List Bts) (v vc : Value) (ch : List Int) (G : Nat → Prop) (w : World) (h : JE n B j x p b A m nx l w v) (hcv : CV w G vc ch) :
    Calls Tryz.prog 32 #[.pointer (some ⟨p, 0, none⟩), vc] w fun e w' => ∃ S, e = .returned (.int .i64 0) ∧ DR w' B j p S v l nx ∧ RO b A nx l S.revive ∧ Below B w w' := by
  obtain ⟨S, V, J, ⟨h0, F, mb, i, g, r⟩, hl, hc, hco, h4, h5, h6, hi, h7, h8, h9⟩ := h
  obtain ⟨_, _, _, c3, _⟩ := i.jx.cells
  obtain ⟨Fd, Fv, hdk, hv, g1, g2⟩ := i.jx.ext
  have hfd : ∀ k, Fd k → B ≤ k ∧ k < w.heap.size ∧ v.ownBlock ≠ some k ∧ k ≠ j := fun k hk => by
    have hF := (g1 k hk).1
    exact ⟨g k (.inl hF), (g1 k hk).2.2, fun e => r.nb k e (.inl hF), fun e => i.jx.nj (by rw [← e]; exact hF)⟩
  have := crash_any Fd p S w hdk G vc ch hcv
  unfold St.crash at this
  rw [hc.dead, if_neg (by simp)] at this
  refine this.mono fun e w' q => ?_
  obtain ⟨q1, F', i', gr, c⟩ := q
  rw [h9] at c3
  obtain ⟨t1, t2⟩ := DR.chg h0 hfd r.own c3 i' gr c
  obtain ⟨y1, y2, y3, y4, y5, y6, y7⟩ := reopen hc i.jx.good i.ok hco hi h8 h7 ch
  rw [h4, h5] at y3 y4 y5 y6 y7
  rw [h4] at y2
  exact ⟨_, q1, t1, ⟨⟨_, y1⟩, y2, y3, y4.trans h9, y5, y6, y7.trans hl.symm⟩, t2⟩
theorem dr_revive (B j p : Nat) (S : St) (v : Value) (l : List Bts) (nx : Int) (w : World) (h : DR w B j p S v l nx) :
    Calls Tryz.prog 19 #[.pointer (some ⟨p, 0, none⟩)] w fun e w' => e = .returned (.tuple #[]) ∧ DR w' B j p S.revive v l nx ∧ Below B w w' := by
  obtain ⟨h0, ⟨F, hdk, hF⟩, own, cell⟩ := h
  refine (revive_any F p S w hdk).mono fun e w' q => ?_
  exact ⟨q.1, DR.chg h0 hF own cell q.2.1 (Gr.refl _ _ _) q.2.2.1⟩
set_option maxHeartbeats 4000000 in
theorem dr_open (B j p b A : Nat) (S : St) (v : Value) (l : List Bts) (nx : Int) (w : World) (h : DR w B j p S v l nx) (hro : RO b A nx l S) (hb : b ≤ 4096) (hA : A ≤ 4096) :
    Calls Tryz.prog 33 #[.pointer (some ⟨p, 0, none⟩), .int .i64 (b : Int), .int .i64 (A : Int), .int .i64 0] w fun e w' => ∃ j2 x2 n S V J, e = .returned (.tuple #[.pointer (some ⟨j2, 0, none⟩), .int .i64 0]) ∧ RJ w' B j2 x2 p S V J v l ∧ l = celsL S V J ∧ Calm n S ∧ CelOk S V J ∧ J.next = nx ∧ V.mis ≤ 2 ∧ w'.cell? ⟨j, 3, none⟩ = some (.int .i64 nx) ∧ Below B w w' := by
  obtain ⟨h0, ⟨F, hdk, hF⟩, own, cell⟩ := h
  obtain ⟨⟨n, hcl⟩, y2, y3, y4, y5, y6, y7⟩ := hro
  obtain ⟨Q, hQd⟩ : ∃ Q : Nat → Prop, Q = fun k => B ≤ k ∧ v.ownBlock ≠ some k ∧ k ≠ j := ⟨_, rfl⟩
  have hj : j < w.heap.size := World.block_lt_of_cell? w _ cell
  have hQ : ∀ k, w.heap.size ≤ k → Q k := fun k hk => by rw [hQd]; exact ⟨Nat.le_trans h0 hk, fun e => by have := own_lt own e; omega, by omega⟩
  have KV := dnew_any F p S 0 (b : Int) 0 w hdk (by unfold In64; omega) (by unfold In64; omega) (by unfold In64; omega)
  simp only [y2, if_true] at KV
  obtain ⟨w2, hw2⟩ : ∃ w2, w2 = w.alloc (.cells (dvCells p (.slice none 0 0) (newV 0 (b : Int) 0)) 117) := ⟨_, rfl⟩
  have KV1 : Hid (Calls Tryz.prog 43 #[.pointer (some ⟨p, 0, none⟩), .int .i64 0, .int .i64 (b : Int), .int .i64 0] w fun e w' => e = .returned (.tuple #[.pointer (some ⟨w.heap.size, 0, none⟩), .int .i64 0]) ∧ w' = w2) := by rw [hw2]; exact KV
  have hb2 : Below w.heap.size w w2 := by rw [hw2]; exact (Below.refl _ w).alloc (Nat.le_refl _) _
  have hs2 : w2.heap.size = w.heap.size + 1 := by rw [hw2]; simp
  have hE : IsE w2 (fun k => F k ∨ k = w.heap.size) w.heap.size p S (newV 0 (b : Int) 0) := ⟨F, fun k => k = w.heap.size, hdk.below hb2, ⟨rfl, .slice none 0 0, by rw [hw2]; exact block_new w _, World.ownsRow_nil _ _ _ _, (fun j hj => by cases hj), Nat.zero_le _⟩, fun k hk => ⟨.inl hk, fun e => by have := (hF k hk).2.1; omega, by have := (hF k hk).2.1; omega⟩, fun k hk => ⟨.inr hk, by omega⟩⟩
  have KO := open_q (fun k => F k ∨ k = w.heap.size) Q w.heap.size p S (newV 0 (b : Int) 0) (A : Int) w2 (fun k hk => hQ k (by omega)) hE (fun k hk => by
    rcases hk with hk | hk
    · rw [hQd]; exact ⟨(hF k hk).1, (hF k hk).2.2⟩
    · exact hQ k (by omega)) (fun k hk => by
    rcases hk with hk | hk
    · have := (hF k hk).2.1; omega
    · omega) hdk.ok (newV_good hdk.ok y2) hcl.dead (by unfold In64; omega) (by show (0 : Nat) < _; omega) y3
  have KO1 : Hid (Calls Tryz.prog 45 #[.pointer (some ⟨w.heap.size, 0, none⟩), .int .i64 (A : Int)] w2 fun e w' => ∃ j2 n S V J, e = .returned (.tuple #[.pointer (some ⟨j2, 0, none⟩), .int .i64 0]) ∧ RJ w' B j2 w.heap.size p S V J v l ∧ l = celsL S V J ∧ Calm n S ∧ CelOk S V J ∧ J.next = nx ∧ V.mis ≤ 2 ∧ w'.cell? ⟨j, 3, none⟩ = some (.int .i64 nx) ∧ Below B w w') := by
    refine KO.mono fun e w' q => ?_
    obtain ⟨j2, q1, ⟨F', mb, i, hFQ⟩, c⟩ := q
    have own2 : w2.ownsRow B 9 1 v l.length (l.map strV) := own_keep own (fun b hb => hb2.block b (own_lt own hb))
    have cell2 := cell_below cell hb2
    have hcB : Below B w w' := (hb2.mono h0).trans (c.below (Nat.le_trans h0 hb2.size) (fun k hk => by rw [hQd] at hk; exact hk.1))
    have own3 : w'.ownsRow B 9 1 v l.length (l.map strV) := own_keep own2 (fun b hb => c.block b (own_lt own2 hb) (fun z => by rw [hQd] at z; exact z.2.1 hb))
    have cell3 : w'.cell? ⟨j, 3, none⟩ = some (.int .i64 nx) := by
      rw [← cell2]
      unfold World.cell?
      simp only [c.block j (by omega) (fun z => by rw [hQd] at z; exact z.2.2 rfl)]
    have hv := (vk_cnt S (newV 0 (b : Int) 0) 2).2.2.2
    refine ⟨j2, n, S, _, _, q1, ⟨Nat.le_trans h0 hcB.size, F', mb, i, fun k hk => ?_, ⟨own3, fun b hb z => ?_⟩⟩, y7.symm, hcl, y6, y4, hv, cell3, hcB⟩
    · have := hFQ k hk; rw [hQd] at this; exact this.1
    · have := hFQ b z; rw [hQd] at this; exact this.2.1 hb
  clear KV KO hE hw2 hQd hQ y2 y3 y4 y5 y6 y7 hdk hF own cell
  go_enter Tryz.func33, Tryz.ntmps33
  go_wp2_with (first
    | (go_at_call 43; (with_reducible refine KV1.out.mono ?_); rintro e w3 ⟨rfl, rfl⟩)
    | (go_at_call 45; (with_reducible refine KO1.out.mono ?_); rintro e w4 ⟨j2, n2, S2, V2, J2, rfl, hq⟩; have HQ4 := Lib.hid hq; clear hq))
  go_ret2
  exact ⟨j2, _, n2, S2, V2, J2, rfl, HQ4.out⟩
theorem next_cell (j : Nat) (nx : Int) (w : World) (h : w.cell? ⟨j, 3, none⟩ = some (.int .i64 nx)) : Calls Tryz.prog 23 #[.pointer (some ⟨j, 0, none⟩)] w fun e w' => e = .returned (.int .i64 nx) ∧ w = w' := by
  go_enter Tryz.func23, Tryz.ntmps23
  go_wp2
  go_ret
  exact ⟨rfl, rfl⟩
end Go.Proofs.YtjippoejaieneaaGreat
