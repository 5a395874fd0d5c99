/- Bytes written through a table, where they may be. Conditions: numbers that a machine holds. -/
import Derived.Test.YtedhefidfepclaaWra
import Derived.Test.YtedhefidfepclaaRnh
namespace Go.Proofs.Ytedhefidfepclaa
open Go.RowKit Go.Maps Go.Shelf
set_option linter.unusedVariables false
set_option linter.unusedSimpArgs false
attribute [local go_sem] Oper.semAt_some

theorem wpListIn_copy_run {F : Fence} {n : Nat} {ops : Array Oper} {rest : List Oper} {o : Oper} {a : Act} {w : World} {Q : Exit → Act → World → Prop} (hgd : o.guard = none) (s x : Operand) (t u : TypeId)
    (ho : o.op = .call { callee := .builtin .copy, args := #[s, x], argTypes := #[t, u] }) (vs vx v' : Value) (w' : World) (hs : a.eval s = vs) (hx : a.eval x = vx)
    (hr : (Builtin.copy_ #[t, u] o.type #[vs, vx]).run Try.prog w = .ok v' w') (hk : wpListIn F n Try.prog ops Q rest (a.put o.dst v') w') : wpListIn F n Try.prog ops Q (o :: rest) a w := by
  refine wpListIn_plain hgd fun K hK => ?_
  unfold Oper.wpIn
  refine ⟨?_, ?_⟩
  · simp [Oper.about, ho, resolve, Target.leads, Sem.run_pure]
  · rw [Oper.semAt_plain F _ _ (by rw [ho]; intro c hc'; cases hc')]
    simp [execOp, ho, resolve, invoke, builtin, hs, hx, hr, Result.andThen]
    exact hK _ _ hk
/-- the bytes of the frames and what is still to be written, pre having been laid -/
def put {Q : Pc → Prop} (B s : Bts) (pre : List {x : Pc // Q x}) : Bts × Bts := putL (pre.map (·.1)) (B, s)
theorem put_snoc {Q : Pc → Prop} (B s : Bts) (pre : List {x : Pc // Q x}) (x : {x : Pc // Q x}) : put B s (pre ++ [x]) = put1 x.1 (put B s pre) := by simp [put, putL_snoc]
theorem put_len {F : Nat} {B s : Bts} (hB : B.length = 256 * F) (pre : List {x : Pc // okPc F x}) : (put B s pre).1.length = 256 * F ∧ (put B s pre).2.length ≤ s.length := by
  suffices ∀ (xs : List {x : Pc // okPc F x}) (q : Bts × Bts), q.1.length = 256 * F → q.2.length ≤ s.length → (putL (xs.map (·.1)) q).1.length = 256 * F ∧ (putL (xs.map (·.1)) q).2.length ≤ s.length from this pre (B, s) hB (Nat.le_refl _)
  intro xs
  induction xs with
  | nil => intro q h1 h2; exact ⟨h1, h2⟩
  | cons x xs ih =>
    intro q h1 h2
    obtain ⟨x1, x2, x3, x4⟩ := x.2
    exact ih (put1 x.1 q) (by unfold put1; rw [lay_len (by rw [List.length_take]; omega)]; exact h1) (by unfold put1; simp; omega)
def WI (w : World) (B : Bts) (st : Bts) (p g cap F s n1 : Nat) (pre : List {x : Pc // okPc F x}) (W : World) : Prop :=
  Boxed W s 63 (.pointer (some ⟨p, 0, none⟩)) ∧ Boxed W (s + 1) 9 (.string (ofL (put B st pre).2)) ∧ IsM W p g cap F (put B st pre).1 ∧ n1 ≤ W.heap.size ∧ Ch (onB g) w W
theorem WI.own {w : World} {B st : Bts} {p g cap F s n1 : Nat} (hs : w.heap.size ≤ s) (hS : s + 1 < n1) (hp : p < n1) (hg : g < n1) : OwnFrom n1 (WI w B st p g cap F s n1) := by
  intro pre W W' row h hg' hr
  obtain ⟨h1, h2, h3, h4, h5⟩ := h
  have hne : ∀ k, k < n1 → some k ≠ row := fun k hk e => by have := (hr _ e.symm).1; omega
  exact ⟨h1.kept hg' (hne s (by omega)), h2.kept hg' (hne (s + 1) hS), h3.of_heap (hg'.block p h3.lt.1 (hne p hp)) (hg'.block g h3.lt.2 (hne g hg)), Nat.le_trans h4 hg'.size,
    h5.grown hg' (fun j e => .inr (by have := (hr j e).1; omega))⟩
theorem slice_arr2' (g b o q A E : Nat) (ho : o ≤ q) (hq : q ≤ 256) (hA : A = cutAt b o) (hE : E = q - o) (w : World) :
    (Instr.sliceAt 114 (.pointer (some ⟨g, b, none⟩)) (some (.int .i64 (o : Int))) (some (.int .i64 (q : Int))) none).run Try.prog w = .ok (.slice (some ⟨g, A, none⟩) E (256 - o)) w := by
  rw [hA, hE]; exact slice_arr2 g b o q ho hq w
theorem ofL_extract (a : Bts) (x y : Nat) : (ofL a).extract x y = ofL ((a.drop x).take (y - x)) := by
  apply ByteArray.ext
  rw [ByteArray.data_extract]
  apply Array.toList_inj.1
  simp [ofL]
theorem lay_nil (l : Bts) (o : Nat) : lay l o [] = l := by simp [lay]
set_option maxRecDepth 100000 in
set_option maxHeartbeats 4000000 in
theorem write_ok (p g cap F : Nat) (B : Bts) (w : World) (h : IsM w p g cap F B) (G : Nat → Prop) (hGg : ¬ G g) (v : Value) (ps : List Pg) (ht : TabV G w v ps) (a : Int) (st : ByteArray) (ha : In64 a) (h0 : writeE F ps a st.size = 0) :
    Calls Try.prog 42 #[.pointer (some ⟨p, 0, none⟩), v, .int .i64 a, .string st] w fun e w' => e = .returned (.int .i64 0) ∧ IsM w' p g cap F (wr ps a st.data.toList B) ∧ Ch (onB g) w w' := by
  obtain ⟨q, np, cap0, rfl⟩ : ∃ q n cap, v = .slice q n cap := by obtain ⟨q, cap, e, _⟩ := ht; exact ⟨_, _, _, e⟩
  have c0 : chk F ps = 0 := by unfold writeE at h0; split at h0; assumption; contradiction
  unfold writeE at h0
  rw [if_pos c0] at h0
  have s0 : st.size ≤ 4096 := by split at h0; assumption; cases h0
  rw [if_pos s0] at h0
  have hps := (chk_mem c0).1
  have hrr := chk_rights c0
  obtain ⟨w1, hw1⟩ : ∃ w1, w1 = (w.alloc (.cells #[.pointer (some ⟨p, 0, none⟩)] 63)).alloc (.cells #[.string st] 9) := ⟨_, rfl⟩
  have hb1 : Below w.heap.size w w1 := by rw [hw1]; exact ((Below.refl _ w).alloc (Nat.le_refl _) _).alloc (by simp) _
  have bM : Boxed w1 w.heap.size 63 (.pointer (some ⟨p, 0, none⟩)) := by rw [hw1]; exact (Boxed.new _ _ _).alloc _
  have bS : Boxed w1 (w.heap.size + 1) 9 (.string st) := by have := Boxed.new (w.alloc (.cells #[.pointer (some ⟨p, 0, none⟩)] 63)) 9 (.string st); rw [World.size_alloc] at this; rw [hw1]; exact this
  have hs1 : w1.heap.size = w.heap.size + 2 := by rw [hw1]; simp
  have kc := check_any p g cap F B w1 (h.below hb1) G (.slice q np cap0) ps (ht.below hb1)
  rw [c0] at kc
  have cM := bM.cell
  have HS : Hid (∀ W, Below w1.heap.size w1 W → W.cell? ⟨w.heap.size + 1, 0, none⟩ = some (.string st)) := fun W hW => cell_below bS.cell hW
  have HT : Hid (∀ W, Below w1.heap.size w1 W → Calls Try.prog 62 #[.slice q np cap0, .int .i64 a, .int .i64 (st.size : Int), .int .i64 2] W fun e w' => e = .returned (.int .i64 0) ∧ Below W.heap.size W w') :=
    fun W hW => by have := there_any q np cap0 G ps W (ht.below (hb1.trans (hW.mono hb1.size))) hps hrr a ha st.size s0 2 (by omega); rw [h0] at this; exact this
  have H := Lib.hid (And.intro h (And.intro ht (And.intro hb1 (And.intro bM (And.intro bS (And.intro hps (And.intro hs1 (And.intro c0 h0))))))))
  have cS1 : w1.cell? ⟨w.heap.size + 1, 0, none⟩ = some (.string st) := HS.out w1 (Below.refl _ _)
  clear h ht hb1 bM bS c0 h0 hps hrr hs1
  have HW1 := Lib.hid hw1
  have HS2 := HS
  rw [hw1] at kc cM HT cS1 HS2
  clear hw1
  refine (callsIn_wide (n := 9)).1 ?_
  refine callsIn_of_wp_marks Try.func42 rfl trivial ?_ rfl
  simp only [Try.ntmps42, List.size_toArray, List.length_cons, List.length_nil, Nat.reduceAdd, Nat.reduceSub, Array.replicate_succ, Array.replicate_zero, List.push_toArray, List.append_toArray, List.nil_append, List.cons_append]
  gi_wp2_with (first
    | (refine ⟨trivial, ?_⟩; gi_at_call 61; refine (callsIn_wide.2 kc).mono ?_; rintro e w' ⟨rfl, hb⟩; have HB := Lib.hid hb; have cS := HS2.out _ hb; clear kc hb)
    | (refine ⟨trivial, ?_⟩; gi_at_call 62; refine (callsIn_wide.2 (HT.out _ HB.out)).mono ?_; rintro e w'' ⟨rfl, hb'⟩; have HB' := Lib.hid hb'; have cS2 := cell_below cS hb'; clear hb')
    | (refine ⟨trivial, ?_⟩; gi_at_call 63; refine (pieces_any _ _ _ _ _ _ _).mono ?_; rintro e w' ⟨rfl, rfl⟩))
  obtain ⟨h, ht, hb1, bM, bS, hps, hs1, c0, h0⟩ := H.out
  have b1 := HB.out
  rw [← HW1.out] at b1
  have hbw : Below w.heap.size w w'' := by
    have b2 := hb1.trans (b1.mono hb1.size)
    exact b2.trans (HB'.out.mono b2.size)
  have hB1 : Below w1.heap.size w1 w'' := b1.trans (HB'.out.mono b1.size)
  have bM3 : Boxed w'' w.heap.size 63 (.pointer (some ⟨p, 0, none⟩)) := (hB1.block w.heap.size (by omega)).trans bM
  have bS3 : Boxed w'' (w.heap.size + 1) 9 (.string st) := (hB1.block (w.heap.size + 1) (by omega)).trans bS
  have hsw : w.heap.size + 2 ≤ w''.heap.size := by have := hB1.size; omega
  obtain ⟨S3, hS3e⟩ : ∃ S3, S3 = w''.heap.size := ⟨_, rfl⟩
  obtain ⟨s, hs⟩ : ∃ s, s = w.heap.size := ⟨_, rfl⟩
  obtain ⟨W0, hW0⟩ : ∃ W0, W0 = ((w''.alloc (.cells #[.slice q np cap0] 50)).alloc (.cells #[.int .i64 a] 3)).alloc (.cells #[.int .i64 (st.size : Int)] 3) := ⟨_, rfl⟩
  rw [← hW0, ← hS3e, ← hs]
  have h3 := three_new w'' (.slice q np cap0) a st.size
  rw [← hW0, ← hS3e] at h3
  have hsz : W0.heap.size = S3 + 3 := by rw [hW0, hS3e]; simp
  have hb4 : Below w.heap.size w W0 := by
    rw [hW0]
    refine ((hbw.alloc hbw.size _).alloc ?_ _).alloc ?_ _ <;> (simp; have := hbw.size; omega)
  have bM0 : Boxed W0 s 63 (.pointer (some ⟨p, 0, none⟩)) := by rw [hW0, hs]; exact ((bM3.alloc _).alloc _).alloc _
  have bS0 : Boxed W0 (s + 1) 9 (.string (ofL st.data.toList)) := by rw [hW0, hs, ofL_of]; exact ((bS3.alloc _).alloc _).alloc _
  have hT0 : TabV (fun k => G k ∧ k < s) W0 (.slice q np cap0) ps := by
    rw [hs]
    exact (ht.lt (Nat.le_refl _)).below hb4
  have hlt := h.lt
  have hlen := h.len
  have HF := Lib.hid (And.intro hs (And.intro hS3e (And.intro h (And.intro c0 (And.intro h0 (And.intro hb4 hlen))))))
  have hstl : st.data.toList.length = st.size := baList st
  refine range_boxed (bs := 11) (n1 := S3 + 3) (b := S3) (s := s) G a st.size ha s0 (.slice q np cap0) ps hps (okPc F) (cur_ok c0 h0) rfl h3 hT0 (by omega) (by omega) hsz
    (WI w B st.data.toList p g cap F s (S3 + 3)) (fun _ _ _ => False) (WI.own (by omega) (by omega) (by omega) (by omega)) (fun c _ _ _ _ h _ _ => h)
    ⟨bM0, bS0, h.below hb4, by omega, Ch.of_below hb4⟩ (fun pre W h => h.2.2.2.1) ?assign ?alloc ?body ?done (fun _ _ _ _ _ _ h _ => h.elim)
  case assign =>
    intro l pre x W K hi hK
    have HI := Lib.hid hi
    have HK := Lib.hid hK
    clear hi hK hs hS3e hW0 hsz hsw hs1
    dsimp only [encP]
    gi_wp2
    have hk := HK.out
    simp only [rtmps, pcells, List.setIfInBounds_toArray, List.set_cons_succ, List.set_cons_zero] at hk
    exact hk
  case alloc =>
    rintro pre W o ⟨h1, h2, h3, h4, h5⟩
    exact ⟨h1.alloc _, h2.alloc _, h3.below ((Below.refl _ W).alloc (Nat.le_refl _) _), by simp; omega, h5.then_below ((Below.refl _ W).alloc (Nat.le_refl _) _)⟩
  case body =>
    rintro l pre x Bx W hl ⟨r, hr⟩ ⟨h1, h2, h3, h4, h5⟩ hBx bX hlt2
    obtain ⟨x1, x2, x3, x4⟩ := x.2
    obtain ⟨i, hi⟩ : ∃ i : Nat, x.1.f = (i : Int) := ⟨x.1.f.toNat, by omega⟩
    have hpl := put_len (s := st.data.toList) hlen pre
    obtain ⟨B1, hB1e⟩ : ∃ B1, B1 = (put B st.data.toList pre).1 := ⟨_, rfl⟩
    obtain ⟨s1, hs1e⟩ : ∃ s1, s1 = (put B st.data.toList pre).2 := ⟨_, rfl⟩
    rw [← hs1e] at h2 hpl
    rw [← hB1e] at h3 hpl
    have cS3 : W.drew.cell? ⟨s + 1, 0, none⟩ = some (.string (ofL s1)) := h2.cell
    clear cM
    have cM : W.drew.cell? ⟨s, 0, none⟩ = some (.pointer (some ⟨p, 0, none⟩)) := h1.cell
    have cF : W.drew.cell? ⟨p, 0, none⟩ = some (.slice (some ⟨g, 0, none⟩) F cap) := h3.cell
    have y0 : W.drew.cell? ⟨Bx, 0, none⟩ = some (.int .i64 (i : Int)) := by rw [← hi]; show W.cell? _ = _; rw [cell_of_row _ _ _ _ _ _ bX]; rfl
    have y2 : W.drew.cell? ⟨Bx, 1 + 1, none⟩ = some (.int .i64 (x.1.a : Int)) := by show W.cell? _ = _; rw [cell_of_row _ _ _ _ _ _ bX]; rfl
    have y3 : W.drew.cell? ⟨Bx, 3, none⟩ = some (.int .i64 (x.1.b : Int)) := by show W.cell? _ = _; rw [cell_of_row _ _ _ _ _ _ bX]; rfl
    have hsl := slice_arr2 g (i * 256) x.1.a x.1.b x3 x4 W.drew
    have hiF : i < F := by omega
    obtain ⟨A, hA⟩ : ∃ A, A = cutAt (i * 256) x.1.a := ⟨_, rfl⟩
    obtain ⟨E, hE⟩ : ∃ E, E = x.1.b - x.1.a := ⟨_, rfl⟩
    obtain ⟨C, hC⟩ : ∃ C, C = min (ofL s1).size E := ⟨_, rfl⟩
    have hAl : A + C ≤ B1.length := by
      rw [hpl.1, hA, hC, hE]
      unfold cutAt
      split <;> omega
    obtain ⟨cs, hcp, hrow⟩ := RowB.copy (w := W.drew) (show RowB 114 W.drew g (cap * 256) B1 from h3.row) A E (256 - x.1.a) (ofL s1) 3 (by rw [← hC]; exact hAl)
    rw [← hC] at hcp
    rw [ofL_list] at hrow
    have eput : put B st.data.toList (pre ++ [x]) = (lay B1 A (s1.take E), s1.drop E) := by
      rw [put_snoc]
      unfold put1
      rw [← hB1e, ← hs1e, ← hE, hi, Int.toNat_natCast]
      congr 1
      by_cases z : x.1.a = 256
      · have : E = 0 := by omega
        rw [this, List.take_zero, lay_nil, lay_nil]
      · rw [hA]; unfold cutAt; rw [if_neg z, Nat.mul_comm]
    have edrop : (ofL s1).extract C (ofL s1).size = ofL (s1.drop E) := by
      rw [ofL_extract, ofL_size, List.take_of_length_le (by simp), hC, ofL_size]
      rcases Nat.le_total s1.length E with z | z
      · rw [Nat.min_eq_left z, List.drop_of_length_le (Nat.le_refl _), List.drop_of_length_le z]
      · rw [Nat.min_eq_right z]
    have hClt : C ≤ (ofL s1).size := by omega
    have e1 : (W.drew.setRow g cs).cell? ⟨s + 1, 0, none⟩ = some (.string (ofL s1)) := by
      simp only [World.cell?, setRow_other _ _ _ _ (show s + 1 ≠ g by omega)]; exact cS3
    have f1 : (W.drew.setRow g cs).frozen? ⟨s + 1, 0, none⟩ = false := by
      simp only [World.frozen?, setRow_other _ _ _ _ (show s + 1 ≠ g by omega)]; exact h2.frozen
    have hBxg : Bx ≠ g := by omega
    have hpg : p ≠ g := h3.ne
    have hsg : s ≠ g := by omega
    have hS1 : (W.drew.setRow g cs).cell? ⟨s, 0, none⟩ = some (.pointer (some ⟨p, 0, none⟩)) ∧ (W.drew.setRow g cs).cell? ⟨p, 0, none⟩ = some (.slice (some ⟨g, 0, none⟩) F cap) ∧ (W.drew.setRow g cs).cell? ⟨Bx, 0, none⟩ = some (.int .i64 (i : Int)) ∧ (W.drew.setRow g cs).cell? ⟨Bx, 1 + 1, none⟩ = some (.int .i64 (x.1.a : Int)) ∧ (W.drew.setRow g cs).cell? ⟨Bx, 3, none⟩ = some (.int .i64 (x.1.b : Int)) ∧ (W.drew.setRow g cs).cell? ⟨s + 1, 0, none⟩ = some (.string (ofL s1)) := by
      refine ⟨?_, ?_, ?_, ?_, ?_, e1⟩
      · simp only [World.cell?, setRow_other _ _ _ _ hsg]; exact cM
      · simp only [World.cell?, setRow_other _ _ _ _ hpg]; exact cF
      · simp only [World.cell?, setRow_other _ _ _ _ hBxg]; exact y0
      · simp only [World.cell?, setRow_other _ _ _ _ hBxg]; exact y2
      · simp only [World.cell?, setRow_other _ _ _ _ hBxg]; exact y3
    have HA := Lib.hid (And.intro hA hE)
    have HW := Lib.hid (And.intro h1 (And.intro h2 (And.intro h3 (And.intro h4 (And.intro h5 (And.intro hBx bX))))))
    have HO2 := Lib.hid (And.intro hrow (And.intro hpl (And.intro eput hAl)))
    rw [← hA, ← hE] at hsl
    have hgs : g ≠ s + 1 := by omega
    have hsS : s + 1 < S3 := by omega
    clear hs hS3e hW0 hsz hsw hs1
    clear h1 h2 h3 h4 h5 hBx bX hpl hE hA hC x1 x2 hrow eput hAl hB1e hs1e
    simp only [rtmps, pcells, List.setIfInBounds_toArray, List.set_cons_succ, List.set_cons_zero]
    gi_wp2
    have hS0 : (fun w' : World => w'.cell? ⟨s, 0, none⟩ = some (.pointer (some ⟨p, 0, none⟩)) ∧ w'.cell? ⟨p, 0, none⟩ = some (.slice (some ⟨g, 0, none⟩) F cap) ∧ w'.cell? ⟨Bx, 0, none⟩ = some (.int .i64 (i : Int)) ∧ w'.cell? ⟨Bx, 1 + 1, none⟩ = some (.int .i64 (x.1.a : Int)) ∧ w'.cell? ⟨Bx, 3, none⟩ = some (.int .i64 (x.1.b : Int)) ∧ w'.cell? ⟨s + 1, 0, none⟩ = some (.string (ofL s1))) W.drew := ⟨cM, cF, y0, y2, y3, cS3⟩
    refine wpIn_round_last (fun w' : World => w'.cell? ⟨s, 0, none⟩ = some (.pointer (some ⟨p, 0, none⟩)) ∧ w'.cell? ⟨p, 0, none⟩ = some (.slice (some ⟨g, 0, none⟩) F cap) ∧ w'.cell? ⟨Bx, 0, none⟩ = some (.int .i64 (i : Int)) ∧ w'.cell? ⟨Bx, 1 + 1, none⟩ = some (.int .i64 (x.1.a : Int)) ∧ w'.cell? ⟨Bx, 3, none⟩ = some (.int .i64 (x.1.b : Int)) ∧ w'.cell? ⟨s + 1, 0, none⟩ = some (.string (ofL s1))) 17 (by kernel_rfl) (by kernel_rfl) rfl rfl ?_
    refine tillLast_take (i := 0) (v := .string (ofL s1)) rfl (by kernel_rfl) (by kernel_rfl) (by kernel_rfl) (by kernel_rfl) (.inl ⟨by rfl, ?_⟩) hS0 ?_
    · rintro w' ⟨q1, q2, q3, q4, q5, q6⟩
      skip
      go_simp
    simp only [Act.put, List.setIfInBounds_toArray, List.set_cons_zero, List.set_cons_succ]
    refine tillLast_take (i := 1) (v := .pointer (some ⟨p, 0, none⟩)) rfl (by kernel_rfl) (by kernel_rfl) (by kernel_rfl) (by kernel_rfl) (.inl ⟨by rfl, ?_⟩) hS0 ?_
    · rintro w' ⟨q1, q2, q3, q4, q5, q6⟩
      skip
      go_simp
    simp only [Act.put, List.setIfInBounds_toArray, List.set_cons_zero, List.set_cons_succ]
    refine tillLast_take (i := 2) (v := .pointer (some ⟨p, 0, none⟩)) rfl (by kernel_rfl) (by kernel_rfl) (by kernel_rfl) (by kernel_rfl) (.inl ⟨by rfl, ?_⟩) hS0 ?_
    · rintro w' ⟨q1, q2, q3, q4, q5, q6⟩
      skip
      go_simp
    simp only [Act.put, List.setIfInBounds_toArray, List.set_cons_zero, List.set_cons_succ]
    refine tillLast_take (i := 3) (v := .pointer (some ⟨p, 0, none⟩)) rfl (by kernel_rfl) (by kernel_rfl) (by kernel_rfl) (by kernel_rfl) (.inl ⟨by rfl, ?_⟩) hS0 ?_
    · rintro w' ⟨q1, q2, q3, q4, q5, q6⟩
      skip
      go_simp
    simp only [Act.put, List.setIfInBounds_toArray, List.set_cons_zero, List.set_cons_succ]
    refine tillLast_take (i := 4) (v := .slice (some ⟨g, 0, none⟩) F cap) rfl (by kernel_rfl) (by kernel_rfl) (by kernel_rfl) (by kernel_rfl) (.inl ⟨by rfl, ?_⟩) hS0 ?_
    · rintro w' ⟨q1, q2, q3, q4, q5, q6⟩
      skip
      go_simp
    simp only [Act.put, List.setIfInBounds_toArray, List.set_cons_zero, List.set_cons_succ]
    refine tillLast_take (i := 5) (v := .pointer (some ⟨Bx, 0, none⟩)) rfl (by kernel_rfl) (by kernel_rfl) (by kernel_rfl) (by kernel_rfl) (.inl ⟨by rfl, ?_⟩) hS0 ?_
    · rintro w' ⟨q1, q2, q3, q4, q5, q6⟩
      skip
      go_simp
    simp only [Act.put, List.setIfInBounds_toArray, List.set_cons_zero, List.set_cons_succ]
    refine tillLast_take (i := 6) (v := .pointer (some ⟨Bx, 0, none⟩)) rfl (by kernel_rfl) (by kernel_rfl) (by kernel_rfl) (by kernel_rfl) (.inl ⟨by rfl, ?_⟩) hS0 ?_
    · rintro w' ⟨q1, q2, q3, q4, q5, q6⟩
      skip
      go_simp
    simp only [Act.put, List.setIfInBounds_toArray, List.set_cons_zero, List.set_cons_succ]
    refine tillLast_take (i := 7) (v := .int .i64 (i : Int)) rfl (by kernel_rfl) (by kernel_rfl) (by kernel_rfl) (by kernel_rfl) (.inl ⟨by rfl, ?_⟩) hS0 ?_
    · rintro w' ⟨q1, q2, q3, q4, q5, q6⟩
      skip
      go_simp
    simp only [Act.put, List.setIfInBounds_toArray, List.set_cons_zero, List.set_cons_succ]
    refine tillLast_take (i := 8) (v := .pointer (some ⟨g, i * 256, none⟩)) rfl (by kernel_rfl) (by kernel_rfl) (by kernel_rfl) (by kernel_rfl) (.inl ⟨by rfl, ?_⟩) hS0 ?_
    · rintro w' ⟨q1, q2, q3, q4, q5, q6⟩
      skip
      go_simp
    simp only [Act.put, List.setIfInBounds_toArray, List.set_cons_zero, List.set_cons_succ]
    refine tillLast_take (i := 9) (v := .pointer (some ⟨Bx, 2, none⟩)) rfl (by kernel_rfl) (by kernel_rfl) (by kernel_rfl) (by kernel_rfl) (.inl ⟨by rfl, ?_⟩) hS0 ?_
    · rintro w' ⟨q1, q2, q3, q4, q5, q6⟩
      skip
      go_simp
    simp only [Act.put, List.setIfInBounds_toArray, List.set_cons_zero, List.set_cons_succ]
    refine tillLast_take (i := 10) (v := .int .i64 (x.1.a : Int)) rfl (by kernel_rfl) (by kernel_rfl) (by kernel_rfl) (by kernel_rfl) (.inl ⟨by rfl, ?_⟩) hS0 ?_
    · rintro w' ⟨q1, q2, q3, q4, q5, q6⟩
      skip
      go_simp
    simp only [Act.put, List.setIfInBounds_toArray, List.set_cons_zero, List.set_cons_succ]
    refine tillLast_take (i := 11) (v := .pointer (some ⟨Bx, 3, none⟩)) rfl (by kernel_rfl) (by kernel_rfl) (by kernel_rfl) (by kernel_rfl) (.inl ⟨by rfl, ?_⟩) hS0 ?_
    · rintro w' ⟨q1, q2, q3, q4, q5, q6⟩
      skip
      go_simp
    simp only [Act.put, List.setIfInBounds_toArray, List.set_cons_zero, List.set_cons_succ]
    refine tillLast_take (i := 12) (v := .int .i64 (x.1.b : Int)) rfl (by kernel_rfl) (by kernel_rfl) (by kernel_rfl) (by kernel_rfl) (.inl ⟨by rfl, ?_⟩) hS0 ?_
    · rintro w' ⟨q1, q2, q3, q4, q5, q6⟩
      skip
      go_simp
    simp only [Act.put, List.setIfInBounds_toArray, List.set_cons_zero, List.set_cons_succ]
    refine tillLast_take (i := 13) (v := .slice (some ⟨g, A, none⟩) E (256 - x.1.a)) rfl (by kernel_rfl) (by kernel_rfl) (by kernel_rfl) (by kernel_rfl) (.inl ⟨by rfl, ?_⟩) hS0 ?_
    · rintro w' ⟨q1, q2, q3, q4, q5, q6⟩
      have hsl := slice_arr2' g (i * 256) x.1.a x.1.b A E x3 x4 HA.out.1 HA.out.2 w'
      go_simp
    simp only [Act.put, List.setIfInBounds_toArray, List.set_cons_zero, List.set_cons_succ]
    refine tillLast_take (i := 14) (v := .string (ofL s1)) rfl (by kernel_rfl) (by kernel_rfl) (by kernel_rfl) (by kernel_rfl) (.inl ⟨by rfl, ?_⟩) hS0 ?_
    · rintro w' ⟨q1, q2, q3, q4, q5, q6⟩
      skip
      go_simp
    simp only [Act.put, List.setIfInBounds_toArray, List.set_cons_zero, List.set_cons_succ]
    refine tillLast_one (i := 15) (v := goInt (C : Nat)) (w' := W.drew.setRow g cs) rfl (by kernel_rfl) (by rfl) ?_ ?_ ?_
    · go_simp
    · exact hS1
    simp only [Act.put, List.setIfInBounds_toArray, List.set_cons_zero, List.set_cons_succ]
    refine tillLast_one (i := 16) (v := .string (ofL (s1.drop E))) (w' := W.drew.setRow g cs) rfl (by kernel_rfl) (by rfl) ?_ ?_ ?_
    · go_simp
    · exact hS1
    simp only [Act.put, List.setIfInBounds_toArray, List.set_cons_zero, List.set_cons_succ]
    refine ⟨by kernel_rfl, by kernel_rfl, by rfl, (W.drew.setRow g cs).setCell ⟨s + 1, 0, none⟩ (.string (ofL (s1.drop E))), ?_, ?_⟩
    · go_simp
    gi_wp2
    obtain ⟨h1, h2, h3, h4, h5, hBx, bX⟩ := HW.out
    obtain ⟨hrow, hpl, eput, hAl⟩ := HO2.out
    obtain ⟨hs, hS3e, _, _, _, _, _⟩ := HF.out
    have hgr : W.drew.grownBy (W.drew.setRow g cs) (some g) := ⟨rfl, rfl, rfl, by rw [setRow_size]; exact Nat.le_refl _, fun k hk hne => setRow_other _ _ _ _ (fun e => hne (by rw [e]))⟩
    have hs1n : s + 1 ≠ g := by omega
    have hk0 : ∀ k, k ≠ g → k ≠ s + 1 → ((W.drew.setRow g cs).setCell ⟨s + 1, 0, none⟩ (.string (ofL (s1.drop E)))).heap[k]? = W.heap[k]? := by
      intro k q1 q2
      rw [block_setCell_other q2, setRow_other _ _ _ _ q1]; rfl
    refine ⟨(((KeepsOthers.drew W).from _).trans (KeepsFrom.of_grownBy hgr (fun j e => by cases e; omega))).trans ((KeepsOthers.setCell _ _ _).from _), ⟨by rw [setCell_size, setRow_size]; exact Nat.le_refl _, fun k hk hK => ?_⟩, ?_, ?_, ?_, ?_, ?_⟩
    · unfold KK at hK
      refine hk0 k ?_ ?_
      · rcases hK with ⟨q, _⟩ | q
        · intro e; subst e; exact hGg q
        · omega
      · omega
    · exact (hk0 s (by omega) (by omega)).trans h1
    · rw [eput]
      have b2 : Boxed (W.drew.setRow g cs) (s + 1) 9 (.string (ofL s1)) := (setRow_other _ _ _ _ hs1n).trans h2
      exact b2.set _
    · rw [eput]
      have i1 : IsM (W.drew.setRow g cs) p g cap F (lay B1 A (s1.take E)) := by
        have hd : IsM W.drew p g cap F B1 := h3.of_heap rfl rfl
        refine hd.setRow hrow ?_
        rw [lay_len, hpl.1]
        rw [List.length_take]
        rw [HA.out.1, HA.out.2]
        unfold cutAt
        split <;> omega
      refine i1.of_heap (block_setCell_other (show p ≠ s + 1 by omega)) (block_setCell_other (show g ≠ s + 1 by omega))
    · rw [setCell_size, setRow_size]; exact h4
    · have c1 : Ch (onB g) w W.drew := ⟨h5.os, h5.tape, h5.output, h5.size, h5.block⟩
      have c2 := c1.setRow (p := g) rfl cs
      refine c2.grown (grownBy_setCell' _ (s + 1) _) (fun j e => .inr ?_)
      cases e
      omega
  case done =>
    rintro D ys W hD hall ⟨h1, h2, h3, h4, h5⟩ hK
    have hw : (put B st.data.toList ys).1 = wr ps a st.data.toList B := by
      rw [← hstl] at hall
      exact hall.write hlen c0 (by rw [hstl]; exact h0)
    have HD := Lib.hid (And.intro h3 (And.intro h5 (And.intro hD (And.intro hw (And.intro hsz h4)))))
    clear h1 h2 h3 h4 h5 hD hall hw
    clear hs hS3e hW0 hsz hsw hs1
    gi_wp2
    refine ⟨by simp, .inl ⟨_, _, rfl, run_takeDeferred hK, ?_⟩⟩
    obtain ⟨h3, h5, hD, hw, hsz, h4⟩ := HD.out
    have hDp : p ≠ D := by intro e; subst e; rw [h3.blk] at hK; cases hK
    have hDg : g ≠ D := by
      intro e; subst e
      obtain ⟨cur, fr, hr, _⟩ := h3.row
      rw [hr] at hK; cases hK
    have hgr := grownBy_putObj' W D (.deferred none)
    refine ⟨_, results_tmp rfl _ _ _, rfl, ?_, ?_⟩
    · rw [← hw]
      exact h3.of_heap (hgr.block p h3.lt.1 (fun e => hDp (Option.some.inj e))) (hgr.block g h3.lt.2 (fun e => hDg (Option.some.inj e)))
    · refine h5.grown hgr (fun j e => .inr ?_)
      cases e
      have := HF.out.1
      have := HF.out.2.1
      have := hbw.size
      omega
end Go.Proofs.Ytedhefidfepclaa
