/- An extent over its disk: what is known of both in memory; its calls that only read the disk. No conditions. -/
import Derived.Test.YtjippoejaieneaaGreatKep
import Derived.StillTailTactics
namespace Go.Proofs.YtjippoejaieneaaGreat
open Go.RowKit Go.Maps Go.Lib
set_option maxRecDepth 20000
set_option linter.unusedVariables false

/-- over a disk S at p lies an extent V at x, their blocks in F -/
def IsE (w : World) (F : Nat → Prop) (x p : Nat) (S : St) (V : Dv) : Prop :=
  ∃ Fd Fv : Nat → Prop, IsD w Fd p S ∧ IsV w Fv x p V ∧ (∀ k, Fd k → F k ∧ ¬ Fv k ∧ k < w.heap.size) ∧ ∀ k, Fv k → F k ∧ k < w.heap.size
def EE (F : Nat → Prop) (w w' : World) (x p : Nat) (S : St) (V : Dv) : Prop := ∃ F', IsE w' F' x p S V ∧ Gr F F' w w' ∧ Ch F w w'
theorem IsE.below {w w' : World} {F : Nat → Prop} {x p : Nat} {S : St} {V : Dv} (h : IsE w F x p S V) (hb : Below w.heap.size w w') : IsE w' F x p S V := by
  obtain ⟨Fd, Fv, hd, hv, h1, h2⟩ := h
  exact ⟨Fd, Fv, hd.below hb, hv.below hb, fun k hk => ⟨(h1 k hk).1, (h1 k hk).2.1, Nat.lt_of_lt_of_le (h1 k hk).2.2 hb.size⟩, fun k hk => ⟨(h2 k hk).1, Nat.lt_of_lt_of_le (h2 k hk).2 hb.size⟩⟩
theorem IsE.of_heap {w w' : World} {F : Nat → Prop} {x p : Nat} {S : St} {V : Dv} (h : IsE w F x p S V) (hs : w.heap.size ≤ w'.heap.size) (e : ∀ k, k < w.heap.size → F k → w'.heap[k]? = w.heap[k]?) : IsE w' F x p S V := by
  obtain ⟨Fd, Fv, hd, hv, h1, h2⟩ := h
  exact ⟨Fd, Fv, hd.of_heap hs (fun k hk hF => e k hk (h1 k hF).1), hv.of_heap (fun k hk hF => e k hk (h2 k hF).1), fun k hk => ⟨(h1 k hk).1, (h1 k hk).2.1, Nat.lt_of_lt_of_le (h1 k hk).2.2 hs⟩, fun k hk => ⟨(h2 k hk).1, Nat.lt_of_lt_of_le (h2 k hk).2 hs⟩⟩
theorem EE.of_below {w w' : World} {F : Nat → Prop} {x p : Nat} {S : St} {V : Dv} (h : IsE w F x p S V) (hb : Below w.heap.size w w') : EE F w w' x p S V := ⟨F, h.below hb, Gr.refl _ _ _, Ch.of_below hb⟩
theorem EE.trans {F F1 : Nat → Prop} {w w1 w2 : World} {x p : Nat} {S : St} {V : Dv} (g : Gr F F1 w w1) (c : Ch F w w1) (h : EE F1 w1 w2 x p S V) : EE F w w2 x p S V := by
  obtain ⟨F2, i, g2, c2⟩ := h
  exact ⟨F2, i, g.trans g2 c.size c2.size, c.trans g c2⟩
/-- the disk's part has turned -/
theorem EE.disk {w w' : World} {F Fd Fv : Nat → Prop} {x p : Nat} {S S' : St} {V : Dv} (hv : IsV w Fv x p V) (h1 : ∀ k, Fd k → F k ∧ ¬ Fv k ∧ k < w.heap.size) (h2 : ∀ k, Fv k → F k ∧ k < w.heap.size) (h : To Fd w w' p S') : EE F w w' x p S' V := by
  obtain ⟨F', i, g, c⟩ := h
  refine ⟨fun k => F' k ∨ Fv k, ⟨F', Fv, i, hv.of_heap (fun k hk hF => c.block k hk (fun q => (h1 k q).2.1 hF)), fun k hk => ⟨.inl hk, fun q => ?_, ?_⟩, fun k hk => ⟨.inr hk, Nat.lt_of_lt_of_le (h2 k hk).2 c.size⟩⟩, ?_, ⟨c.os, c.tape, c.output, c.size, fun k hk hn => c.block k hk (fun q => hn (h1 k q).1)⟩⟩
  · rcases g k hk with z | z
    · exact (h1 k z).2.1 q
    · have := (h2 k q).2; omega
  · rcases g k hk with z | z
    · exact Nat.lt_of_lt_of_le (h1 k z).2.2 c.size
    · exact z.2
  · intro k hk
    rcases hk with hk | hk
    · rcases g k hk with z | z
      · exact .inl (h1 k z).1
      · exact .inr z
    · exact .inl (h2 k hk).1
/-- the extent's part has turned -/
theorem EE.dev {w w' : World} {F Fd Fv : Nat → Prop} {x p : Nat} {S : St} {V' : Dv} (hd : IsD w Fd p S) (h1 : ∀ k, Fd k → F k ∧ ¬ Fv k ∧ k < w.heap.size) (h2 : ∀ k, Fv k → F k ∧ k < w.heap.size) (h : ToV Fv w w' x p V') : EE F w w' x p S V' := by
  obtain ⟨F', i, g, c⟩ := h
  refine ⟨fun k => Fd k ∨ F' k, ⟨Fd, F', hd.of_heap c.size (fun k hk hF => c.block k hk (h1 k hF).2.1), i, fun k hk => ⟨.inl hk, fun q => ?_, Nat.lt_of_lt_of_le (h1 k hk).2.2 c.size⟩, fun k hk => ⟨.inr hk, ?_⟩⟩, ?_, ⟨c.os, c.tape, c.output, c.size, fun k hk hn => c.block k hk (fun q => hn (h2 k q).1)⟩⟩
  · rcases g k q with z | z
    · exact (h1 k hk).2.1 z
    · have := (h1 k hk).2.2; omega
  · rcases g k hk with z | z
    · exact Nat.lt_of_lt_of_le (h2 k z).2 c.size
    · exact z.2
  · intro k hk
    rcases hk with hk | hk
    · exact .inl (h1 k hk).1
    · rcases g k hk with z | z
      · exact .inl (h2 k z).1
      · exact .inr z
/-- why a call is refused -/
def refE (S : St) (V : Dv) (i : Int) : Int := if S.dead then 2 else if i < 0 ∨ (V.cnt : Int) ≤ i then 151 else 0
/-- the extent lies on the disk -/
def Fit (S : St) (V : Dv) : Prop := V.first + V.cnt ≤ S.count ∧ S.count ≤ 4096
/-- the sector of a block -/
def sct (S : St) (V : Dv) (i : Int) : Bts := S.one full (V.first + i.toNat)
theorem count_any' (F : Nat → Prop) (x p : Nat) (V : Dv) (w : World) (h : IsV w F x p V) :
    Calls Tryz.prog 63 #[.pointer (some ⟨x, 0, none⟩)] w fun e w' => e = .returned (.int .i64 (V.cnt : Int)) ∧ w = w' := by
  obtain ⟨_, v, hx, _⟩ := h
  obtain ⟨_, _, c2, _⟩ := IsV.cells (F := F) hx
  clear hx
  go_enter Tryz.func63, Tryz.ntmps63
  go_wp2
  go_ret
  exact ⟨rfl, rfl⟩
set_option maxHeartbeats 1000000 in
theorem refusal_any (Fd Fv : Nat → Prop) (x p : Nat) (S : St) (V : Dv) (i : Int) (w : World) (hd : IsD w Fd p S) (hv : IsV w Fv x p V) :
    Calls Tryz.prog 99 #[.pointer (some ⟨x, 0, none⟩), .int .i64 i] w fun e w' => e = .returned (.int .i64 (refE S V i)) ∧ w = w' := by
  have kd := dead_any Fd p S w hd
  obtain ⟨_, v, hx, _⟩ := hv
  obtain ⟨c0, _, c2, _⟩ := IsV.cells (F := Fv) hx
  clear hx hd
  unfold refE
  cases hdd : S.dead with
  | true =>
    rw [hdd] at kd
    rw [if_pos rfl]
    go_enter Tryz.func99, Tryz.ntmps99
    go_wp2_with (go_at_call 16; refine kd.mono ?_; rintro e w' ⟨rfl, rfl⟩)
    go_ret
    exact ⟨rfl, rfl⟩
  | false =>
    rw [hdd] at kd
    rw [if_neg (by simp)]
    by_cases a : i < 0
    · rw [if_pos (.inl a)]
      go_enter Tryz.func99, Tryz.ntmps99
      go_wp2_with (go_at_call 16; refine kd.mono ?_; rintro e w' ⟨rfl, rfl⟩)
      go_ret
      exact ⟨rfl, rfl⟩
    · by_cases b : (V.cnt : Int) ≤ i
      · rw [if_pos (.inr b)]
        go_enter Tryz.func99, Tryz.ntmps99
        go_wp2_with (go_at_call 16; refine kd.mono ?_; rintro e w' ⟨rfl, rfl⟩)
        go_ret
        exact ⟨rfl, rfl⟩
      · rw [if_neg (by omega)]
        go_enter Tryz.func99, Tryz.ntmps99
        go_wp2_with (go_at_call 16; refine kd.mono ?_; rintro e w' ⟨rfl, rfl⟩)
        go_ret
        exact ⟨rfl, rfl⟩
theorem sct_len {S : St} {V : Dv} (ho : S.ok) (hf : Fit S V) {i : Int} (h0 : 0 ≤ i) (h1 : i < (V.cnt : Int)) : (sct S V i).length = 128 := by
  unfold Fit at hf
  exact S.one_len ho full (fun _ => Nat.le_refl _) _ (by omega)
theorem read_ok {S : St} {V : Dv} (hf : Fit S V) (hdd : S.dead = false) {i : Int} (h0 : 0 ≤ i) (h1 : i < (V.cnt : Int)) : S.read ((V.first : Int) + i) = (sct S V i, 0) := by
  unfold Fit at hf
  unfold St.read sct
  rw [hdd, if_neg (by simp), if_neg (by omega)]
  congr 2; omega
/-- what fetch returns -/
def ftV (S : St) (V : Dv) (i : Int) : Value := if parE (sct S V i) = 0 then Bk.agg ⟨i.toNat, parD (sct S V i), parN (sct S V i)⟩ else zeroAg
set_option maxHeartbeats 2000000 in
theorem fetch_any (Fd Fv : Nat → Prop) (x p : Nat) (S : St) (V : Dv) (i : Int) (w : World) (hd : IsD w Fd p S) (hv : IsV w Fv x p V) (hf : Fit S V) (hdd : S.dead = false) (h0 : 0 ≤ i) (h1 : i < (V.cnt : Int)) :
    Calls Tryz.prog 112 #[.pointer (some ⟨x, 0, none⟩), .int .i64 i] w fun e w' => e = .returned (.tuple #[ftV S V i, .int .i64 (parE (sct S V i))]) ∧ Below w.heap.size w w' := by
  obtain ⟨W1, hW1⟩ : ∃ W1, W1 = w.alloc (.cells #[.int .i64 0, .string ⟨#[]⟩, .int .i64 0] 149) := ⟨_, rfl⟩
  have hb1 : Below w.heap.size w W1 := by rw [hW1]; exact (Below.refl _ w).alloc (Nat.le_refl _) _
  have hr1 : W1.heap[w.heap.size]? = some (.cells #[.int .i64 0, .string ⟨#[]⟩, .int .i64 0] 149 (0, 0)) := by rw [hW1]; exact block_new w _
  have ho := hd.ok
  have hsl := sct_len ho hf h0 h1
  have hro := read_ok hf hdd h0 h1
  have hff := hf
  unfold Fit at hff
  have kr := read_any Fd p S W1.drew ((hd.below hb1).below (below_drewN (Below.refl _ _) 1)) ((V.first : Int) + i) (by omega)
  rw [hro] at kr
  obtain ⟨s, hs⟩ : ∃ s, s = ofL (sct S V i) := ⟨_, rfl⟩
  have hss : s.size = 128 := by rw [hs, ofL_size]; exact hsl
  have hsd : s.data.toList = sct S V i := by rw [hs, ofL_list]
  have kr : Hid (Calls Tryz.prog 100 #[.pointer (some ⟨p, 0, none⟩), .int .i64 ((V.first : Int) + i)] W1.drew fun e w' => e = .returned (.tuple #[.string s, .int .i64 0]) ∧ Below W1.drew.heap.size W1.drew w') := by rw [hs]; exact kr
  have kp : Hid (∀ W, Calls Tryz.prog 135 #[.string s] W fun e w' => e = .returned (.tuple #[.string (ofL (parD (sct S V i))), .int .i64 (parN (sct S V i)), .int .i64 (parE (sct S V i))]) ∧ Below W.heap.size W w') := fun W => by
    have := parse_any s W (by omega)
    rwa [hsd] at this
  obtain ⟨_, v, hx, _⟩ := hv.below hb1
  obtain ⟨c0, c1, _⟩ := IsV.cells (F := Fv) hx
  have hw : IntKind.i64.wrap ((V.first : Int) + i) = (V.first : Int) + i := by rw [IntKind.wrap_i64]; omega
  have HB1 := Lib.hid hb1
  have HR1 := Lib.hid hr1
  have HW1 := Lib.hid hW1
  have HR : Hid (∀ W, Below W1.heap.size W1 W → W.heap[w.heap.size]? = some (.cells #[.int .i64 0, .string ⟨#[]⟩, .int .i64 0] 149 (0, 0))) := fun W hW => (hW.block _ (block_lt hr1)).trans hr1
  have HC : Hid (W1.drew.cell? ⟨x, 0, none⟩ = some (.pointer (some ⟨p, 0, none⟩)) ∧ W1.drew.cell? ⟨x, 1, none⟩ = some (.int .i64 (V.first : Int))) := ⟨c0, c1⟩
  clear hb1 hr1 ho hsl hro hff hs hss hsd hx hd hv hf hdd hW1
  unfold ftV
  obtain ⟨E, hE⟩ : ∃ E, E = parE (sct S V i) := ⟨_, rfl⟩
  rw [← hE] at kp ⊢
  clear hE
  generalize parD (sct S V i) = D at *
  generalize parN (sct S V i) = N at *
  by_cases hz : E = 0
  · rw [if_pos hz]
    subst hz
    obtain ⟨n, rfl⟩ : ∃ n : Nat, i = (n : Int) := ⟨i.toNat, by omega⟩
    rw [Int.toNat_natCast]
    go_enter Tryz.func112, Tryz.ntmps112
    go_wp2_with (fail)
    rw [← HW1.out]
    go_region_held3 (fun w' => w'.cell? ⟨x, 0, none⟩ = some (.pointer (some ⟨p, 0, none⟩)) ∧ w'.cell? ⟨x, 1, none⟩ = some (.int .i64 (V.first : Int)))
      (first
        | exact HC.out
        | exact ⟨cell_below HC.out.1 hb2, cell_below HC.out.2 hb2⟩)
      (first
        | (go_at_call 100; (with_reducible refine kr.out.mono ?_); rintro e w2 ⟨rfl, hb2⟩))
    all_goals
      have HB2 := Lib.hid hb2
      clear hb2
      go_wp2_with (first
        | (go_at_call 135; refine (kp.out _).mono ?_; rintro e w3 ⟨rfl, hb3⟩; have hb13 : Below W1.heap.size W1 w3 := below_trans ((below_drewN (Below.refl _ W1) 1).trans HB2.out) hb3; have hr := HR.out w3 hb13; have e0 : w3.cell? ⟨w.heap.size, 0, none⟩ = some (.int .i64 0) := (by rw [cell_of_row _ _ _ _ _ _ hr]; rfl); have e1 : w3.cell? ⟨w.heap.size, 1, none⟩ = some (.string ⟨#[]⟩) := (by rw [cell_of_row _ _ _ _ _ _ hr]; rfl); have e2 : w3.cell? ⟨w.heap.size, 2, none⟩ = some (.int .i64 0) := (by rw [cell_of_row _ _ _ _ _ _ hr]; rfl); have f0 := block_free (o := 0) hr; have f1 := block_free (o := 1) hr; have f2 := block_free (o := 2) hr; have HRR := Lib.hid (And.intro hr (HB1.out.trans (hb13.mono HB1.out.size))); clear hr hb13 hb3))
      exact bodyPost_ret_by (results_ct results_69 _ _ w.heap.size 149 _ (0, 0) _ _ rfl rfl (setAg3 HRR.out.1 _ _ _) Tryz.underlying149 rfl (by kernel_rfl)) rfl ⟨rfl, (((HRR.out.2.setCell (p := ⟨w.heap.size, 0, none⟩) (Nat.le_refl _) _).setCell (p := ⟨w.heap.size, 1, none⟩) (Nat.le_refl _) _).setCell (p := ⟨w.heap.size, 2, none⟩) (Nat.le_refl _) _)⟩
  · rw [if_neg hz]
    have hne : (E != 0) = true := by simp [hz]
    obtain ⟨n, rfl⟩ : ∃ n : Nat, i = (n : Int) := ⟨i.toNat, by omega⟩
    go_enter Tryz.func112, Tryz.ntmps112
    go_wp2_with (fail)
    rw [← HW1.out]
    go_region_held3 (fun w' => w'.cell? ⟨x, 0, none⟩ = some (.pointer (some ⟨p, 0, none⟩)) ∧ w'.cell? ⟨x, 1, none⟩ = some (.int .i64 (V.first : Int)))
      (first
        | exact HC.out
        | exact ⟨cell_below HC.out.1 hb2, cell_below HC.out.2 hb2⟩)
      (first
        | (go_at_call 100; (with_reducible refine kr.out.mono ?_); rintro e w2 ⟨rfl, hb2⟩))
    all_goals
      have HB2 := Lib.hid hb2
      clear hb2
      go_wp2_with (first
        | (go_at_call 135; refine (kp.out _).mono ?_; rintro e w3 ⟨rfl, hb3⟩; have hb13 : Below W1.heap.size W1 w3 := below_trans ((below_drewN (Below.refl _ W1) 1).trans HB2.out) hb3; have hr := HR.out w3 hb13; have e0 : w3.cell? ⟨w.heap.size, 0, none⟩ = some (.int .i64 0) := (by rw [cell_of_row _ _ _ _ _ _ hr]; rfl); have e1 : w3.cell? ⟨w.heap.size, 1, none⟩ = some (.string ⟨#[]⟩) := (by rw [cell_of_row _ _ _ _ _ _ hr]; rfl); have e2 : w3.cell? ⟨w.heap.size, 2, none⟩ = some (.int .i64 0) := (by rw [cell_of_row _ _ _ _ _ _ hr]; rfl); have f0 := block_free (o := 0) hr; have f1 := block_free (o := 1) hr; have f2 := block_free (o := 2) hr; have HRR := Lib.hid (And.intro hr (HB1.out.trans (hb13.mono HB1.out.size))); clear hr hb13 hb3))
      exact bodyPost_ret_by (results_ct results_69 _ _ w.heap.size 149 _ (0, 0) _ _ rfl rfl (setAg3 HRR.out.1 _ _ _) Tryz.underlying149 rfl (by kernel_rfl)) rfl ⟨rfl, (((HRR.out.2.setCell (p := ⟨w.heap.size, 0, none⟩) (Nat.le_refl _) _).setCell (p := ⟨w.heap.size, 1, none⟩) (Nat.le_refl _) _).setCell (p := ⟨w.heap.size, 2, none⟩) (Nat.le_refl _) _)⟩
end Go.Proofs.YtjippoejaieneaaGreat
