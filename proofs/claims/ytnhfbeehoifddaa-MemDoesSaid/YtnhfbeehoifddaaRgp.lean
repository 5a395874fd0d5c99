/- Tables with fewer rights, as lists and numbers, and rows of pages. No conditions. -/
import Derived.Test.YtnhfbeehoifddaaFrs
import Derived.Test.YtnhfbeehoifddaaArg
import Derived.StillTailTactics
namespace Go.Proofs.Ytnhfbeehoifddaa
open Go.RowKit Go.Maps
set_option linter.unusedVariables false

theorem and_nat {r : Int} (hr : 0 ≤ r ∧ r < 9223372036854775808) (m : Int) : bits .and .i64 r m = ((r.toNat &&& (m % 18446744073709551616).toNat : Nat) : Int) := by
  show IntKind.i64.wrap ((BitVec.ofInt 64 r &&& BitVec.ofInt 64 m).toNat : Int) = _
  rw [BitVec.toNat_and, toNat_ofInt64, toNat_ofInt64]
  have e : (r % 18446744073709551616).toNat = r.toNat := by omega
  rw [e]
  have hle : r.toNat &&& (m % 18446744073709551616).toNat ≤ r.toNat := Nat.and_le_left
  exact wrap_in (by omega)
def lessR (m r : Int) : Int := bits .and .i64 (bits .and .i64 r m) 7
theorem lessR_ok {r : Int} (hr : 0 ≤ r ∧ r ≤ 7) (m : Int) : 0 ≤ lessR m r ∧ lessR m r ≤ 7 ∧ (r = 0 → lessR m r = 0) ∧ ∀ R : Int, (R = 1 ∨ R = 2 ∨ R = 4) → hasR (lessR m r) R = true → hasR r R = true := by
  unfold lessR
  rw [and_nat (by omega) m]
  have hle : r.toNat &&& (m % 18446744073709551616).toNat ≤ r.toNat := Nat.and_le_left
  rw [and_nat (by omega) 7, Int.toNat_natCast]
  obtain ⟨M, hM⟩ : ∃ M, M = (m % 18446744073709551616).toNat := ⟨_, rfl⟩
  rw [← hM] at hle ⊢
  have hle2 : (r.toNat &&& M) &&& ((7 : Int) % 18446744073709551616).toNat ≤ r.toNat &&& M := Nat.and_le_left
  refine ⟨by omega, by omega, fun h0 => ?_, fun R hR h => ?_⟩
  · subst h0
    have : (0 : Int).toNat &&& M = 0 := Nat.zero_and M
    rw [this] at hle2 ⊢
    omega
  · have key : ∀ i, ((r.toNat &&& M) &&& ((7 : Int) % 18446744073709551616).toNat).testBit i = true → r.toNat.testBit i = true := by
      intro i hi
      rw [Nat.testBit_and, Nat.testBit_and] at hi
      cases h1 : r.toNat.testBit i
      · rw [h1] at hi; simp at hi
      · rfl
    unfold hasR at h ⊢
    rw [Int.toNat_natCast] at h
    have tb : ∀ (x i : Nat), x.testBit i = (x / 2 ^ i % 2 == 1) := fun x i => by rw [Nat.testBit_eq_decide_div_mod_eq]; rfl
    rcases hR with rfl | rfl | rfl
    · have := key 0
      rw [tb, tb] at this
      exact this h
    · have := key 1
      rw [tb, tb] at this
      exact this h
    · have := key 2
      rw [tb, tb] at this
      exact this h
def lessP (m : Int) (p : Pg) : Pg := (p.1, lessR m p.2)
/-- the first k pages have fewer rights -/
def lessK (m : Int) (ps : List Pg) (k : Nat) : List Pg := (List.range ps.length).map fun j => if j < k then lessP m (ps.getD j (0, 0)) else ps.getD j (0, 0)
theorem lessK_len (m : Int) (ps : List Pg) (k : Nat) : (lessK m ps k).length = ps.length := by simp [lessK]
theorem lessK_zero (m : Int) (ps : List Pg) : lessK m ps 0 = ps := by
  apply List.ext_getElem?
  intro j
  unfold lessK
  rw [List.getElem?_map]
  by_cases h : j < ps.length
  · rw [List.getElem?_range h, Option.map_some, if_neg (by omega), List.getD_eq_getElem?_getD, List.getElem?_eq_getElem h]; rfl
  · rw [List.getElem?_eq_none (by simpa using h), List.getElem?_eq_none (by omega)]; rfl
theorem lessK_all (m : Int) (ps : List Pg) : lessK m ps ps.length = ps.map (lessP m) := by
  apply List.ext_getElem?
  intro j
  unfold lessK
  rw [List.getElem?_map, List.getElem?_map]
  by_cases h : j < ps.length
  · rw [List.getElem?_range h, Option.map_some, if_pos h, List.getD_eq_getElem?_getD, List.getElem?_eq_getElem h]; rfl
  · rw [List.getElem?_eq_none (by simpa using h), List.getElem?_eq_none (by omega)]; rfl
theorem lessK_get (m : Int) (ps : List Pg) (k j : Nat) (h : j < ps.length) : (lessK m ps k).getD j (0, 0) = if j < k then lessP m (ps.getD j (0, 0)) else ps.getD j (0, 0) := by
  rw [List.getD_eq_getElem?_getD]
  unfold lessK
  rw [List.getElem?_map, List.getElem?_range h]
  rfl
theorem less_pg (m : Int) (ps : List Pg) (a : Int) (h : ¬ out ps a) : pg (ps.map (lessP m)) a = lessP m (pg ps a) := by
  unfold out at h
  have hlt : (a / 256).toNat < ps.length := by omega
  unfold pg
  rw [List.getD_eq_getElem?_getD, List.getD_eq_getElem?_getD, List.getElem?_map, List.getElem?_eq_getElem hlt]
  rfl
theorem less_out (m : Int) (ps : List Pg) (a : Int) : out (ps.map (lessP m)) a ↔ out ps a := by unfold out; rw [List.length_map]
theorem less_bad {F : Nat} {m : Int} {ps : List Pg} {R a : Int} (hc : chk F ps = 0) (hR : R = 1 ∨ R = 2 ∨ R = 4) (h : bad (ps.map (lessP m)) R a = 0) : bad ps R a = 0 ∧ pos (ps.map (lessP m)) a = pos ps a := by
  obtain ⟨h1, h2, h3⟩ := bad_zero h
  rw [less_out] at h1
  rw [less_pg m ps a h1] at h2 h3
  have hr := (chk_range hc (pg_mem h1)).2.2
  have hb : bad ps R a = 0 := by
    unfold out at h1
    unfold bad
    rw [if_neg h1, if_neg (show ¬ (pg ps a).1 = -1 from h2), if_pos ((lessR_ok ⟨hr.1, hr.2⟩ m).2.2.2 R hR h3)]
  refine ⟨hb, ?_⟩
  unfold pos
  rw [less_pg m ps a h1]
  rfl
theorem less_there {F : Nat} {m : Int} {ps : List Pg} {R : Int} (hc : chk F ps = 0) (hR : R = 1 ∨ R = 2 ∨ R = 4) (B : Bts) : ∀ (n : Nat) (a : Int), thereE (ps.map (lessP m)) R a n = 0 → thereE ps R a n = 0 ∧ rd (ps.map (lessP m)) B a n = rd ps B a n
  | 0, _, _ => ⟨rfl, rfl⟩
  | n + 1, a, h => by
    unfold thereE at h
    by_cases hb : bad (ps.map (lessP m)) R a = 0
    · rw [if_pos hb] at h
      obtain ⟨b1, b2⟩ := less_bad hc hR hb
      obtain ⟨i1, i2⟩ := less_there hc hR B n (a + 1) h
      unfold thereE rd
      rw [if_pos b1, b2, i2]
      exact ⟨i1, rfl⟩
    · rw [if_neg hb] at h
      exact absurd h hb
theorem less_wr {F : Nat} {m : Int} {ps : List Pg} (hc : chk F ps = 0) : ∀ (s : Bts) (a : Int) (B : Bts), thereE (ps.map (lessP m)) 2 a s.length = 0 → wr (ps.map (lessP m)) a s B = wr ps a s B
  | [], _, _, _ => rfl
  | x :: s, a, B, h => by
    rw [List.length_cons] at h
    unfold thereE at h
    by_cases hb : bad (ps.map (lessP m)) 2 a = 0
    · rw [if_pos hb] at h
      obtain ⟨b1, b2⟩ := less_bad hc (by omega) hb
      unfold wr
      rw [b2]
      exact less_wr hc s (a + 1) _ h
    · rw [if_neg hb] at h
      exact absurd h hb
theorem less_chk {F : Nat} {m : Int} {ps : List Pg} (hc : chk F ps = 0) : chk F (ps.map (lessP m)) = 0 := by
  obtain ⟨h1, h2⟩ := chk_mem hc
  have hall : ∀ p ∈ ps.map (lessP m), okP F p := by
    intro p hp
    obtain ⟨x, hx, rfl⟩ := List.mem_map.1 hp
    have h3 := h2 x hx
    unfold okP at h3 ⊢
    show if x.1 = -1 then lessR m x.2 = 0 else _
    split at h3
    · rename_i e
      rw [if_pos e]
      exact (lessR_ok (by omega) m).2.2.1 h3
    · rename_i e
      rw [if_neg e]
      have := lessR_ok ⟨h3.2.2.1, h3.2.2.2⟩ m
      exact ⟨h3.1, h3.2.1, this.1, this.2.1⟩
  unfold chk
  rw [if_pos ⟨by rw [List.length_map]; exact h1, hall⟩]
theorem less_read {F : Nat} {m : Int} {ps : List Pg} {R : Int} (hc : chk F ps = 0) (B : Bts) (a n : Int) (h : readE F (ps.map (lessP m)) a n R = 0) : readE F ps a n R = 0 ∧ readS F (ps.map (lessP m)) B a n R = readS F ps B a n R := by
  have h0 := h
  unfold readE at h
  rw [if_pos (less_chk hc)] at h
  by_cases s : sizeOk n R
  · rw [if_pos s] at h
    have hs := s
    unfold sizeOk at hs
    obtain ⟨i1, i2⟩ := less_there hc (by omega) B _ _ h
    have e : readE F ps a n R = 0 := by unfold readE; rw [if_pos hc, if_pos s]; exact i1
    refine ⟨e, ?_⟩
    unfold readS
    rw [if_pos e, if_pos h0, i2]
  · rw [if_neg s] at h; cases h
theorem less_write {F : Nat} {m : Int} {ps : List Pg} (hc : chk F ps = 0) (B : Bts) (a : Int) (s : Bts) (h : writeE F (ps.map (lessP m)) a s.length = 0) : writeE F ps a s.length = 0 ∧ writeB F (ps.map (lessP m)) B a s = writeB F ps B a s := by
  have h0 := h
  unfold writeE at h
  rw [if_pos (less_chk hc)] at h
  by_cases z : s.length ≤ 4096
  · rw [if_pos z] at h
    obtain ⟨i1, _⟩ := less_there hc (by omega) B _ _ h
    have e : writeE F ps a s.length = 0 := by unfold writeE; rw [if_pos hc, if_pos z]; exact i1
    refine ⟨e, ?_⟩
    unfold writeB
    rw [if_pos e, if_pos h0]
    exact less_wr hc s a B h
  · rw [if_neg z] at h; cases h
/-! ### a row of pages -/
def PgRow (W : World) (gf : Nat) (ps : List Pg) : Prop :=
  ∃ cur, W.heap[gf]? = some (.cells cur 53 (0, 0)) ∧ ∀ j, j < ps.length → cur[j * 2]? = some (.int .i64 (ps.getD j (0, 0)).1) ∧ cur[j * 2 + 1]? = some (.int .i64 (ps.getD j (0, 0)).2)
theorem PgRow.of_heap {W W' : World} {gf : Nat} {ps : List Pg} (h : PgRow W gf ps) (e : W'.heap[gf]? = W.heap[gf]?) : PgRow W' gf ps := by
  obtain ⟨cur, h1, h2⟩ := h
  exact ⟨cur, e.trans h1, h2⟩
theorem PgRow.tab {W : World} {gf cap : Nat} {ps : List Pg} (h : PgRow W gf ps) (hc : ps.length ≤ cap) : TabV (fun k => k = gf) W (.slice (some ⟨gf, 0, none⟩) ps.length cap) ps := by
  obtain ⟨cur, h1, h2⟩ := h
  refine ⟨_, cap, rfl, hc, fun _ => ⟨gf, 0, rfl, rfl, block_lt h1, fun j hj => ?_⟩⟩
  rw [cell_of_row _ _ _ _ _ _ h1, cell_of_row _ _ _ _ _ _ h1, Nat.zero_add]
  exact h2 j hj
theorem PgRow.set {W : World} {gf : Nat} {m : Int} {ps : List Pg} {k : Nat} (h : PgRow W gf (lessK m ps k)) (hk : k < ps.length) : PgRow (W.setCell ⟨gf, k * 2 + 1, none⟩ (.int .i64 (lessR m (ps.getD k (0, 0)).2))) gf (lessK m ps (k + 1)) := by
  obtain ⟨cur, h1, h2⟩ := h
  refine ⟨_, block_setCell h1, fun j hj => ?_⟩
  rw [lessK_len] at hj
  have hq := h2 j (by rw [lessK_len]; exact hj)
  rw [lessK_get _ _ _ _ hj] at hq ⊢
  have hk2 := h2 k (by rw [lessK_len]; exact hk)
  have hsz : k * 2 + 1 < cur.size := by
    rcases Nat.lt_or_ge (k * 2 + 1) cur.size with z | z
    · exact z
    · rw [Array.getElem?_eq_none z] at hk2; cases hk2.2
  have n1 : ¬ k * 2 + 1 = j * 2 := by omega
  rw [Array.getElem?_setIfInBounds, Array.getElem?_setIfInBounds, if_neg n1]
  by_cases e : j = k
  · subst e
    rw [if_pos rfl, if_pos hsz, if_pos (Nat.lt_succ_self _)]
    rw [if_neg (Nat.lt_irrefl _)] at hq
    exact ⟨hq.1, rfl⟩
  · have n2 : ¬ k * 2 + 1 = j * 2 + 1 := by omega
    rw [if_neg n2]
    by_cases z : j < k
    · rw [if_pos z] at hq
      rw [if_pos (show j < k + 1 by omega)]
      exact hq
    · rw [if_neg z] at hq
      rw [if_neg (show ¬ j < k + 1 by omega)]
      exact hq
def flat (ps : List Pg) : List Value := ps.flatMap fun p => [.int .i64 p.1, .int .i64 p.2]
theorem flat_len : ∀ ps : List Pg, (flat ps).length = ps.length * 2
  | [] => rfl
  | x :: ps => by
    have := flat_len ps
    show (Value.int .i64 x.1 :: Value.int .i64 x.2 :: flat ps).length = _
    simp only [List.length_cons, this]
    omega
theorem flat_get : ∀ (l : List Pg) (j : Nat), j < l.length → (flat l)[j * 2]? = some (.int .i64 (l.getD j (0, 0)).1) ∧ (flat l)[j * 2 + 1]? = some (.int .i64 (l.getD j (0, 0)).2)
  | [], j, h => absurd h (Nat.not_lt_zero _)
  | x :: l, 0, _ => ⟨rfl, rfl⟩
  | x :: l, j + 1, h => by
    have := flat_get l j (by simpa using h)
    have e : flat (x :: l) = Value.int .i64 x.1 :: Value.int .i64 x.2 :: flat l := rfl
    rw [e, show (j + 1) * 2 = j * 2 + 1 + 1 by omega, List.getElem?_cons_succ, List.getElem?_cons_succ, List.getElem?_cons_succ, List.getElem?_cons_succ]
    exact this
theorem Try.info53 : (Try.prog.info? 53).map (fun i => (i.zero, i.size, i.bytes)) = some (some (.agg #[.int .i64 0, .int .i64 0]), 2, 16) := by kernel_rfl
theorem own_pages {W : World} {b0 gf n cap : Nat} {ps : List Pg} (h : W.ownsRow b0 53 2 (.slice (some ⟨gf, 0, none⟩) n cap) n (flat ps)) (hn : n = ps.length) : PgRow W gf ps ∧ n ≤ cap ∧ b0 ≤ gf := by
  rcases h.2 with ⟨e, _⟩ | ⟨g, cap', cur, e, hb, hg, hnc, _, hcs, ht⟩
  · cases e
  · injection e with e1 _ e3
    injection e1 with e1
    injection e1 with e1
    subst e1 e3 hn
    refine ⟨⟨cur, hg, fun j hj => ?_⟩, hnc, hb⟩
    obtain ⟨f1, f2⟩ := flat_get ps j hj
    rw [← ht, List.getElem?_take, Array.getElem?_toList] at f1 f2
    rw [if_pos (by omega)] at f1 f2
    exact ⟨f1, f2⟩
/-- 'append([]Page{}, t...)' -/
theorem app_pages (W : World) (G : Nat → Prop) (v : Value) (ps : List Pg) (ht : TabV G W v ps) (hl : ps.length * 16 < 140737488355328) :
    ∃ gf cap W2, (Builtin.append_ #[32, 32] 32 #[.slice (some ⟨W.heap.size, 0, none⟩) 0 0, v]).run Try.prog (W.alloc (.cells #[] 53)) = .ok (.slice (some ⟨gf, 0, none⟩) ps.length cap) W2 ∧ PgRow W2 gf ps ∧ ps.length ≤ cap ∧ W.heap.size ≤ gf ∧ Below W.heap.size W W2 := by
  obtain ⟨i0, hi1, hi2, hi3, hi4⟩ := info_parts Try.info53
  have hb1 : Below W.heap.size W (W.alloc (.cells #[] 53)) := (Below.refl _ W).alloc (Nat.le_refl _) _
  have ho : (W.alloc (.cells #[] 53)).ownsRow W.heap.size 53 2 (.slice (some ⟨W.heap.size, 0, none⟩) 0 0) 0 [] :=
    ⟨by simp, .inr ⟨W.heap.size, 0, #[], rfl, Nat.le_refl _, block_new _ _, Nat.le_refl _, Nat.zero_le _, by simp, by simp⟩⟩
  have ht1 := ht.below hb1
  obtain ⟨q, cap, rfl, hc, hrow⟩ := ht1
  have fin : ∀ v' W2, (W.alloc (.cells #[] 53)).grownBy W2 (some W.heap.size) → W2.ownsRow W.heap.size 53 2 v' ps.length (flat ps) → v' ≠ .slice none 0 0 → ∃ gf cap, v' = .slice (some ⟨gf, 0, none⟩) ps.length cap ∧ PgRow W2 gf ps ∧ ps.length ≤ cap ∧ W.heap.size ≤ gf ∧ Below W.heap.size W W2 := by
    intro v' W2 hgr hown hnn
    rcases hown.2 with ⟨e, _⟩ | ⟨gf, cap', _, e, _⟩
    · exact absurd e hnn
    · subst e
      obtain ⟨k1, k2, k3⟩ := own_pages hown rfl
      exact ⟨gf, cap', rfl, k1, k2, k3, hb1.grown hgr hb1.size (fun k e => by cases e; exact Nat.le_refl _)⟩
  by_cases hne : ps = []
  · subst hne
    have hr : ∀ q', (Builtin.append_ #[32, 32] 32 #[.slice (some ⟨W.heap.size, 0, none⟩) 0 0, .slice q' 0 cap]).run Try.prog (W.alloc (.cells #[] 53)) = .ok (.slice (some ⟨W.heap.size, 0, none⟩) 0 0) (W.alloc (.cells #[] 53)) := by
      intro q'
      cases q' with
      | none => simp [Builtin.append_, run_underlying Try.underlying32, Builtin.lenOf, Builtin.firstCells, sizeOf, typeInfo, hi1, storeCells]
      | some a => simp [Builtin.append_, run_underlying Try.underlying32, Builtin.lenOf, Builtin.firstCells, sizeOf, typeInfo, hi1, storeCells, loadCells, loadCellsFrom]
    exact ⟨W.heap.size, 0, _, hr q, ⟨#[], block_new _ _, fun j hj => absurd hj (Nat.not_lt_zero _)⟩, Nat.le_refl _, Nat.le_refl _, hb1⟩
  · obtain ⟨b, o, rfl, hG, hlt, hcell⟩ := hrow hne
    obtain ⟨v', W2, hrun, hown, hgr, hnn, _⟩ := run_append_own_at (P := Try.prog) (w := W.alloc (.cells #[] 53)) W.heap.size 32 32 53 i0 _ 2 16 Try.underlying32 hi1 hi2 hi3 hi4 rfl (by omega) _ 0 [] ho ⟨b, o, none⟩ ps.length cap (flat ps) (flat_len ps) (fun j u hu => by
      have hj : j < ps.length * 2 := by
        rcases Nat.lt_or_ge j (ps.length * 2) with z | z
        · exact z
        · rw [List.getElem?_eq_none (by rw [flat_len]; exact z)] at hu; cases hu
      have hc := hcell (j / 2) (by omega)
      have hf := flat_get ps (j / 2) (by omega)
      rw [addr_at]
      rcases Nat.mod_two_eq_zero_or_one j with z | z
      · have e : j / 2 * 2 = j := by omega
        rw [e] at hf hc
        rw [hf.1] at hu
        cases hu
        exact hc.1
      · have e : j / 2 * 2 + 1 = j := by omega
        have e2 : o + j / 2 * 2 + 1 = o + j := by omega
        rw [e] at hf
        rw [e2] at hc
        rw [hf.2] at hu
        cases hu
        exact hc.2) (by intro u hu; obtain ⟨p, _, hp⟩ := List.mem_flatMap.1 hu; simp at hp; rcases hp with rfl | rfl <;> rfl) (by unfold maxLen; omega) (by omega) hb1.size
    rw [Nat.zero_add, List.nil_append] at hown
    obtain ⟨gf, cap', rfl, k1, k2, k3, k4⟩ := fin v' W2 hgr hown (fun e => by rw [hnn] at e; cases e.1)
    exact ⟨gf, cap', W2, hrun, k1, k2, k3, k4⟩
end Go.Proofs.Ytnhfbeehoifddaa
