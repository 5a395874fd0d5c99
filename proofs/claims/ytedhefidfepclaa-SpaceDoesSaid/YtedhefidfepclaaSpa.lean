/- The partitions' memories as a world holds them: a memory, a row of pages, a row of bounds; is a partition there, its table, the memory. No conditions. -/
import Derived.Test.YtedhefidfepclaaLdw
namespace Go.Proofs.Ytedhefidfepclaa
open Go.RowKit Go.Maps
set_option linter.unusedVariables false

/-- where the k-th partition's pages begin -/
def bnd (ns : List Nat) (k : Nat) : Nat := (ns.take k).sum
theorem bnd_zero (ns : List Nat) : bnd ns 0 = 0 := rfl
theorem bnd_succ (ns : List Nat) (k : Nat) (hk : k < ns.length) : bnd ns (k + 1) = bnd ns k + ns[k] := by
  unfold bnd
  rw [List.take_succ_eq_append_getElem hk, List.sum_append]
  simp
theorem bnd_le (ns : List Nat) (k : Nat) : bnd ns k ≤ ns.sum := by
  unfold bnd
  have := congrArg List.sum (List.take_append_drop k ns)
  rw [List.sum_append] at this
  omega
theorem bnd_mono (ns : List Nat) (k : Nat) : bnd ns k ≤ bnd ns (k + 1) := by
  by_cases hk : k < ns.length
  · rw [bnd_succ ns k hk]; omega
  · unfold bnd; rw [List.take_of_length_le (by omega), List.take_of_length_le (by omega)]; exact Nat.le_refl _
/-- where a space lies -/
structure SpAt where
  p : Nat
  pm : Nat
  g : Nat
  cap : Nat
  gp : Nat
  cp : Nat
  gb : Nat
  cb : Nat
/-- a space at s.p: its memory's bytes B, its pages ps, the partitions' numbers of pages ns -/
structure IsS (w : World) (s : SpAt) (B : Bts) (ns : List Nat) (ps : List Pg) : Prop where
  blk : w.heap[s.p]? = some (.cells #[.pointer (some ⟨s.pm, 0, none⟩), .slice (some ⟨s.gp, 0, none⟩) ps.length s.cp, .slice (some ⟨s.gb, 0, none⟩) (ns.length + 1) s.cb] 77 (0, 0))
  mem : IsM w s.pm s.g s.cap ps.length B
  pgs : ∃ cur, w.heap[s.gp]? = some (.cells cur 56 (0, 0)) ∧ ∀ j, j < ps.length → cur[j * 2]? = some (.int .i64 (ps.getD j (0, 0)).1) ∧ cur[j * 2 + 1]? = some (.int .i64 (ps.getD j (0, 0)).2)
  bds : ∃ cur, w.heap[s.gb]? = some (.cells cur 3 (0, 0)) ∧ ∀ k, k ≤ ns.length → cur[k]? = some (.int .i64 (bnd ns k : Nat))
  sum : ps.length = ns.sum
  room : ps.length ≤ s.cp
  few : ns.length ≤ 8
  each : ∀ n ∈ ns, 1 ≤ n ∧ n ≤ 16
theorem IsS.lt {w : World} {s : SpAt} {B : Bts} {ns : List Nat} {ps : List Pg} (h : IsS w s B ns ps) : s.p < w.heap.size ∧ s.pm < w.heap.size ∧ s.g < w.heap.size ∧ s.gp < w.heap.size ∧ s.gb < w.heap.size := by
  obtain ⟨_, hp, _⟩ := h.pgs
  obtain ⟨_, hb, _⟩ := h.bds
  exact ⟨block_lt h.blk, h.mem.lt.1, h.mem.lt.2, block_lt hp, block_lt hb⟩
theorem IsS.below {w w' : World} {s : SpAt} {B : Bts} {ns : List Nat} {ps : List Pg} (h : IsS w s B ns ps) (hb : Below w.heap.size w w') : IsS w' s B ns ps := by
  obtain ⟨l1, l2, l3, l4, l5⟩ := h.lt
  obtain ⟨c1, hp, hp2⟩ := h.pgs
  obtain ⟨c2, hq, hq2⟩ := h.bds
  exact ⟨(hb.block _ l1).trans h.blk, h.mem.below hb, ⟨c1, (hb.block _ l4).trans hp, hp2⟩, ⟨c2, (hb.block _ l5).trans hq, hq2⟩, h.sum, h.room, h.few, h.each⟩
theorem IsS.cells {w : World} {s : SpAt} {B : Bts} {ns : List Nat} {ps : List Pg} (h : IsS w s B ns ps) : w.cell? ⟨s.p, 0, none⟩ = some (.pointer (some ⟨s.pm, 0, none⟩)) ∧ w.cell? ⟨s.p, 1, none⟩ = some (.slice (some ⟨s.gp, 0, none⟩) ps.length s.cp) ∧ w.cell? ⟨s.p, 2, none⟩ = some (.slice (some ⟨s.gb, 0, none⟩) (ns.length + 1) s.cb) :=
  ⟨by rw [cell_of_row _ _ _ _ _ _ h.blk]; rfl, by rw [cell_of_row _ _ _ _ _ _ h.blk]; rfl, by rw [cell_of_row _ _ _ _ _ _ h.blk]; rfl⟩
theorem IsS.bound {w : World} {s : SpAt} {B : Bts} {ns : List Nat} {ps : List Pg} (h : IsS w s B ns ps) (k : Nat) (hk : k ≤ ns.length) : w.cell? ⟨s.gb, k, none⟩ = some (.int .i64 (bnd ns k : Nat)) := by
  obtain ⟨cur, hb, hc⟩ := h.bds
  rw [cell_of_row _ _ _ _ _ _ hb]; exact hc k hk
theorem IsS.page {w : World} {s : SpAt} {B : Bts} {ns : List Nat} {ps : List Pg} (h : IsS w s B ns ps) (j : Nat) (hj : j < ps.length) : w.cell? ⟨s.gp, j * 2, none⟩ = some (.int .i64 (ps.getD j (0, 0)).1) ∧ w.cell? ⟨s.gp, j * 2 + 1, none⟩ = some (.int .i64 (ps.getD j (0, 0)).2) := by
  obtain ⟨cur, hb, hc⟩ := h.pgs
  exact ⟨by rw [cell_of_row _ _ _ _ _ _ hb]; exact (hc j hj).1, by rw [cell_of_row _ _ _ _ _ _ hb]; exact (hc j hj).2⟩
/-- a partition's pages -/
def tabP (ns : List Nat) (ps : List Pg) (k : Nat) : List Pg := (ps.drop (bnd ns k)).take (bnd ns (k + 1) - bnd ns k)
theorem tabP_len {ns : List Nat} {ps : List Pg} (h : ps.length = ns.sum) (k : Nat) (hk : k < ns.length) : (tabP ns ps k).length = ns[k] := by
  unfold tabP
  have h1 := bnd_succ ns k hk
  have h2 := bnd_le ns (k + 1)
  rw [List.length_take, List.length_drop]
  omega
theorem tabP_get {ns : List Nat} {ps : List Pg} (h : ps.length = ns.sum) (k : Nat) (hk : k < ns.length) (j : Nat) (hj : j < ns[k]) : (tabP ns ps k).getD j (0, 0) = ps.getD (bnd ns k + j) (0, 0) := by
  unfold tabP
  have h1 := bnd_succ ns k hk
  rw [List.getD_eq_getElem?_getD, List.getD_eq_getElem?_getD, List.getElem?_take, if_pos (by omega), List.getElem?_drop]
/-- a partition's table lies there -/
theorem IsS.tab {w : World} {s : SpAt} {B : Bts} {ns : List Nat} {ps : List Pg} (h : IsS w s B ns ps) (k : Nat) (hk : k < ns.length) : TabV (fun b => b = s.gp) w (.slice (some ⟨s.gp, bnd ns k * 2, none⟩) ns[k] ns[k]) (tabP ns ps k) := by
  have hl := tabP_len h.sum k hk
  refine ⟨_, ns[k], by rw [hl], by omega, fun hne => ⟨s.gp, bnd ns k * 2, rfl, rfl, h.lt.2.2.2.1, fun j hj => ?_⟩⟩
  rw [hl] at hj
  rw [tabP_get h.sum k hk j hj]
  have h1 := bnd_succ ns k hk
  have h2 := bnd_le ns (k + 1)
  have := h.page (bnd ns k + j) (by rw [h.sum]; omega)
  rw [show bnd ns k * 2 + j * 2 = (bnd ns k + j) * 2 by omega]
  exact this
set_option maxHeartbeats 1000000 in
theorem shas_any (w : World) (s : SpAt) (B : Bts) (ns : List Nat) (ps : List Pg) (h : IsS w s B ns ps) (k : Int) :
    Calls Try.prog 32 #[.pointer (some ⟨s.p, 0, none⟩), .int .i64 k] w fun e w' => e = .returned (.bool (decide (0 ≤ k ∧ k < ns.length))) ∧ w = w' := by
  obtain ⟨_, _, c2⟩ := h.cells
  have hf := h.few
  obtain ⟨n, hn⟩ : ∃ n, n = ns.length := ⟨_, rfl⟩
  rw [← hn] at c2 hf ⊢
  clear h hn
  by_cases a : 0 ≤ k
  · by_cases b : k < n
    · have b2 : k < (n : Int) + 1 - 1 := by omega
      go_enter Try.func32, Try.ntmps32
      go_wp2
      go_ret
      exact ⟨ret_bool (by simp; omega), rfl⟩
    · have b2 : ¬ k < (n : Int) + 1 - 1 := by omega
      go_enter Try.func32, Try.ntmps32
      go_wp2
      go_ret
      exact ⟨ret_bool (by simp; omega), rfl⟩
  · go_enter Try.func32, Try.ntmps32
    go_wp2
    go_ret
    exact ⟨ret_bool (by simp; omega), rfl⟩
set_option maxHeartbeats 1000000 in
theorem smem_any (w : World) (s : SpAt) (B : Bts) (ns : List Nat) (ps : List Pg) (h : IsS w s B ns ps) :
    Calls Try.prog 25 #[.pointer (some ⟨s.p, 0, none⟩)] w fun e w' => e = .returned (.pointer (some ⟨s.pm, 0, none⟩)) ∧ w = w' := by
  obtain ⟨c0, _, _⟩ := h.cells
  clear h
  go_enter Try.func25, Try.ntmps25
  go_wp2
  go_ret
  exact ⟨rfl, rfl⟩
set_option maxHeartbeats 1000000 in
theorem rights_any (t : ByteArray) (w : World) : Calls Try.prog 34 #[.string t] w fun e w' => e = .returned (.int .i64 (if t.size = 0 then 3 else 5)) ∧ w = w' := by
  by_cases z : t.size = 0
  · have hz : t = ByteArray.empty := by
      have : t.data.toList = [] := List.length_eq_zero_iff.1 (by rw [baList]; exact z)
      rw [ofL_eq this]; rfl
    subst hz
    rw [if_pos z]
    clear z
    go_enter Try.func34, Try.ntmps34
    go_wp2
    go_ret
    exact ⟨rfl, rfl⟩
  · rw [if_neg z]
    have e3 : t.toList.isEmpty = false := by
      rw [ByteArray.toList_eq]
      cases hc : t.data.toList with
      | nil => exact absurd (by rw [← baList, hc]; rfl) z
      | cons _ _ => rfl
    have e4 : ¬ t = ByteArray.empty := fun e => z (by rw [e]; rfl)
    clear z
    go_enter Try.func34, Try.ntmps34
    go_wp2
    go_ret
    exact ⟨rfl, rfl⟩
set_option maxHeartbeats 2000000 in
theorem stable_any (w : World) (s : SpAt) (B : Bts) (ns : List Nat) (ps : List Pg) (h : IsS w s B ns ps) (k : Nat) (hk : k < ns.length) :
    Calls Try.prog 33 #[.pointer (some ⟨s.p, 0, none⟩), .int .i64 (k : Int)] w fun e w' => e = .returned (.slice (some ⟨s.gp, bnd ns k * 2, none⟩) ns[k] ns[k]) ∧ Below w.heap.size w w' := by
  obtain ⟨c0, c1, c2⟩ := h.cells
  have b0 := h.bound k (by omega)
  have b1 := h.bound (k + 1) hk
  have h1 := bnd_succ ns k hk
  have h2 := bnd_le ns (k + 1)
  have h3 := h.sum
  have h4 := h.room
  have h5 := h.few
  have h6 := (h.each _ (List.getElem_mem hk))
  obtain ⟨n, hn⟩ : ∃ n, n = ns[k] := ⟨_, rfl⟩
  obtain ⟨x, hx⟩ : ∃ x, x = bnd ns k := ⟨_, rfl⟩
  obtain ⟨y, hy⟩ : ∃ y, y = bnd ns (k + 1) := ⟨_, rfl⟩
  obtain ⟨m, hm⟩ : ∃ m, m = ns.length := ⟨_, rfl⟩
  obtain ⟨N, hN⟩ : ∃ N, N = ps.length := ⟨_, rfl⟩
  rw [← hx] at b0 h1 ⊢
  rw [← hy] at b1 h1 h2
  rw [← hn] at h1 h6 ⊢
  rw [← hm] at c2 h5 hk
  rw [← hN] at c1 h3 h4
  rw [← h3] at h2
  have w1 : IntKind.i64.wrap ((k : Int) + 1) = ((k + 1 : Nat) : Int) := by rw [wrap_in (by omega)]; omega
  obtain ⟨k1, hk1⟩ : ∃ k1, k1 = k + 1 := ⟨_, rfl⟩
  rw [← hk1] at w1 b1
  have k1m : k1 < m + 1 := by omega
  have k1mI : (k1 : Int) < (m : Int) + 1 := by omega
  have kmI : (k : Int) < (m : Int) + 1 := by omega
  have x1 : (x : Int) ≤ (y : Int) := by omega
  have x2 : (y : Int) ≤ (s.cp : Int) := by omega
  have x3 : y - x = n := by omega
  have x4 : x ≤ y := by omega
  have x5 : y ≤ s.cp := by omega
  clear h hx hy hm hN hn hk1 h1 h2 h3 h4
  go_enter Try.func33, Try.ntmps33
  go_wp2
  go_quiet (fail)
  have HQ : Hid (Below w.heap.size w (w.drewN nq)) := below_drewN (Below.refl _ _) nq
  have c1q : (w.drewN nq).cell? ⟨s.p, 1, none⟩ = some (.slice (some ⟨s.gp, 0, none⟩) N s.cp) := c1
  generalize w.drewN nq = w2 at *
  go_wp2
  go_ret
  exact ⟨rfl, HQ.out⟩
end Go.Proofs.Ytedhefidfepclaa
