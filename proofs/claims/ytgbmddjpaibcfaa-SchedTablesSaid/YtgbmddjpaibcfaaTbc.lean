/- The document's new table, copies of both tables: what the calls return. Conditions: at most 8 partitions. -/
import Derived.Test.YtgbmddjpaibcfaaTbr
import Derived.Test.YtgbmddjpaibcfaaFrm
import Derived.Deep.RegionHeld3
namespace Go.Proofs.Ytgbmddjpaibcfaa
open Go.RowKit Go.Maps
set_option linter.unusedVariables false
set_option linter.unusedSimpArgs false

theorem Try.info4 : (Try.prog.info? 4).map (fun i => (i.zero, i.size, i.bytes)) = some (some (.bool false), 1, 1) := by kernel_rfl
theorem Try.info3 : (Try.prog.info? 3).map (fun i => (i.zero, i.size, i.bytes)) = some (some (.int .i64 0), 1, 8) := by kernel_rfl
theorem made1 (v : Value) (h : v.cells = #[v]) (n j : Nat) (hj : j < n) : (madeCells v.cells (n * 1))[j]? = some v := by
  unfold madeCells
  rw [h, Array.getElem?_map, Array.getElem?_range, if_pos (by omega)]
  simp only [Option.map_some, List.size_toArray, List.length_cons, List.length_nil, Nat.zero_add, Nat.mod_one]
  rfl
theorem own_row1 {w : World} {b g t n : Nat} {v : Value} (h : w.ownsRow b t 1 (.slice (some ⟨g, 0, none⟩) n n) n (madeCells v.cells (n * 1)).toList) (hv : v.cells = #[v]) : ∃ cur : Array Value, w.heap[g]? = some (.cells cur t (0, 0)) ∧ ∀ j, j < n → cur[j]? = some v := by
  rcases h.2 with ⟨e, _⟩ | ⟨g', c', cur, e, _, hg, _, _, hcs, htk⟩
  · cases e
  · injection e with e e6 e7
    injection e with e
    injection e with e _
    subst e
    refine ⟨cur, hg, fun j hj => ?_⟩
    have := made1 v hv n j hj
    rw [← Array.getElem?_toList, ← htk, List.getElem?_take, if_pos (by omega), Array.getElem?_toList] at this
    exact this
/-- what the document's new table leaves -/
def RtP (w : World) (ss : List Stt) (e : Ending) (w' : World) : Prop := ∃ q r s, e = .returned (.tuple #[.pointer (some ⟨q, 0, none⟩), .int .i64 0]) ∧ IsR w' q r s ss ∧ w.heap.size ≤ q ∧ w.heap.size ≤ r ∧ w.heap.size ≤ s ∧ Below w.heap.size w w'
theorem rep_get (n j : Nat) : (List.replicate n s00).getD j s00 = s00 := by rw [List.getD_eq_getElem?_getD, List.getElem?_replicate]; split <;> rfl
theorem rtab_end {w w2 w3 : World} {n r s : Nat} (hb : Below w.heap.size w w3) (hr : ∃ cur : Array Value, w3.heap[r]? = some (.cells cur 4 (0, 0)) ∧ ∀ j, j < n → cur[j]? = some (.bool false)) (hs : ∃ cur : Array Value, w3.heap[s]? = some (.cells cur 3 (0, 0)) ∧ ∀ j, j < n → cur[j]? = some (.int .i64 0)) (h1 : w.heap.size ≤ r) (h2 : w.heap.size ≤ s) :
    RtP w (List.replicate n s00) (.returned (.tuple #[.pointer (some ⟨w3.heap.size, 0, none⟩), .int .i64 0])) (w3.alloc (.cells #[.slice (some ⟨r, 0, none⟩) n n, .slice (some ⟨s, 0, none⟩) n n] 81)) := by
  obtain ⟨cr, a1, a2⟩ := hr
  obtain ⟨cs, b1, b2⟩ := hs
  refine ⟨_, r, s, rfl, ⟨⟨n, n, by rw [List.length_replicate]; exact block_new _ _⟩, ⟨cr, block_alloc a1 _, fun j hj => ?_⟩, ⟨cs, block_alloc b1 _, fun j hj => ?_⟩⟩, hb.size, h1, h2, hb.alloc hb.size _⟩
  · rw [List.length_replicate] at hj
    rw [rep_get]; exact a2 j hj
  · rw [List.length_replicate] at hj
    rw [rep_get]; exact b2 j hj
set_option maxRecDepth 20000 in
set_option maxHeartbeats 2000000 in
theorem rtab_any (w : World) (n : Nat) (hn : n ≤ 8) : Calls Try.prog 20 #[.int .i64 (n : Int)] w (RtP w (List.replicate n s00)) := by
  obtain ⟨i4, hi, hz0, hz1, hz2⟩ := info_parts Try.info4
  obtain ⟨i3, ki, kz0, kz1, kz2⟩ := info_parts Try.info3
  have mk4 := fun (W : World) (hW : w.heap.size ≤ W.heap.size) => run_makeSlice_full (P := Try.prog) (w := W) w.heap.size 78 4 i4 (.bool false) 1 Try.underlying78 hi hz0 hz1 .i64 .i64 n (by omega) (by rw [hz2]; omega) (by unfold maxLen; omega) hW
  have mk3 := fun (W : World) (hW : w.heap.size ≤ W.heap.size) => run_makeSlice_full (P := Try.prog) (w := W) w.heap.size 79 3 i3 (.int .i64 0) 1 Try.underlying79 ki kz0 kz1 .i64 .i64 n (by omega) (by rw [kz2]; omega) (by unfold maxLen; omega) hW
  have hd : Below w.heap.size w w.drew := ⟨rfl, rfl, rfl, Nat.le_refl _, fun _ _ => rfl⟩
  obtain ⟨wa, ra, oa, ga⟩ := mk4 w.drew hd.size
  have hba : Below w.heap.size w wa := hd.grown ga hd.size (fun k e => by cases e)
  obtain ⟨wb, rb, ob, gb⟩ := mk3 wa hba.size
  have hbb : Below w.heap.size w wb := hba.grown gb hba.size (fun k e => by cases e)
  obtain ⟨wc, rc, oc, gc⟩ := mk3 w.drew hd.size
  have hbc : Below w.heap.size w wc := hd.grown gc hd.size (fun k e => by cases e)
  obtain ⟨wd, rd, od, gd⟩ := mk4 wc hbc.size
  have hbd : Below w.heap.size w wd := hbc.grown gd hbc.size (fun k e => by cases e)
  have A4 := own_row1 oa rfl
  have B3 := own_row1 ob rfl
  have C3 := own_row1 oc rfl
  have D4 := own_row1 od rfl
  have A4' : ∃ cur : Array Value, wb.heap[w.heap.size]? = some (.cells cur 4 (0, 0)) ∧ ∀ j, j < n → cur[j]? = some (.bool false) := by
    obtain ⟨cur, h1, h2⟩ := A4
    exact ⟨cur, (gb.block _ (block_lt h1) (by intro e; cases e)).trans h1, h2⟩
  have C3' : ∃ cur : Array Value, wd.heap[w.heap.size]? = some (.cells cur 3 (0, 0)) ∧ ∀ j, j < n → cur[j]? = some (.int .i64 0) := by
    obtain ⟨cur, h1, h2⟩ := C3
    exact ⟨cur, (gd.block _ (block_lt h1) (by intro e; cases e)).trans h1, h2⟩
  have E1 := Lib.hid (rtab_end (w2 := w) hbb A4' B3 (Nat.le_refl _) hba.size)
  have E2 := Lib.hid (rtab_end (w2 := w) hbd D4 C3' hbc.size (Nat.le_refl _))
  have n1 : ¬ (n : Int) < 0 := by omega
  have n2 : ¬ (8 : Int) < (n : Int) := by omega
  clear mk4 mk3 hd oa ga hba ob gb hbb oc gc hbc od gd hbd A4 B3 C3 D4 A4' C3' hi hz0 hz1 hz2 ki kz0 kz1 kz2
  go_enter Try.func20, Try.ntmps20
  go_wp2
  go_region
  all_goals go_wp2
  all_goals go_ret2
  all_goals first | exact E1.out | exact E2.out
/-- 'append(T{}, x...)': a new row that has x's cells -/
theorem app_new {W : World} {base b : Nat} (sl e : TypeId) (i : TypeInfo) (z : Value) (size bytes : Nat) (ht : Try.prog.underlying sl = some (.slice e)) (hi : Try.prog.info? e = some i) (hz : i.zero = some z) (hsize : i.size = size) (hby : i.bytes = bytes) (hzs : z.cells.size = size) (hsz : 0 < size)
    (hb : W.heap[b]? = some (.cells #[] e (0, 0))) (hbase : base ≤ b) (a : Addr) (n c : Nat) (news : List Value) (hl : news.length = n * size) (hnews : ∀ j u, news[j]? = some u → W.cell? (a.add j) = some u) (h1 : ∀ u ∈ news, u.oneCell' = true) (hn : n ≤ 8) (hb16 : bytes ≤ 16) :
    ∃ r c' W', (Builtin.append_ #[sl, sl] sl #[.slice (some ⟨b, 0, none⟩) 0 0, .slice (some a) n c]).run Try.prog W = .ok (.slice (some ⟨r, 0, none⟩) n c') W' ∧ (∃ cur : Array Value, W'.heap[r]? = some (.cells cur e (0, 0)) ∧ ∀ (j : Nat) (u : Value), news[j]? = some u → cur[j]? = some u) ∧ W.grownBy W' (some b) ∧ base ≤ r := by
  have ho : W.ownsRow base e size (.slice (some ⟨b, 0, none⟩) 0 0) 0 [] := ⟨by simp, .inr ⟨b, 0, #[], rfl, hbase, hb, Nat.le_refl _, Nat.zero_le _, by simp, by simp⟩⟩
  have hlt := block_lt hb
  have hnb : n * bytes ≤ 8 * 16 := Nat.mul_le_mul hn hb16
  obtain ⟨v', W', hrun, hown, hgr, hnn, _⟩ := run_append_own_at (P := Try.prog) (w := W) base sl sl e i z size bytes ht hi hz hsize hby hzs hsz _ 0 [] ho a n c news hl hnews h1 (by unfold maxLen; omega) (by rw [Nat.zero_add]; omega) (by omega)
  rw [Nat.zero_add, List.nil_append] at hown
  rcases hown.2 with ⟨e1, _⟩ | ⟨g', c', cur, e1, hb1, hg', _, _, hcs, htk⟩
  · rw [e1] at hnn; simp at hnn
  · subst e1
    refine ⟨g', c', W', hrun, ⟨cur, hg', fun j u hu => ?_⟩, hgr, hb1⟩
    rw [← htk, List.getElem?_take] at hu
    split at hu
    · rw [← Array.getElem?_toList]; exact hu
    · cases hu
def bC (ss : List Stt) : List Value := ss.map fun s => .bool s.1
def nC (ss : List Stt) : List Value := ss.map fun s => .int .i64 (s.2 : Int)
theorem bC_get {ss : List Stt} {j : Nat} (h : j < ss.length) : (bC ss)[j]? = some (.bool (ss.getD j s00).1) := by
  unfold bC; rw [List.getElem?_map, List.getElem?_eq_getElem h, List.getD_eq_getElem?_getD, List.getElem?_eq_getElem h]; rfl
theorem nC_get {ss : List Stt} {j : Nat} (h : j < ss.length) : (nC ss)[j]? = some (.int .i64 ((ss.getD j s00).2 : Int)) := by
  unfold nC; rw [List.getElem?_map, List.getElem?_eq_getElem h, List.getD_eq_getElem?_getD, List.getElem?_eq_getElem h]; rfl
theorem IsR.srcB {w : World} {q r s : Nat} {ss : List Stt} (h : IsR w q r s ss) : ∀ j u, (bC ss)[j]? = some u → w.cell? ((⟨r, 0, none⟩ : Addr).add j) = some u := by
  intro j u hu
  have hj : j < ss.length := by
    rcases Nat.lt_or_ge j ss.length with h | h
    · exact h
    · rw [List.getElem?_eq_none (by unfold bC; rw [List.length_map]; exact h)] at hu; cases hu
  rw [bC_get hj] at hu
  rw [addr_at, Nat.zero_add, (h.at hj).1]; exact hu
theorem IsR.srcN {w : World} {q r s : Nat} {ss : List Stt} (h : IsR w q r s ss) : ∀ j u, (nC ss)[j]? = some u → w.cell? ((⟨s, 0, none⟩ : Addr).add j) = some u := by
  intro j u hu
  have hj : j < ss.length := by
    rcases Nat.lt_or_ge j ss.length with h | h
    · exact h
    · rw [List.getElem?_eq_none (by unfold nC; rw [List.length_map]; exact h)] at hu; cases hu
  rw [nC_get hj] at hu
  rw [addr_at, Nat.zero_add, (h.at hj).2.1]; exact hu
/-- what the document's copy leaves -/
def RcP (w : World) (ss : List Stt) (e : Ending) (w' : World) : Prop := ∃ q r s, e = .returned (.pointer (some ⟨q, 0, none⟩)) ∧ IsR w' q r s ss ∧ w.heap.size ≤ q ∧ w.heap.size ≤ r ∧ w.heap.size ≤ s ∧ Below w.heap.size w w'
theorem rcop_end {w w3 : World} {ss : List Stt} {n r s c1 c2 : Nat} (hn : n = ss.length) (hb : Below w.heap.size w w3) (hr : ∃ cur : Array Value, w3.heap[r]? = some (.cells cur 4 (0, 0)) ∧ ∀ (j : Nat) (u : Value), (bC ss)[j]? = some u → cur[j]? = some u) (hs : ∃ cur : Array Value, w3.heap[s]? = some (.cells cur 3 (0, 0)) ∧ ∀ (j : Nat) (u : Value), (nC ss)[j]? = some u → cur[j]? = some u) (h1 : w.heap.size ≤ r) (h2 : w.heap.size ≤ s) :
    RcP w ss (.returned (.pointer (some ⟨w3.heap.size, 0, none⟩))) (w3.alloc (.cells #[.slice (some ⟨r, 0, none⟩) n c1, .slice (some ⟨s, 0, none⟩) n c2] 81)) := by
  obtain ⟨cr, a1, a2⟩ := hr
  obtain ⟨cs, b1, b2⟩ := hs
  exact ⟨_, r, s, rfl, ⟨⟨c1, c2, by rw [hn]; exact block_new _ _⟩, ⟨cr, block_alloc a1 _, fun j hj => a2 j _ (bC_get hj)⟩, ⟨cs, block_alloc b1 _, fun j hj => b2 j _ (nC_get hj)⟩⟩, hb.size, h1, h2, hb.alloc hb.size _⟩
theorem step_append_run {P : Program} {ops : Array Oper} {o : Oper} {a : Act} {w : World} {K : Act → World → Prop} {Q : Exit → Act → World → Prop} {E : Prop} (hgd : o.guard = none) (s x : Operand) (t : TypeId)
    (ho : o.op = .call { callee := .builtin .append, args := #[s, x], argTypes := #[t, t] }) (v sx v' : Value) (w' : World) (hs : a.eval s = v) (hx : a.eval x = sx)
    (hr : (Builtin.append_ #[t, t] o.type #[v, sx]).run P w = .ok v' w') (h : K (a.put o.dst v') w') :
    if Region.wanted o (yielded ops a.tmps) = true then Oper.wp P o a w K Q else E := by
  have hw : Region.wanted o (yielded ops a.tmps) = true := by simp [Region.wanted, hgd]
  rw [if_pos hw]
  unfold Oper.wp execOp
  simp only [ho, resolve, invoke, builtin, Sem.run_bind, Sem.run_pure, Result.andThen_ok, List.map_toArray, List.map_cons, List.map_nil, hs, hx, hr]
  exact h
/-- the two appends, whatever lies in between -/
theorem two_app {w WA : World} {q r s : Nat} {ss : List Stt} (h : IsR w q r s ss) (h8 : ss.length ≤ 8) {b1 c1 c2 : Nat} (hWA : Below w.heap.size w WA) (h1 : w.heap.size ≤ b1) (e1 : WA.heap[b1]? = some (.cells #[] 4 (0, 0))) :
    ∃ r' c' WB, (Builtin.append_ #[78, 78] 78 #[.slice (some ⟨b1, 0, none⟩) 0 0, .slice (some ⟨r, 0, none⟩) ss.length c1]).run Try.prog WA = .ok (.slice (some ⟨r', 0, none⟩) ss.length c') WB ∧ (∃ cur : Array Value, WB.heap[r']? = some (.cells cur 4 (0, 0)) ∧ ∀ (j : Nat) (u : Value), (bC ss)[j]? = some u → cur[j]? = some u) ∧ WA.grownBy WB (some b1) ∧ w.heap.size ≤ r' ∧ Below w.heap.size w WB := by
  obtain ⟨i4, hi, hz0, hz1, hz2⟩ := info_parts Try.info4
  obtain ⟨r', c', WB, hrun, hrow, hgr, hb⟩ := app_new (W := WA) (base := w.heap.size) (b := b1) 78 4 i4 (.bool false) 1 1 Try.underlying78 hi hz0 hz1 hz2 rfl (by decide) e1 h1 ⟨r, 0, none⟩ ss.length c1 (bC ss) (by unfold bC; rw [List.length_map, Nat.mul_one]) (h.below hWA).srcB (by intro u hu; unfold bC at hu; obtain ⟨x, _, rfl⟩ := List.mem_map.1 hu; rfl) h8 (by decide)
  exact ⟨r', c', WB, hrun, hrow, hgr, hb, hWA.grown hgr hWA.size (fun k e => by injection e with e; omega)⟩
theorem two_appN {w WA : World} {q r s : Nat} {ss : List Stt} (h : IsR w q r s ss) (h8 : ss.length ≤ 8) {b1 c1 : Nat} (hWA : Below w.heap.size w WA) (h1 : w.heap.size ≤ b1) (e1 : WA.heap[b1]? = some (.cells #[] 3 (0, 0))) :
    ∃ r' c' WB, (Builtin.append_ #[79, 79] 79 #[.slice (some ⟨b1, 0, none⟩) 0 0, .slice (some ⟨s, 0, none⟩) ss.length c1]).run Try.prog WA = .ok (.slice (some ⟨r', 0, none⟩) ss.length c') WB ∧ (∃ cur : Array Value, WB.heap[r']? = some (.cells cur 3 (0, 0)) ∧ ∀ (j : Nat) (u : Value), (nC ss)[j]? = some u → cur[j]? = some u) ∧ WA.grownBy WB (some b1) ∧ w.heap.size ≤ r' ∧ Below w.heap.size w WB := by
  obtain ⟨i4, hi, hz0, hz1, hz2⟩ := info_parts Try.info3
  obtain ⟨r', c', WB, hrun, hrow, hgr, hb⟩ := app_new (W := WA) (base := w.heap.size) (b := b1) 79 3 i4 (.int .i64 0) 1 8 Try.underlying79 hi hz0 hz1 hz2 rfl (by decide) e1 h1 ⟨s, 0, none⟩ ss.length c1 (nC ss) (by unfold nC; rw [List.length_map, Nat.mul_one]) (h.below hWA).srcN (by intro u hu; unfold nC at hu; obtain ⟨x, _, rfl⟩ := List.mem_map.1 hu; rfl) h8 (by decide)
  exact ⟨r', c', WB, hrun, hrow, hgr, hb, hWA.grown hgr hWA.size (fun k e => by injection e with e; omega)⟩
set_option maxRecDepth 20000 in
set_option maxHeartbeats 4000000 in
theorem rcop_any (w : World) (q r s : Nat) (ss : List Stt) (h : IsR w q r s ss) (h8 : ss.length ≤ 8) : Calls Try.prog 27 #[.pointer (some ⟨q, 0, none⟩)] w (RcP w ss) := by
  obtain ⟨c1, c2, x0, x1⟩ := h.cells
  have hd : Below w.heap.size w w.drew := ⟨rfl, rfl, rfl, Nat.le_refl _, fun _ _ => rfl⟩
  have hS : w.drew.heap.size = w.heap.size := rfl
  -- first order: both rows made, then both appends
  obtain ⟨wa, hwa⟩ : ∃ wa, wa = ((w.alloc (.cells #[] 4)).alloc (.cells #[] 3)).drew := ⟨_, rfl⟩
  have a1 : wa.heap[w.heap.size]? = some (.cells #[] 4 (0, 0)) := by rw [hwa]; exact block_alloc (block_new w _) _
  have a2 : wa.heap[w.heap.size + 1]? = some (.cells #[] 3 (0, 0)) := by
    have := block_new (w.alloc (.cells #[] 4)) (.cells #[] 3)
    rw [World.size_alloc] at this; rw [hwa]; exact this
  have a3 : Below w.heap.size w wa := by rw [hwa]; exact below_drew (((Below.refl _ w).alloc (Nat.le_refl _) _).alloc (by simp) _)
  obtain ⟨ra, ca, wa1, runA1, rowA1, grA1, hA1, bA1⟩ := two_app (c1 := c1) (c2 := c2) h h8 a3 (Nat.le_refl _) a1
  have a4 : wa1.heap[w.heap.size + 1]? = some (.cells #[] 3 (0, 0)) := (grA1.block _ (block_lt a2) (by intro e; injection e with e; omega)).trans a2
  obtain ⟨sa, da, wa2, runA2, rowA2, grA2, hA2, bA2⟩ := two_appN (b1 := w.heap.size + 1) (c1 := c2) h h8 bA1 (Nat.le_succ _) a4
  have rowA1' : ∃ cur : Array Value, wa2.heap[ra]? = some (.cells cur 4 (0, 0)) ∧ ∀ (j : Nat) (u : Value), (bC ss)[j]? = some u → cur[j]? = some u := by
    obtain ⟨cur, z1, z2⟩ := rowA1
    exact ⟨cur, (grA2.block _ (block_lt z1) (by intro e; injection e with e; subst e; rw [a4] at z1; cases z1)).trans z1, z2⟩
  have EA := Lib.hid (rcop_end (c1 := ca) (c2 := da) rfl bA2 rowA1' rowA2 hA1 hA2)
  -- second order: the rows made the other way
  obtain ⟨wb, hwb⟩ : ∃ wb, wb = ((w.alloc (.cells #[] 3)).alloc (.cells #[] 4)).drew := ⟨_, rfl⟩
  have b1 : wb.heap[w.heap.size]? = some (.cells #[] 3 (0, 0)) := by rw [hwb]; exact block_alloc (block_new w _) _
  have b2 : wb.heap[w.heap.size + 1]? = some (.cells #[] 4 (0, 0)) := by
    have := block_new (w.alloc (.cells #[] 3)) (.cells #[] 4)
    rw [World.size_alloc] at this; rw [hwb]; exact this
  have b3 : Below w.heap.size w wb := by rw [hwb]; exact below_drew (((Below.refl _ w).alloc (Nat.le_refl _) _).alloc (by simp) _)
  obtain ⟨rb, cb, wb1, runB1, rowB1, grB1, hB1, bB1⟩ := two_app (b1 := w.heap.size + 1) (c1 := c1) (c2 := c2) h h8 b3 (Nat.le_succ _) b2
  have b4 : wb1.heap[w.heap.size]? = some (.cells #[] 3 (0, 0)) := (grB1.block _ (block_lt b1) (by intro e; injection e with e; omega)).trans b1
  obtain ⟨sb, db, wb2, runB2, rowB2, grB2, hB2, bB2⟩ := two_appN (c1 := c2) h h8 bB1 (Nat.le_refl _) b4
  have rowB1' : ∃ cur : Array Value, wb2.heap[rb]? = some (.cells cur 4 (0, 0)) ∧ ∀ (j : Nat) (u : Value), (bC ss)[j]? = some u → cur[j]? = some u := by
    obtain ⟨cur, z1, z2⟩ := rowB1
    exact ⟨cur, (grB2.block _ (block_lt z1) (by intro e; injection e with e; subst e; rw [b4] at z1; cases z1)).trans z1, z2⟩
  have EB := Lib.hid (rcop_end (c1 := cb) (c2 := db) rfl bB2 rowB1' rowB2 hB1 hB2)
  -- third order: one after the other
  obtain ⟨wc, hwc⟩ : ∃ wc, wc = (w.alloc (.cells #[] 4)).drew := ⟨_, rfl⟩
  have d1 : wc.heap[w.heap.size]? = some (.cells #[] 4 (0, 0)) := by rw [hwc]; exact block_new w _
  have d3 : Below w.heap.size w wc := by rw [hwc]; exact below_drew ((Below.refl _ w).alloc (Nat.le_refl _) _)
  obtain ⟨rc, cc, wc1, runC1, rowC1, grC1, hC1, bC1⟩ := two_app (c1 := c1) (c2 := c2) h h8 d3 (Nat.le_refl _) d1
  have bC2 : Below w.heap.size w (wc1.alloc (.cells #[] 3)) := bC1.alloc bC1.size _
  obtain ⟨sc, dc, wc2, runC2, rowC2, grC2, hC2, bC3⟩ := two_appN (c1 := c2) h h8 bC2 bC1.size (block_new wc1 _)
  have rowC1' : ∃ cur : Array Value, wc2.heap[rc]? = some (.cells cur 4 (0, 0)) ∧ ∀ (j : Nat) (u : Value), (bC ss)[j]? = some u → cur[j]? = some u := by
    obtain ⟨cur, z1, z2⟩ := rowC1
    exact ⟨cur, (grC2.block _ (block_lt (block_alloc z1 _)) (by intro e; injection e with e; have := block_lt z1; omega)).trans (block_alloc z1 _), z2⟩
  have EC := Lib.hid (rcop_end (c1 := cc) (c2 := dc) rfl bC3 rowC1' rowC2 hC1 hC2)
  rw [hwa] at runA1
  rw [hwb] at runB1
  rw [hwc] at runC1
  have PC : ∀ W, Below w.heap.size w W → W.cell? ⟨q, 0, none⟩ = some (.slice (some ⟨r, 0, none⟩) ss.length c1) ∧ W.cell? ⟨q, 1, none⟩ = some (.slice (some ⟨s, 0, none⟩) ss.length c2) := fun W hW => ⟨cell_below x0 hW, cell_below x1 hW⟩
  have hS0 := PC _ hd
  have hS1 := PC _ (below_drew ((Below.refl _ w).alloc (Nat.le_refl _) (.cells #[] 4)))
  have hS2 := PC _ (below_drew ((Below.refl _ w).alloc (Nat.le_refl _) (.cells #[] 3)))
  have hS3 := PC _ a3
  have hS4 := PC _ b3
  have hS5 := PC _ bA1
  have hS6 := PC _ bB1
  have hS7 := PC _ bC1
  have hS8 := PC _ bC2
  have hS9 := PC _ bA2
  have hS10 := PC _ bB2
  have hS11 := PC _ bC3
  have hS12 := PC _ (bA2.alloc bA2.size (.cells #[.slice (some ⟨ra, 0, none⟩) ss.length ca, .slice (some ⟨sa, 0, none⟩) ss.length da] 81))
  have hS13 := PC _ (bB2.alloc bB2.size (.cells #[.slice (some ⟨rb, 0, none⟩) ss.length cb, .slice (some ⟨sb, 0, none⟩) ss.length db] 81))
  have hS14 := PC _ (bC3.alloc bC3.size (.cells #[.slice (some ⟨rc, 0, none⟩) ss.length cc, .slice (some ⟨sc, 0, none⟩) ss.length dc] 81))
  rw [hwa] at hS3
  rw [hwb] at hS4
  generalize ss.length = n at *
  clear PC x0 x1 h h8 hd hS hwa a1 a2 a3 rowA1 grA1 hA1 bA1 a4 rowA2 grA2 hA2 bA2 rowA1' hwb b1 b2 b3 rowB1 grB1 hB1 bB1 b4 rowB2 grB2 hB2 bB2 rowB1' hwc d1 d3 rowC1 grC1 hC1 bC1 bC2 rowC2 grC2 hC2 bC3 rowC1'
  go_enter Try.func27, Try.ntmps27
  go_wp2
  go_region_held3 (fun W => W.cell? ⟨q, 0, none⟩ = some (.slice (some ⟨r, 0, none⟩) n c1) ∧ W.cell? ⟨q, 1, none⟩ = some (.slice (some ⟨s, 0, none⟩) n c2)) (with_reducible first | exact hS0 | exact hS1 | exact hS2 | exact hS3 | exact hS4 | exact hS5 | exact hS6 | exact hS7 | exact hS8 | exact hS9 | exact hS10 | exact hS11 | exact hS12 | exact hS13 | exact hS14) (first | ((with_reducible refine step_append_run ?_ (.tmp 3) (.tmp 7) 78 ?_ _ _ _ wa1 ?_ ?_ runA1 ?_); rfl; rfl; rfl; rfl) | ((with_reducible refine step_append_run ?_ (.tmp 3) (.tmp 7) 78 ?_ _ _ _ wb1 ?_ ?_ runB1 ?_); rfl; rfl; rfl; rfl) | ((with_reducible refine step_append_run ?_ (.tmp 3) (.tmp 7) 78 ?_ _ _ _ wc1 ?_ ?_ runC1 ?_); rfl; rfl; rfl; rfl) | ((with_reducible refine step_append_run ?_ (.tmp 9) (.tmp 13) 79 ?_ _ _ _ wa2 ?_ ?_ runA2 ?_); rfl; rfl; rfl; rfl) | ((with_reducible refine step_append_run ?_ (.tmp 9) (.tmp 13) 79 ?_ _ _ _ wb2 ?_ ?_ runB2 ?_); rfl; rfl; rfl; rfl) | ((with_reducible refine step_append_run ?_ (.tmp 9) (.tmp 13) 79 ?_ _ _ _ wc2 ?_ ?_ runC2 ?_); rfl; rfl; rfl; rfl))
  all_goals go_wp2
  all_goals go_ret
  all_goals first | exact EA.out | exact EB.out | exact EC.out
end Go.Proofs.Ytgbmddjpaibcfaa
