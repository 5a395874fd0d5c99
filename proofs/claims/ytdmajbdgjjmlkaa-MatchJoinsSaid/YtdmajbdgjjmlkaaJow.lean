/- Two expressions joined: the law's walk. Conditions: the expressions lie in memory, their sets' numbers are of 64 bits. -/
import Derived.Test.YtdmajbdgjjmlkaaJop
import Derived.Deep.DeepCutAuto
import Derived.Deep.CutRange
import Derived.Deep.Cut
import Derived.Deep.RegionLaw
import Derived.Deep.RegionHeld3
namespace Go.Proofs.Ytdmajbdgjjmlkaa
open Go.RowKit
set_option linter.unusedVariables false
set_option linter.unusedSimpArgs false

/-- block Q holds these cells -/
def Hld (W : World) (Q : Nat) (O : Obj) : Prop := W.heap[Q]? = some O
theorem Hld.new {W : World} {Q : Nat} {C : Array Value} {t : TypeId} (h : Q = W.heap.size) : Hld (W.alloc (.cells C t)) Q (.cells C t (0, 0)) := by subst h; exact heap_alloc_new W _
theorem Hld.new0 {W : World} {C : Array Value} {t : TypeId} : Hld (W.alloc (.cells C t)) W.heap.size (.cells C t (0, 0)) := Hld.new rfl
theorem Hld.new1 {W : World} {o : Obj} {C : Array Value} {t : TypeId} : Hld ((W.alloc o).alloc (.cells C t)) (W.heap.size + 1) (.cells C t (0, 0)) := Hld.new (by simp)
theorem Hld.new2 {W : World} {o o2 : Obj} {C : Array Value} {t : TypeId} : Hld (((W.alloc o).alloc o2).alloc (.cells C t)) (W.heap.size + 1 + 1) (.cells C t (0, 0)) := Hld.new (by simp)
theorem Hld.alloc {W : World} {Q : Nat} {O o : Obj} (h : Hld W Q O) : Hld (W.alloc o) Q O := by unfold Hld; rw [Below.heap_alloc _ _ _ (block_lt' h)]; exact h
theorem Hld.drew {W : World} {Q : Nat} {O : Obj} (h : Hld W Q O) : Hld W.drew Q O := h
theorem Hld.keep {W W' : World} {Q : Nat} {O : Obj} (hb : Hid (Below W.heap.size W W')) (h : Hld W Q O) : Hld W' Q O := (hb.out.block Q (block_lt' h)).trans h
/-- a machine of the expression, or none -/
def Has (B : Nat) (T : Rx) (v : Value) (W : World) : Prop := (checkR T ≠ 0 ∧ v = .pointer none) ∨ (checkR T = 0 ∧ ∃ p, v = .pointer (some ⟨p, 0, none⟩) ∧ IsM B p (macR T) W ∧ Mok (macR T))
theorem Has.below {B : Nat} {T : Rx} {v : Value} {W W' : World} (h : Has B T v W) (hb : Below W.heap.size W W') : Has B T v W' := by
  rcases h with h | ⟨h, p, e, a, b⟩
  · exact .inl h
  · exact .inr ⟨h, p, e, a.of_below hb, b⟩
theorem Has.alloc {B : Nat} {T : Rx} {v : Value} {W : World} {o : Obj} (h : Has B T v W) : Has B T v (W.alloc o) := h.below (below_new W o)
theorem Has.drew {B : Nat} {T : Rx} {v : Value} {W : World} (h : Has B T v W) : Has B T v W.drew := h.below (Below.refl _ W).drew
theorem Has.keep {B : Nat} {T : Rx} {v : Value} {W W' : World} (hb : Hid (Below W.heap.size W W')) (h : Has B T v W) : Has B T v W' := h.below hb.out
theorem Has.ptr {B : Nat} {T : Rx} {v : Value} {W : World} (h : Has B T v W) : ∃ po, v = .pointer po := by
  rcases h with ⟨_, e⟩ | ⟨_, p, e, _⟩ <;> exact ⟨_, e⟩
theorem Has.some {B : Nat} {T : Rx} {p : Addr} {W : World} (h : Has B T (.pointer (some p)) W) : checkR T = 0 ∧ IsM B p.block (macR T) W ∧ Mok (macR T) ∧ p = ⟨p.block, 0, none⟩ := by
  rcases h with ⟨_, e⟩ | ⟨h, q, e, a, b⟩
  · cases e
  · injection e with e; injection e with e; subst e; exact ⟨h, a, b, rfl⟩
theorem lies_two {w : World} {a b : Rx} {sa sb : Value} {Q : Nat} {C : Array Value} (ha : LiesL (fun _ => True) w sa a.list) (hb : LiesL (fun _ => True) w sb b.list) (hQ : w.heap[Q]? = Option.some (.cells C 26 (0, 0))) (hC : C = a.cells sa ++ b.cells sb) :
    LiesL (fun _ => True) w (.slice (Option.some ⟨Q, 0, none⟩) 2 2) [a, b] := by
  have h8 : (a.cells sa).size = 8 := by obtain ⟨k, mn, mx, s0, s1, s2, s3, l⟩ := a; rfl
  have := LiesL.mk (ok := fun _ => True) (w := w) (Option.some ⟨Q, 0, none⟩) 2 [a, b] (fun i => if i = 0 then sa else sb) (by simp) (fun i hi => by
    have : i = 0 ∨ i = 1 := by simp at hi; omega
    rcases this with rfl | rfl
    · refine ⟨_, rfl, trivial, block_lt' hQ, fun j u hu => ?_⟩
      have hj := (Array.getElem?_eq_some_iff.1 hu).1
      rw [add0, Nat.zero_mul, Nat.zero_add]
      refine cell_at hQ ?_
      have hu' : (a.cells sa)[j]? = Option.some u := hu
      rw [hC, Array.getElem?_append_left (Array.getElem?_eq_some_iff.1 hu').1]
      exact hu'
    · refine ⟨_, rfl, trivial, block_lt' hQ, fun j u hu => ?_⟩
      rw [add0]
      refine cell_at hQ ?_
      have hu' : (b.cells sb)[j]? = Option.some u := hu
      rw [hC, Array.getElem?_append_right (by omega), h8, show 1 * 8 + j - 8 = j by omega]
      exact hu') (fun i hi => by
    have : i = 0 ∨ i = 1 := by simp at hi; omega
    rcases this with rfl | rfl
    · exact ha
    · exact hb)
  exact this
theorem lies_1 {w : World} {a : Rx} {sa : Value} {Q : Nat} (ha : LiesL (fun _ => True) w sa a.list) (hQ : w.heap[Q]? = Option.some (.cells (a.cells sa) 26 (0, 0))) : LiesL (fun _ => True) w (.slice (Option.some ⟨Q, 0, none⟩) 1 1) [a] :=
  LiesL.mk (ok := fun _ => True) (w := w) (Option.some ⟨Q, 0, none⟩) 1 [a] (fun _ => sa) (by simp) (fun i hi => by
    have : i = 0 := by simpa using hi
    subst this
    refine ⟨_, rfl, trivial, block_lt' hQ, fun j u hu => ?_⟩
    rw [add0, Nat.zero_mul, Nat.zero_add]
    exact cell_at hQ hu) (fun i hi => by
    have : i = 0 := by simpa using hi
    subst this
    exact ha)
theorem fits_has {B : Nat} {ok : Nat → Prop} (w : World) (hB : B ≤ w.heap.size) (t : Rx) (v : Value) (hl : LiesL ok w v t.list) (hok : okR t) : Calls Try.prog 25 #[t.val v] w fun e w' => ∃ po, e = .returned (.pointer po) ∧ Hid (Has B t (.pointer po) w') ∧ Hid (Below w.heap.size w w') :=
  (fits_any w t v hl hok).mono fun e w' h => by
    obtain ⟨h1, ⟨h2, rfl⟩ | ⟨h2, p, rfl, h4, h5⟩⟩ := h
    · exact ⟨none, rfl, Lib.hid (.inl ⟨h2, rfl⟩), Lib.hid h1⟩
    · exact ⟨Option.some ⟨p, 0, none⟩, rfl, Lib.hid (.inr ⟨h2, p, rfl, h4.mono hB, h5⟩), Lib.hid h1⟩
theorem in_has {B : Nat} {T : Rx} {p : Addr} {w : World} (h : Has B T (.pointer (Option.some p)) w) (s : ByteArray) : Calls Try.prog 26 #[.pointer (Option.some p), .string s] w fun e w' => e = .returned (.bool ((macR T).inB s.data.toList)) ∧ Hid (Below w.heap.size w w') := by
  obtain ⟨_, h1, h2, h3⟩ := h.some
  rw [h3]
  exact (in_any B p.block _ w h1 h2 s).mono fun e w' g => ⟨g.1, Lib.hid g.2⟩
set_option maxRecDepth 100000 in
set_option maxHeartbeats 40000000 in
theorem joins_walk (ta tb : Rx) (sa sb : Value) (s : ByteArray) (w : World) (hla : LiesL (fun _ => True) w sa ta.list) (hlb : LiesL (fun _ => True) w sb tb.list) (oka : okR ta) (okb : okR tb) :
    Calls Try.prog 6 #[ta.val sa, tb.val sb, .string s] w fun e w' => e = .returned (.bool true) ∧ Below w.heap.size w w' := by
  obtain ⟨oa, ca, rfl⟩ := hla.value
  obtain ⟨ob, cb, rfl⟩ := hlb.value
  obtain ⟨B, hB⟩ : ∃ B, B = w.heap.size := ⟨_, rfl⟩
  obtain ⟨Ta, hTa⟩ : ∃ t, t = ta := ⟨_, rfl⟩
  obtain ⟨Tb, hTb⟩ : ∃ t, t = tb := ⟨_, rfl⟩
  have LA : Hid (∀ w1, Below B w w1 → LiesL (fun _ => True) w1 (.slice oa ta.list.length ca) ta.list) := Lib.hid fun w1 hb => hla.stay (by rw [← hB]; exact hb)
  have LB : Hid (∀ w1, Below B w w1 → LiesL (fun _ => True) w1 (.slice ob tb.list.length cb) tb.list) := Lib.hid fun w1 hb => hlb.stay (by rw [← hB]; exact hb)
  have KA : Hid (∀ W, Below B w W → Calls Try.prog 25 #[ta.val (.slice oa ta.list.length ca)] W fun e w' => ∃ po, e = .returned (.pointer po) ∧ Hid (Has B Ta (.pointer po) w') ∧ Hid (Below W.heap.size W w')) := Lib.hid fun W hW => by
    rw [hTa]; exact fits_has W (by have := hW.size; omega) ta _ (LA.out W hW) oka
  have KB : Hid (∀ W, Below B w W → Calls Try.prog 25 #[tb.val (.slice ob tb.list.length cb)] W fun e w' => ∃ po, e = .returned (.pointer po) ∧ Hid (Has B Tb (.pointer po) w') ∧ Hid (Below W.heap.size W w')) := Lib.hid fun W hW => by
    rw [hTb]; exact fits_has W (by have := hW.size; omega) tb _ (LB.out W hW) okb
  have KR : Hid (∀ W Q, Below B w W → Hld W Q (.cells (ta.cells (.slice oa ta.list.length ca) ++ tb.cells (.slice ob tb.list.length cb)) 26 (0, 0)) → Calls Try.prog 25 #[.agg #[.int .i64 1, .int .i64 0, .int .i64 0, .int .u64 0, .int .u64 0, .int .u64 0, .int .u64 0, .slice (Option.some ⟨Q, 0, none⟩) 2 2]] W fun e w' => ∃ po, e = .returned (.pointer po) ∧ Hid (Has B (rowT Ta Tb) (.pointer po) w') ∧ Hid (Below W.heap.size W w')) := Lib.hid fun W Q hW hQ => by
    rw [hTa, hTb]; exact fits_has W (by have := hW.size; omega) (rowT ta tb) _ (lies_two (LA.out W hW) (LB.out W hW) hQ rfl) (row_okR oka okb)
  have KE : Hid (∀ W Q, Below B w W → Hld W Q (.cells (ta.cells (.slice oa ta.list.length ca) ++ tb.cells (.slice ob tb.list.length cb)) 26 (0, 0)) → Calls Try.prog 25 #[.agg #[.int .i64 2, .int .i64 0, .int .i64 0, .int .u64 0, .int .u64 0, .int .u64 0, .int .u64 0, .slice (Option.some ⟨Q, 0, none⟩) 2 2]] W fun e w' => ∃ po, e = .returned (.pointer po) ∧ Hid (Has B (altT Ta Tb) (.pointer po) w') ∧ Hid (Below W.heap.size W w')) := Lib.hid fun W Q hW hQ => by
    rw [hTa, hTb]; exact fits_has W (by have := hW.size; omega) (altT ta tb) _ (lies_two (LA.out W hW) (LB.out W hW) hQ rfl) (alt_okR oka okb)
  have KM : Hid (∀ W Q, Below B w W → Hld W Q (.cells (ta.cells (.slice oa ta.list.length ca)) 26 (0, 0)) → Calls Try.prog 25 #[.agg #[.int .i64 3, .int .i64 0, .int .i64 (-1), .int .u64 0, .int .u64 0, .int .u64 0, .int .u64 0, .slice (Option.some ⟨Q, 0, none⟩) 1 1]] W fun e w' => ∃ po, e = .returned (.pointer po) ∧ Hid (Has B (manyT Ta) (.pointer po) w') ∧ Hid (Below W.heap.size W w')) := Lib.hid fun W Q hW hQ => by
    rw [hTa]; exact fits_has W (by have := hW.size; omega) (manyT ta) _ (lies_1 (LA.out W hW) hQ) (many_okR oka)
  rw [← hB]
  obtain ⟨ak, amn, amx, a0, a1, a2, a3, la⟩ := ta
  obtain ⟨bk, bmn, bmx, b0, b1, b2, b3, lb⟩ := tb
  unfold Rx.val at KA KB ⊢
  dsimp only [Rx.cells, cellsX, Rx.list] at LA LB KA KB KR KE KM ⊢
  rw [show (#[.int .i64 ak, .int .i64 amn, .int .i64 amx, .int .u64 a0, .int .u64 a1, .int .u64 a2, .int .u64 a3, .slice oa la.length ca] ++ #[.int .i64 bk, .int .i64 bmn, .int .i64 bmx, .int .u64 b0, .int .u64 b1, .int .u64 b2, .int .u64 b3, .slice ob lb.length cb] : Array Value) = #[.int .i64 ak, .int .i64 amn, .int .i64 amx, .int .u64 a0, .int .u64 a1, .int .u64 a2, .int .u64 a3, .slice oa la.length ca, .int .i64 bk, .int .i64 bmn, .int .i64 bmx, .int .u64 b0, .int .u64 b1, .int .u64 b2, .int .u64 b3, .slice ob lb.length cb] from rfl] at KR KE
  obtain ⟨W0, hW0⟩ : ∃ W0, W0 = (w.alloc (.cells #[.int .i64 ak, .int .i64 amn, .int .i64 amx, .int .u64 a0, .int .u64 a1, .int .u64 a2, .int .u64 a3, .slice oa la.length ca] 26)).alloc (.cells #[.int .i64 bk, .int .i64 bmn, .int .i64 bmx, .int .u64 b0, .int .u64 b1, .int .u64 b2, .int .u64 b3, .slice ob lb.length cb] 26) := ⟨_, rfl⟩
  have zs : (w.alloc (.cells #[.int .i64 ak, .int .i64 amn, .int .i64 amx, .int .u64 a0, .int .u64 a1, .int .u64 a2, .int .u64 a3, .slice oa la.length ca] 26)).heap.size = B + 1 := by rw [hB]; simp
  have z1 : Hld W0 B (.cells #[.int .i64 ak, .int .i64 amn, .int .i64 amx, .int .u64 a0, .int .u64 a1, .int .u64 a2, .int .u64 a3, .slice oa la.length ca] 26 (0, 0)) := by rw [hW0]; exact Hld.alloc (Hld.new hB)
  have z2 : Hld W0 (B + 1) (.cells #[.int .i64 bk, .int .i64 bmn, .int .i64 bmx, .int .u64 b0, .int .u64 b1, .int .u64 b2, .int .u64 b3, .slice ob lb.length cb] 26 (0, 0)) := by rw [hW0]; exact Hld.new zs.symm
  have zb : Below B w W0 := by rw [hW0, hB]; exact below_trans (below_new w _) (below_new _ _)
  have HW0 : Hid ((w.alloc (.cells #[.int .i64 ak, .int .i64 amn, .int .i64 amx, .int .u64 a0, .int .u64 a1, .int .u64 a2, .int .u64 a3, .slice oa la.length ca] 26)).alloc (.cells #[.int .i64 bk, .int .i64 bmn, .int .i64 bmx, .int .u64 b0, .int .u64 b1, .int .u64 b2, .int .u64 b3, .slice ob lb.length cb] 26) = W0) := Lib.hid hW0.symm
  obtain ⟨P, hP⟩ : ∃ P : World → Prop, P = fun wr => Below B w wr ∧ Hld wr B (.cells #[.int .i64 ak, .int .i64 amn, .int .i64 amx, .int .u64 a0, .int .u64 a1, .int .u64 a2, .int .u64 a3, .slice oa la.length ca] 26 (0, 0)) ∧ Hld wr (B + 1) (.cells #[.int .i64 bk, .int .i64 bmn, .int .i64 bmx, .int .u64 b0, .int .u64 b1, .int .u64 b2, .int .u64 b3, .slice ob lb.length cb] 26 (0, 0)) := ⟨_, rfl⟩
  have P0 : P W0 := by rw [hP]; exact ⟨zb, z1, z2⟩
  have PB : Hid (∀ wr, P wr → Below B w wr) := Lib.hid (by rw [hP]; exact fun wr h => h.1)
  have PS : Hid (∀ wr wr2, P wr → Hid (Below wr.heap.size wr wr2) → P wr2) := Lib.hid (by
    rw [hP]
    exact fun wr wr2 h hb => ⟨h.1.trans (hb.out.mono (by have := h.1.size; omega)), h.2.1.keep hb, h.2.2.keep hb⟩)
  have PA : Hid (∀ wr o, P wr → P (wr.alloc o)) := Lib.hid fun wr o h => PS.out _ _ h (Lib.hid (below_new wr o))
  have PD : Hid (∀ wr, P wr → P wr.drew) := Lib.hid fun wr h => PS.out _ _ h (Lib.hid (Below.refl _ wr).drew)
  have PC : Hid (∀ wr, P wr → wr.cell? ⟨B, 0, none⟩ = Option.some (.int .i64 ak) ∧ wr.cell? ⟨B, 1, none⟩ = Option.some (.int .i64 amn) ∧ wr.cell? ⟨B, 2, none⟩ = Option.some (.int .i64 amx) ∧ wr.cell? ⟨B, 3, none⟩ = Option.some (.int .u64 a0) ∧ wr.cell? ⟨B, 4, none⟩ = Option.some (.int .u64 a1) ∧ wr.cell? ⟨B, 5, none⟩ = Option.some (.int .u64 a2) ∧ wr.cell? ⟨B, 6, none⟩ = Option.some (.int .u64 a3) ∧ wr.cell? ⟨B, 7, none⟩ = Option.some (.slice oa la.length ca) ∧ wr.cell? ⟨B + 1, 0, none⟩ = Option.some (.int .i64 bk) ∧ wr.cell? ⟨B + 1, 1, none⟩ = Option.some (.int .i64 bmn) ∧ wr.cell? ⟨B + 1, 2, none⟩ = Option.some (.int .i64 bmx) ∧ wr.cell? ⟨B + 1, 3, none⟩ = Option.some (.int .u64 b0) ∧ wr.cell? ⟨B + 1, 4, none⟩ = Option.some (.int .u64 b1) ∧ wr.cell? ⟨B + 1, 5, none⟩ = Option.some (.int .u64 b2) ∧ wr.cell? ⟨B + 1, 6, none⟩ = Option.some (.int .u64 b3) ∧ wr.cell? ⟨B + 1, 7, none⟩ = Option.some (.slice ob lb.length cb)) := Lib.hid (by
    rw [hP]
    exact fun wr h => ⟨cell_at h.2.1 rfl, cell_at h.2.1 rfl, cell_at h.2.1 rfl, cell_at h.2.1 rfl, cell_at h.2.1 rfl, cell_at h.2.1 rfl, cell_at h.2.1 rfl, cell_at h.2.1 rfl, cell_at h.2.2 rfl, cell_at h.2.2 rfl, cell_at h.2.2 rfl, cell_at h.2.2 rfl, cell_at h.2.2 rfl, cell_at h.2.2 rfl, cell_at h.2.2 rfl, cell_at h.2.2 rfl⟩)
  have PF : Hid (∀ wr, P wr → Calls Try.prog 12 #[] wr fun e w' => e = .returned (.bool true) ∧ Hid (Below wr.heap.size wr w')) := Lib.hid fun wr h => (fixed_any wr).mono fun e w' g => ⟨g.1, Lib.hid g.2⟩
  have hzz : w.heap.size = B := hB.symm
  have HT := Lib.hid (And.intro hTa hTb)
  have HP := Lib.hid hP
  clear hla hlb oka okb hB hW0 z1 z2 zs zb hP hTa hTb
  go_enter Try.func6, Try.ntmps6
  go_wp2_with fail
  rw [HW0.out]
  go_cut [7, 8] (fun x7 x8 wx => P wx ∧ (∃ po, x7 = .pointer po) ∧ (∃ po, x8 = .pointer po) ∧ Has B Ta x7 wx ∧ Has B Tb x8 wx)
  case first =>
    have hPd := PD.out _ P0
    have hS0 := PC.out _ hPd
    go_region_held3 (fun wr => wr.cell? ⟨B, 0, none⟩ = Option.some (.int .i64 ak) ∧ wr.cell? ⟨B, 1, none⟩ = Option.some (.int .i64 amn) ∧ wr.cell? ⟨B, 2, none⟩ = Option.some (.int .i64 amx) ∧ wr.cell? ⟨B, 3, none⟩ = Option.some (.int .u64 a0) ∧ wr.cell? ⟨B, 4, none⟩ = Option.some (.int .u64 a1) ∧ wr.cell? ⟨B, 5, none⟩ = Option.some (.int .u64 a2) ∧ wr.cell? ⟨B, 6, none⟩ = Option.some (.int .u64 a3) ∧ wr.cell? ⟨B, 7, none⟩ = Option.some (.slice oa la.length ca) ∧ wr.cell? ⟨B + 1, 0, none⟩ = Option.some (.int .i64 bk) ∧ wr.cell? ⟨B + 1, 1, none⟩ = Option.some (.int .i64 bmn) ∧ wr.cell? ⟨B + 1, 2, none⟩ = Option.some (.int .i64 bmx) ∧ wr.cell? ⟨B + 1, 3, none⟩ = Option.some (.int .u64 b0) ∧ wr.cell? ⟨B + 1, 4, none⟩ = Option.some (.int .u64 b1) ∧ wr.cell? ⟨B + 1, 5, none⟩ = Option.some (.int .u64 b2) ∧ wr.cell? ⟨B + 1, 6, none⟩ = Option.some (.int .u64 b3) ∧ wr.cell? ⟨B + 1, 7, none⟩ = Option.some (.slice ob lb.length cb)) (first | exact hS0 | exact hS1 | exact hS2)
      (first
        | (go_at_call 25; (with_reducible refine (KA.out _ (PB.out _ hPd)).mono ?_); rintro e w3 ⟨po3, rfl, h3, b3'⟩; have P3 := PS.out _ _ hPd b3'; have hS1 := PC.out _ P3; clear hPd)
        | (go_at_call 25; (with_reducible refine (KB.out _ (PB.out _ P3)).mono ?_); rintro e w4 ⟨po4, rfl, h4, b4'⟩; have P4 := PS.out _ _ P3 b4'; have hS2 := PC.out _ P4))
    all_goals
      go_wp2_with fail
      go_meet
      case rel => exact ⟨P4, ⟨_, rfl⟩, ⟨_, rfl⟩, h3.out.below b4'.out, h4.out⟩
  case rest =>
    obtain ⟨P5, ⟨po7, rfl⟩, ⟨po8, rfl⟩, h7, h8⟩ := hcut
    have H7 := Lib.hid h7
    have H8 := Lib.hid h8
    clear h7 h8 P0
    cases po7 with
    | none =>
      go_wp2_with (go_at_call 12; (with_reducible refine (PF.out _ P5).mono ?_); rintro e w6 ⟨rfl, b6⟩; have P6 := PS.out _ _ P5 b6)
      go_ret
      exact ⟨rfl, PB.out _ P6⟩
    | some p7 =>
      cases po8 with
      | none =>
        go_wp2_with (go_at_call 12; (with_reducible refine (PF.out _ P5).mono ?_); rintro e w6 ⟨rfl, b6⟩; have P6 := PS.out _ _ P5 b6)
        go_ret
        exact ⟨rfl, PB.out _ P6⟩
      | some p8 =>
        by_cases hlong : 24 < s.size
        · go_wp2_with (go_at_call 12; (with_reducible refine (PF.out _ P5).mono ?_); rintro e w6 ⟨rfl, b6⟩; have P6 := PS.out _ _ P5 b6)
          go_ret
          exact ⟨rfl, PB.out _ P6⟩
        · obtain ⟨N, hN⟩ : ∃ N, s.size = N := ⟨_, rfl⟩
          have hN24 : N ≤ 24 := by omega
          have HN := Lib.hid hN
          have hlN : (N : Int) ≤ 24 := by omega
          clear hlong
          go_wp2_with (go_at_call 12; (with_reducible refine (PF.out _ P5).mono ?_); rintro e w6 ⟨rfl, b6⟩; have P6 := PS.out _ _ P5 b6; have H67 := Lib.hid (H7.out.below b6.out); have H68 := Lib.hid (H8.out.below b6.out))
          clear P5 H7 H8 b6
          go_cut [9, 10, 11] (fun x9 x10 x11 wx => P wx ∧ Has B Ta (.pointer (Option.some p7)) wx ∧ Has B Tb (.pointer (Option.some p8)) wx ∧ ∃ po9 po10 po11, x9 = .pointer po9 ∧ x10 = .pointer po10 ∧ x11 = .pointer po11 ∧ Has B (rowT Ta Tb) (.pointer po9) wx ∧ Has B (altT Ta Tb) (.pointer po10) wx ∧ Has B (manyT Ta) (.pointer po11) wx)
          case first =>
            have hPd := PD.out _ P6
            have hS0 := PC.out _ hPd
            have r67 := H67.out
            have r68 := H68.out
            go_region_held3 (fun wr => wr.cell? ⟨B, 0, none⟩ = Option.some (.int .i64 ak) ∧ wr.cell? ⟨B, 1, none⟩ = Option.some (.int .i64 amn) ∧ wr.cell? ⟨B, 2, none⟩ = Option.some (.int .i64 amx) ∧ wr.cell? ⟨B, 3, none⟩ = Option.some (.int .u64 a0) ∧ wr.cell? ⟨B, 4, none⟩ = Option.some (.int .u64 a1) ∧ wr.cell? ⟨B, 5, none⟩ = Option.some (.int .u64 a2) ∧ wr.cell? ⟨B, 6, none⟩ = Option.some (.int .u64 a3) ∧ wr.cell? ⟨B, 7, none⟩ = Option.some (.slice oa la.length ca) ∧ wr.cell? ⟨B + 1, 0, none⟩ = Option.some (.int .i64 bk) ∧ wr.cell? ⟨B + 1, 1, none⟩ = Option.some (.int .i64 bmn) ∧ wr.cell? ⟨B + 1, 2, none⟩ = Option.some (.int .i64 bmx) ∧ wr.cell? ⟨B + 1, 3, none⟩ = Option.some (.int .u64 b0) ∧ wr.cell? ⟨B + 1, 4, none⟩ = Option.some (.int .u64 b1) ∧ wr.cell? ⟨B + 1, 5, none⟩ = Option.some (.int .u64 b2) ∧ wr.cell? ⟨B + 1, 6, none⟩ = Option.some (.int .u64 b3) ∧ wr.cell? ⟨B + 1, 7, none⟩ = Option.some (.slice ob lb.length cb)) (with_reducible first | exact hS0 | exact PC.out _ (PD.out _ (PA.out _ _ P6)) | exact PC.out _ (PD.out _ (PA.out _ _ (PA.out _ _ P6))) | exact PC.out _ (PD.out _ (PA.out _ _ (PA.out _ _ (PA.out _ _ P6)))) | exact PC.out _ (P3) | exact PC.out _ (PA.out _ _ P3) | exact PC.out _ (PA.out _ _ (PA.out _ _ P3)) | exact PC.out _ (P4) | exact PC.out _ (PA.out _ _ P4) | exact PC.out _ (P5))
              (first
                | (go_at_call 25; (with_reducible refine Calls.mono (KR.out _ _ (PB.out _ ?_) ?_) ?_); (with_reducible first | exact PD.out _ (PA.out _ _ P6) | exact PD.out _ (PA.out _ _ (PA.out _ _ P6)) | exact PD.out _ (PA.out _ _ (PA.out _ _ (PA.out _ _ P6))) | exact P3 | exact PA.out _ _ P3 | exact PA.out _ _ (PA.out _ _ P3) | exact P4 | exact PA.out _ _ P4 | exact P5); (repeat (first | (with_reducible exact Hld.new0) | (with_reducible exact Hld.new1) | (with_reducible exact Hld.new2) | (with_reducible refine Hld.drew ?_) | (with_reducible refine Hld.alloc ?_) | (with_reducible refine Hld.keep b9 ?_) | (with_reducible refine Hld.keep b10 ?_))); rintro e w3 ⟨po9, rfl, h9h, b9⟩; have P3 : P w3 := PS.out _ _ (by with_reducible first | exact PD.out _ (PA.out _ _ P6) | exact PD.out _ (PA.out _ _ (PA.out _ _ P6)) | exact PD.out _ (PA.out _ _ (PA.out _ _ (PA.out _ _ P6))) | exact P3 | exact PA.out _ _ P3 | exact PA.out _ _ (PA.out _ _ P3) | exact P4 | exact PA.out _ _ P4 | exact P5) b9; have h9 := h9h.out; have g7 : Has B Ta (.pointer (Option.some p7)) w3 := (by repeat (first | assumption | (with_reducible refine Has.drew ?_) | (with_reducible refine Has.alloc ?_) | (with_reducible refine Has.keep b9 ?_) | (with_reducible refine Has.keep b10 ?_) | (with_reducible refine Has.keep b11 ?_))); have g8 : Has B Tb (.pointer (Option.some p8)) w3 := (by repeat (first | assumption | (with_reducible refine Has.drew ?_) | (with_reducible refine Has.alloc ?_) | (with_reducible refine Has.keep b9 ?_) | (with_reducible refine Has.keep b10 ?_) | (with_reducible refine Has.keep b11 ?_))))
                | (go_at_call 25; (with_reducible refine Calls.mono (KE.out _ _ (PB.out _ ?_) ?_) ?_); (with_reducible first | exact PD.out _ (PA.out _ _ P6) | exact PD.out _ (PA.out _ _ (PA.out _ _ P6)) | exact PD.out _ (PA.out _ _ (PA.out _ _ (PA.out _ _ P6))) | exact P3 | exact PA.out _ _ P3 | exact PA.out _ _ (PA.out _ _ P3) | exact P4 | exact PA.out _ _ P4 | exact P5); (repeat (first | (with_reducible exact Hld.new0) | (with_reducible exact Hld.new1) | (with_reducible exact Hld.new2) | (with_reducible refine Hld.drew ?_) | (with_reducible refine Hld.alloc ?_) | (with_reducible refine Hld.keep b9 ?_) | (with_reducible refine Hld.keep b10 ?_))); rintro e w4 ⟨po10, rfl, h10h, b10⟩; have P4 : P w4 := PS.out _ _ (by with_reducible first | exact PD.out _ (PA.out _ _ P6) | exact PD.out _ (PA.out _ _ (PA.out _ _ P6)) | exact PD.out _ (PA.out _ _ (PA.out _ _ (PA.out _ _ P6))) | exact P3 | exact PA.out _ _ P3 | exact PA.out _ _ (PA.out _ _ P3) | exact P4 | exact PA.out _ _ P4 | exact P5) b10; have h10 := h10h.out; have k7 : Has B Ta (.pointer (Option.some p7)) w4 := (by repeat (first | assumption | (with_reducible refine Has.drew ?_) | (with_reducible refine Has.alloc ?_) | (with_reducible refine Has.keep b9 ?_) | (with_reducible refine Has.keep b10 ?_) | (with_reducible refine Has.keep b11 ?_))); have k8 : Has B Tb (.pointer (Option.some p8)) w4 := (by repeat (first | assumption | (with_reducible refine Has.drew ?_) | (with_reducible refine Has.alloc ?_) | (with_reducible refine Has.keep b9 ?_) | (with_reducible refine Has.keep b10 ?_) | (with_reducible refine Has.keep b11 ?_))); have k9 : Has B (rowT Ta Tb) (.pointer po9) w4 := (by repeat (first | assumption | (with_reducible refine Has.drew ?_) | (with_reducible refine Has.alloc ?_) | (with_reducible refine Has.keep b9 ?_) | (with_reducible refine Has.keep b10 ?_) | (with_reducible refine Has.keep b11 ?_))))
                | (go_at_call 25; (with_reducible refine Calls.mono (KM.out _ _ (PB.out _ ?_) ?_) ?_); (with_reducible first | exact PD.out _ (PA.out _ _ P6) | exact PD.out _ (PA.out _ _ (PA.out _ _ P6)) | exact PD.out _ (PA.out _ _ (PA.out _ _ (PA.out _ _ P6))) | exact P3 | exact PA.out _ _ P3 | exact PA.out _ _ (PA.out _ _ P3) | exact P4 | exact PA.out _ _ P4 | exact P5); (repeat (first | (with_reducible exact Hld.new0) | (with_reducible exact Hld.new1) | (with_reducible exact Hld.new2) | (with_reducible refine Hld.drew ?_) | (with_reducible refine Hld.alloc ?_) | (with_reducible refine Hld.keep b9 ?_) | (with_reducible refine Hld.keep b10 ?_))); rintro e w5 ⟨po11, rfl, h11h, b11⟩; have P5 : P w5 := PS.out _ _ (by with_reducible first | exact PD.out _ (PA.out _ _ P6) | exact PD.out _ (PA.out _ _ (PA.out _ _ P6)) | exact PD.out _ (PA.out _ _ (PA.out _ _ (PA.out _ _ P6))) | exact P3 | exact PA.out _ _ P3 | exact PA.out _ _ (PA.out _ _ P3) | exact P4 | exact PA.out _ _ P4 | exact P5) b11; have h11 := h11h.out; have l7 : Has B Ta (.pointer (Option.some p7)) w5 := (by repeat (first | assumption | (with_reducible refine Has.drew ?_) | (with_reducible refine Has.alloc ?_) | (with_reducible refine Has.keep b9 ?_) | (with_reducible refine Has.keep b10 ?_) | (with_reducible refine Has.keep b11 ?_))); have l8 : Has B Tb (.pointer (Option.some p8)) w5 := (by repeat (first | assumption | (with_reducible refine Has.drew ?_) | (with_reducible refine Has.alloc ?_) | (with_reducible refine Has.keep b9 ?_) | (with_reducible refine Has.keep b10 ?_) | (with_reducible refine Has.keep b11 ?_))); have l9 : Has B (rowT Ta Tb) (.pointer po9) w5 := (by repeat (first | assumption | (with_reducible refine Has.drew ?_) | (with_reducible refine Has.alloc ?_) | (with_reducible refine Has.keep b9 ?_) | (with_reducible refine Has.keep b10 ?_) | (with_reducible refine Has.keep b11 ?_))); have l10 : Has B (altT Ta Tb) (.pointer po10) w5 := (by repeat (first | assumption | (with_reducible refine Has.drew ?_) | (with_reducible refine Has.alloc ?_) | (with_reducible refine Has.keep b9 ?_) | (with_reducible refine Has.keep b10 ?_) | (with_reducible refine Has.keep b11 ?_)))))
            all_goals
              go_wp2_with fail
              go_meet
              case rel => exact ⟨P5, l7, l8, po9, po10, po11, rfl, rfl, rfl, l9, l10, h11⟩
          case rest =>
            obtain ⟨P9, h7, h8, po9, po10, po11, rfl, rfl, rfl, h9, h10, h11⟩ := hcut
            have HC9 := Lib.hid h9
            have HC10 := Lib.hid h10
            have HC11 := Lib.hid h11
            have HC7 := Lib.hid h7
            have HC8 := Lib.hid h8
            obtain ⟨R, hR⟩ : ∃ R : World → Prop, R = fun wr => P wr ∧ Has B Ta (.pointer (Option.some p7)) wr ∧ Has B Tb (.pointer (Option.some p8)) wr ∧ Has B (rowT Ta Tb) (.pointer po9) wr ∧ Has B (manyT Ta) (.pointer po11) wr := ⟨_, rfl⟩
            have R0 : R wc := by rw [hR]; exact ⟨P9, h7, h8, h9, h11⟩
            have RP : Hid (∀ wr, R wr → P wr) := Lib.hid (by rw [hR]; exact fun wr h => h.1)
            have RR7 : Hid (∀ wr, R wr → Has B Ta (.pointer (Option.some p7)) wr) := Lib.hid (by rw [hR]; exact fun wr h => h.2.1)
            have RR8 : Hid (∀ wr, R wr → Has B Tb (.pointer (Option.some p8)) wr) := Lib.hid (by rw [hR]; exact fun wr h => h.2.2.1)
            have RR9 : Hid (∀ wr, R wr → Has B (rowT Ta Tb) (.pointer po9) wr) := Lib.hid (by rw [hR]; exact fun wr h => h.2.2.2.1)
            have RR11 : Hid (∀ wr, R wr → Has B (manyT Ta) (.pointer po11) wr) := Lib.hid (by rw [hR]; exact fun wr h => h.2.2.2.2)
            have RS : Hid (∀ wr wr2, R wr → Hid (Below wr.heap.size wr wr2) → R wr2) := Lib.hid (by
              rw [hR]
              exact fun wr wr2 h hb => ⟨PS.out _ _ h.1 hb, h.2.1.keep hb, h.2.2.1.keep hb, h.2.2.2.1.keep hb, h.2.2.2.2.keep hb⟩)
            obtain ⟨X, hX⟩ : ∃ X, X = (macR Ta).inB := ⟨_, rfl⟩
            obtain ⟨Y, hY⟩ : ∃ Y, Y = (macR Tb).inB := ⟨_, rfl⟩
            obtain ⟨M, hM⟩ : ∃ M, M = (macR (manyT Ta)).inB := ⟨_, rfl⟩
            obtain ⟨S, hS⟩ : ∃ S, S = s.data.toList := ⟨_, rfl⟩
            have HXY := Lib.hid (And.intro hX (And.intro hY hM))
            have HSS := Lib.hid hS
            have HSN : Hid (S.length = N) := Lib.hid (by rw [hS, ← hN]; exact Array.length_toList)
            have KX : Hid (∀ wr (t : ByteArray), R wr → Calls Try.prog 26 #[.pointer (Option.some p7), .string t] wr fun e w' => e = .returned (.bool (X t.data.toList)) ∧ R w') := Lib.hid fun wr t h => by
              rw [hX]; exact (in_has (RR7.out wr h) t).mono fun e w' g => ⟨g.1, RS.out _ _ h g.2⟩
            have KY : Hid (∀ wr (t : ByteArray), R wr → Calls Try.prog 26 #[.pointer (Option.some p8), .string t] wr fun e w' => e = .returned (.bool (Y t.data.toList)) ∧ R w') := Lib.hid fun wr t h => by
              rw [hY]; exact (in_has (RR8.out wr h) t).mono fun e w' g => ⟨g.1, RS.out _ _ h g.2⟩
            have EM : s.toList.isEmpty = decide (S = []) := by
              rw [ByteArray.toList_eq, hS]
              cases s.data.toList <;> simp
            clear h7 h8 h9 h11 hX hY hM hS hR P9 P6 H67 H68
            have K10 : Hid (∀ p10, po10 = Option.some p10 → ∃ bx by', X S = bx ∧ Y S = by' ∧ (∀ wr, wr = wc → Calls Try.prog 26 #[.pointer (Option.some p10), .string s] wr fun e w' => e = .returned (.bool (bx || by')) ∧ R w')) := Lib.hid fun p10 e10 => by
              subst e10
              refine ⟨_, _, rfl, rfl, fun wr hw => ?_⟩
              subst hw
              have h10 := HC10.out.some
              have e := alt_same (a := Ta) (b := Tb) (s := S) (by have := HSN.out; omega) HC7.out.some.1 HC8.out.some.1 h10.1
              rw [← HXY.out.1, ← HXY.out.2.1] at e
              rw [← e, HSS.out]
              exact (in_has HC10.out s).mono fun e w' g => ⟨g.1, RS.out _ _ R0 g.2⟩
            clear h10
            obtain ⟨AG, hAG⟩ : ∃ AG : Nat → Bool, AG = (match po11 with | none => fun _ => decide (S = []) | Option.some _ => againF X M S) := ⟨_, rfl⟩
            have HAG0 : Hid (AG 0 = decide (S = [])) := Lib.hid (by rw [hAG]; cases po11 <;> rfl)
            have HAGN : Hid (po11 = none → ∀ k, AG (k + 1) = AG k) := Lib.hid (by rw [hAG]; rintro rfl k; rfl)
            have HAGS : Hid (∀ p, po11 = Option.some p → ∀ k, AG (k + 1) = if 0 < k then (AG k || (X (S.take k) && M (S.drop k))) else AG k) := Lib.hid (by rw [hAG]; rintro p rfl k; rfl)
            have HAGE : Hid (∀ p, po11 = Option.some p → M S = AG (N + 1)) := Lib.hid (by
              rintro p rfl
              have e := many_same (a := Ta) (s := S) (by have := HSN.out; omega) HC7.out.some.1 HC11.out.some.1
              rw [HSN.out, ← HXY.out.1, ← HXY.out.2.2] at e
              rw [hAG]; exact e)
            have KMM : Hid (∀ p, po11 = Option.some p → ∀ wr (t : ByteArray), R wr → Calls Try.prog 26 #[.pointer (Option.some p), .string t] wr fun e w' => e = .returned (.bool (M t.data.toList)) ∧ R w') := Lib.hid (by
              rintro p rfl wr t h
              rw [HXY.out.2.2]; exact (in_has (RR11.out wr h) t).mono fun e w' g => ⟨g.1, RS.out _ _ h g.2⟩)
            clear hAG
            go_upto_region 7 with (fail)
            go_cut [61] (fun z wx => z = .bool false ∧ R wx)
            case first =>
              cases po10 with
              | none =>
                go_wp2_with (fail)
                go_meet
                case rel => exact ⟨rfl, R0⟩
              | some p10 =>
                obtain ⟨bx0, by0, hbx0, hby0, K10b⟩ := K10.out p10 rfl
                have K10c := Lib.hid (K10b wc rfl)
                have KX0 : Hid (∀ wr, R wr → Calls Try.prog 26 #[.pointer (Option.some p7), .string s] wr fun e w' => e = .returned (.bool bx0) ∧ R w') := Lib.hid (by rw [← hbx0, HSS.out]; exact fun wr h => KX.out wr s h)
                have KY0 : Hid (∀ wr, R wr → Calls Try.prog 26 #[.pointer (Option.some p8), .string s] wr fun e w' => e = .returned (.bool by0) ∧ R w') := Lib.hid (by rw [← hby0, HSS.out]; exact fun wr h => KY.out wr s h)
                clear K10b hbx0 hby0
                cases bx0 <;> cases by0 <;>
                · go_wp2_with (first | (go_at_call 26; (with_reducible refine Calls.mono K10c.out ?_); rintro e wa ⟨rfl, hRa⟩) | (go_at_call 26; (with_reducible refine Calls.mono (KX0.out _ ?_) ?_); assumption; rintro e wa ⟨rfl, hRa⟩) | (go_at_call 26; (with_reducible refine Calls.mono (KY0.out _ ?_) ?_); assumption; rintro e wa ⟨rfl, hRa⟩))
                  go_meet
                  case rel => exact ⟨rfl, by assumption⟩
            case rest =>
              obtain ⟨rfl, R1⟩ := hcut
              clear R0 K10
              go_wp2_with (fail)
              go_loopw [12, 13, 14] (fun c g i wr => ∃ k : Nat, k ≤ N + 1 ∧ i = .int .i64 (k : Int) ∧ c = .bool (cutF X Y S k) ∧ g = .bool (AG k) ∧ R wr) (fun _ _ i _ => N + 1 - (intOf i).toNat)
              case atStart => exact ⟨0, Nat.zero_le _, rfl, rfl, by rw [HAG0.out], by assumption⟩
              case round =>
                obtain ⟨k, hk, rfl, rfl, rfl, hR⟩ := hrel
                by_cases hle : k ≤ N
                · have hle2 : (k : Int) ≤ (N : Int) := by omega
                  obtain ⟨U, hU⟩ : ∃ U, s.extract 0 k = U := ⟨_, rfl⟩
                  obtain ⟨V, hV⟩ : ∃ V, s.extract k N = V := ⟨_, rfl⟩
                  obtain ⟨bx, hbx⟩ : ∃ b, b = X (S.take k) := ⟨_, rfl⟩
                  obtain ⟨by', hby⟩ : ∃ b, b = Y (S.drop k) := ⟨_, rfl⟩
                  obtain ⟨bm, hbm⟩ : ∃ b, b = M (S.drop k) := ⟨_, rfl⟩
                  obtain ⟨bc, hbc⟩ : ∃ b, b = cutF X Y S k := ⟨_, rfl⟩
                  obtain ⟨bg, hbg⟩ : ∃ b, b = AG k := ⟨_, rfl⟩
                  have eU : U.data.toList = S.take k := by rw [← hU, HSS.out, ByteArray.data_extract, Array.toList_extract, List.extract_eq_take_drop, List.drop_zero, Nat.sub_zero]
                  have eV : V.data.toList = S.drop k := by
                    rw [← hV, HSS.out, ByteArray.data_extract, Array.toList_extract, List.extract_eq_take_drop]
                    exact List.take_of_length_le (by rw [List.length_drop]; have := HSN.out; rw [← HSS.out]; omega)
                  have KXk : Hid (∀ wr, R wr → Calls Try.prog 26 #[.pointer (Option.some p7), .string U] wr fun e w' => e = .returned (.bool bx) ∧ R w') := Lib.hid (by rw [hbx, ← eU]; exact fun wr h => KX.out wr U h)
                  have KYk : Hid (∀ wr, R wr → Calls Try.prog 26 #[.pointer (Option.some p8), .string V] wr fun e w' => e = .returned (.bool by') ∧ R w') := Lib.hid (by rw [hby, ← eV]; exact fun wr h => KY.out wr V h)
                  have KMk : Hid (∀ p, po11 = Option.some p → ∀ wr, R wr → Calls Try.prog 26 #[.pointer (Option.some p), .string V] wr fun e w' => e = .returned (.bool bm) ∧ R w') := Lib.hid (by rw [hbm, ← eV]; exact fun p hp wr h => KMM.out p hp wr V h)
                  have HCU : Hid (cutF X Y S (k + 1) = (bc || (bx && by'))) := Lib.hid (by rw [cutF, hbc, hbx, hby])
                  have HAU : Hid (∀ p, po11 = Option.some p → AG (k + 1) = if 0 < k then (bg || (bx && bm)) else bg) := Lib.hid (by rw [hbg, hbx, hbm]; exact fun p hp => HAGS.out p hp k)
                  have HAN : Hid (po11 = none → AG (k + 1) = bg) := Lib.hid (by rw [hbg]; exact fun hp => HAGN.out hp k)
                  rw [← hbc, ← hbg]
                  have HLE := Lib.hid hle
                  clear hbx hby hbm hbc hbg eU eV hk hle
                  go_upto_region 13 with (fail)
                  go_cut [12] from 64 to 105 (fun c wx => c = .bool (bc || (bx && by')) ∧ R wx)
                  case first =>
                    cases bc <;> cases bx <;> cases by' <;>
                    · go_wp2_with (first | (go_at_call 26; (with_reducible refine Calls.mono (KXk.out _ ?_) ?_); assumption; rintro e wa ⟨rfl, hRa⟩) | (go_at_call 26; (with_reducible refine Calls.mono (KYk.out _ ?_) ?_); assumption; rintro e wa ⟨rfl, hRa⟩))
                      go_meet
                      case rel => exact ⟨rfl, by assumption⟩
                  case rest =>
                    obtain ⟨rfl, R2⟩ := hcut
                    obtain ⟨bc2, hbc2⟩ : ∃ b, b = (bc || (bx && by')) := ⟨_, rfl⟩
                    rw [← hbc2] at HCU ⊢
                    clear hbc2 hR
                    cases po11 with
                    | none =>
                      go_wp2_with (fail)
                      exact ⟨⟨k + 1, by have := HLE.out; omega, rfl, by rw [HCU.out], by rw [HAN.out rfl], R2⟩, by have := HLE.out; simp [intOf]; omega⟩
                    | some p11 =>
                      have KMp := Lib.hid (KMk.out p11 rfl)
                      by_cases hk0 : 0 < k
                      · have hk1 : (0 : Int) < (k : Int) := by omega
                        have HAU2 : Hid (AG (k + 1) = (bg || (bx && bm))) := Lib.hid (by rw [HAU.out p11 rfl, if_pos hk0])
                        clear hk0
                        cases bg <;> cases bx <;> cases bm <;>
                        · go_wp2_with (first | (go_at_call 26; (with_reducible refine Calls.mono (KXk.out _ ?_) ?_); assumption; rintro e wa ⟨rfl, hRa⟩) | (go_at_call 26; (with_reducible refine Calls.mono (KMp.out _ ?_) ?_); assumption; rintro e wa ⟨rfl, hRa⟩))
                          exact ⟨⟨k + 1, by have := HLE.out; omega, rfl, by rw [HCU.out], by rw [HAU2.out]; rfl, by assumption⟩, by have := HLE.out; simp [intOf]; omega⟩
                      · have hk1 : ¬ (0 : Int) < (k : Int) := by omega
                        have HAU2 : Hid (AG (k + 1) = bg) := Lib.hid (by rw [HAU.out p11 rfl, if_neg hk0])
                        clear hk0
                        go_wp2_with (fail)
                        exact ⟨⟨k + 1, by have := HLE.out; omega, rfl, by rw [HCU.out], by rw [HAU2.out], R2⟩, by have := HLE.out; simp [intOf]; omega⟩
                · obtain rfl : k = N + 1 := by omega
                  have hle2 : (N : Int) < ((N + 1 : Nat) : Int) := by omega
                  have hcast : ((N + 1 : Nat) : Int) = (N : Int) + 1 := by omega
                  rw [hcast] at hle2 ⊢
                  clear hcast hk hle
                  obtain ⟨bc, hbc⟩ : ∃ b, b = cutF X Y S (N + 1) := ⟨_, rfl⟩
                  obtain ⟨bg, hbg⟩ : ∃ b, b = AG (N + 1) := ⟨_, rfl⟩
                  rw [← hbc, ← hbg]
                  have KME : Hid (∀ p, po11 = Option.some p → ∀ wr, R wr → Calls Try.prog 26 #[.pointer (Option.some p), .string s] wr fun e w' => e = .returned (.bool bg) ∧ R w') := Lib.hid (by
                    intro p hp wr h
                    rw [hbg, ← HAGE.out p hp, HSS.out]; exact KMM.out p hp wr s h)
                  have KRE : Hid (∀ p, po9 = Option.some p → ∀ wr, R wr → Calls Try.prog 26 #[.pointer (Option.some p), .string s] wr fun e w' => e = .returned (.bool bc) ∧ R w') := Lib.hid (by
                    intro p hp wr h
                    subst hp
                    rw [hbc]
                    have h9 := HC9.out.some
                    have e := row_same (a := Ta) (b := Tb) (s := S) (by have := HSN.out; omega) HC7.out.some.1 HC8.out.some.1 h9.1
                    rw [HSN.out, ← HXY.out.1, ← HXY.out.2.1] at e
                    rw [← e, HSS.out]
                    exact (in_has (RR9.out wr h) s).mono fun e w' g => ⟨g.1, RS.out _ _ h g.2⟩)
                  clear hbc hbg
                  cases po9 with
                  | none =>
                    cases po11 with
                    | none =>
                      go_wp2_with (fail)
                      go_ret
                      exact ⟨rfl, PB.out _ (RP.out _ (by assumption))⟩
                    | some p11 =>
                      have KMp := Lib.hid (KME.out p11 rfl)
                      cases bg <;>
                      · go_wp2_with (go_at_call 26; (with_reducible refine Calls.mono (KMp.out _ ?_) ?_); assumption; rintro e wa ⟨rfl, hRa⟩)
                        go_ret
                        exact ⟨rfl, PB.out _ (RP.out _ (by assumption))⟩
                  | some p9 =>
                    have KRp := Lib.hid (KRE.out p9 rfl)
                    cases po11 with
                    | none =>
                      cases bc <;>
                      · go_wp2_with (go_at_call 26; (with_reducible refine Calls.mono (KRp.out _ ?_) ?_); assumption; rintro e wa ⟨rfl, hRa⟩)
                        go_ret
                        exact ⟨rfl, PB.out _ (RP.out _ (by assumption))⟩
                    | some p11 =>
                      have KMp := Lib.hid (KME.out p11 rfl)
                      cases bc <;> cases bg <;>
                      · go_wp2_with (first | (go_at_call 26; (with_reducible refine Calls.mono (KRp.out _ ?_) ?_); assumption; rintro e wa ⟨rfl, hRa⟩) | (go_at_call 26; (with_reducible refine Calls.mono (KMp.out _ ?_) ?_); assumption; rintro e wa ⟨rfl, hRa⟩))
                        go_ret
                        exact ⟨rfl, PB.out _ (RP.out _ (by assumption))⟩
end Go.Proofs.Ytdmajbdgjjmlkaa
