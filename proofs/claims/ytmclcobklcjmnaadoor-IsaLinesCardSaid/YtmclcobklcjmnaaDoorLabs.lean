/- A jump to a label goes there: what a label is, lists of instructions and of numbers that came in, and the walk of the law. Conditions: texts and lists that a machine holds. -/
import Derived.Test.YtmclcobklcjmnaaDoorMvw
import Derived.Test.YtmclcobklcjmnaaDoorWtn
import Derived.Test.YtmclcobklcjmnaaDoorMat
import Derived.ProofKit
import Derived.OpenShut
import Derived.ChangeOld
import Derived.SizedLaws
import Derived.ChangeSlices
import Derived.Deep.Slices
namespace Go.Proofs.YtmclcobklcjmnaaDoor
open Go.RowKit Go.Maps
set_option linter.unusedVariables false
set_option linter.unusedSimpArgs false

def okAt (k : Nat) (c : UInt8) : Bool := letB c || (decide (0 < k) && (decide (48 ≤ c.toNat) && decide (c.toNat ≤ 57)))
theorem all_at : ∀ (l : Bs) (m : Nat), (∀ (k : Nat) (h : k < l.length), okAt (m + 1 + k) l[k] = true) ↔ l.all okB = true
  | [], m => by simp
  | x :: l, m => by
    rw [List.all_cons, Bool.and_eq_true, ← all_at l (m + 1)]
    constructor
    · intro h
      refine ⟨?_, fun k hk => ?_⟩
      · have := h 0 (by simp)
        simpa [okAt, okB] using this
      · have := h (k + 1) (by simpa using hk)
        rwa [show m + 1 + (k + 1) = m + 1 + 1 + k from by omega] at this
    · rintro ⟨h0, h1⟩ k hk
      cases k with
      | zero => simpa [okAt, okB] using h0
      | succ k =>
        have := h1 k (by simpa using hk)
        rw [show m + 1 + 1 + k = m + 1 + (k + 1) from by omega] at this
        simpa using this
theorem lab_iff (l : Bs) : labB l = true ↔ (∀ (k : Nat) (h : k < l.length), okAt k l[k] = true) ∧ l ≠ [] ∧ l.length ≤ 12 := by
  cases l with
  | nil => simp [labB]
  | cons x l =>
    unfold labB
    rw [Bool.and_eq_true, Bool.and_eq_true, decide_eq_true_eq, List.all_cons, Bool.and_eq_true]
    have := all_at l 0
    constructor
    · rintro ⟨⟨h1, h2⟩, h3, h4⟩
      refine ⟨fun k hk => ?_, by simp, h1⟩
      cases k with
      | zero => simp [okAt, h2]
      | succ k =>
        have := this.2 h4 k (by simpa using hk)
        rw [show 0 + 1 + k = k + 1 from by omega] at this
        simpa using this
    · rintro ⟨h1, -, h3⟩
      have h0 := h1 0 (by simp)
      simp [okAt] at h0
      refine ⟨⟨h3, h0⟩, by simp [okB, h0], this.1 (fun k hk => ?_)⟩
      have := h1 (k + 1) (by simpa using hk)
      rw [show 0 + 1 + k = k + 1 from by omega]
      simpa using this
set_option maxRecDepth 20000 in
set_option maxHeartbeats 4000000 in
theorem rlabel_any (s : ByteArray) (hs : s.size ≤ 140737488351232) (w : World) : Calls Tryd.prog 20 #[.string s] w fun e w' => e = .returned (.bool (labB s.data.toList)) ∧ w' = w := by
  have hl : s.data.toList.length = s.size := Array.length_toList
  go_enter Tryd.func20, Tryd.ntmps20
  go_wp2
  go_loopw [3] (fun i wr => ∃ j : Nat, i = .int .i64 (j : Int) ∧ j ≤ s.size ∧ (∀ (k : Nat) (h : k < s.data.toList.length), k < j → okAt k s.data.toList[k] = true) ∧ wr = w) (fun i _ => s.size - (intOf i).toNat)
  case atStart => exact ⟨0, rfl, Nat.zero_le _, (fun k h hk => by omega), rfl⟩
  case round =>
    obtain ⟨j, rfl, hj, hall, rfl⟩ := hrel
    by_cases hjs : j < s.size
    · have hjI : (j : Int) < (s.size : Int) := by omega
      have hj0 : (0 : Int) ≤ (j : Int) := by omega
      have hcj : s.data.toList[j]'(by omega) = s[j] := by simp [ByteArray.getElem_eq_getElem_data]
      have q1 : IntKind.i64.wrap ((j : Int) + 1) = (j : Int) + 1 := IntWalk.i64_in _ (by omega)
      have hyes : okAt j s[j] = true → Hid (∀ (k : Nat) (h : k < s.data.toList.length), k < j + 1 → okAt k s.data.toList[k] = true) := fun hk => Lib.hid fun k h hk1 => by
        by_cases e : k = j
        · subst e; rw [hcj]; exact hk
        · exact hall k h (by omega)
      have hno : okAt j s[j] = false → Hid (labB s.data.toList = false) := fun hk => Lib.hid (by
        cases hb : labB s.data.toList with
        | false => rfl
        | true =>
          have := ((lab_iff _).1 hb).1 j (by omega)
          rw [hcj, hk] at this
          cases this)
      have hcs : s[j].toNat < 48 ∨ (48 ≤ s[j].toNat ∧ s[j].toNat ≤ 57) ∨ (57 < s[j].toNat ∧ s[j].toNat < 97) ∨ (97 ≤ s[j].toNat ∧ s[j].toNat ≤ 122) ∨ 122 < s[j].toNat := by omega
      unfold okAt letB at hyes hno
      clear hall hcj
      rcases Nat.eq_zero_or_pos j with h0 | h0
      · have g0 : ¬ (0 : Int) < (j : Int) := by omega
        rcases hcs with hr | hr | hr | hr | hr
        · have g1 : (s[j].toNat : Int) < 97 := by omega
          have g2 : (s[j].toNat : Int) ≤ 122 := by omega
          have g3 : (s[j].toNat : Int) < 48 := by omega
          have g4 : (s[j].toNat : Int) ≤ 57 := by omega
          have HN := hno (by simp only [Bool.or_eq_false_iff, Bool.and_eq_false_iff, decide_eq_false_iff_not]; omega)
          clear hyes hno hr h0
          go_wp2
          go_ret
          exact ⟨by rw [HN.out]; rfl, rfl⟩
        · have g1 : (s[j].toNat : Int) < 97 := by omega
          have g2 : (s[j].toNat : Int) ≤ 122 := by omega
          have g3 : (48 : Int) ≤ (s[j].toNat : Int) := by omega
          have g4 : (s[j].toNat : Int) ≤ 57 := by omega
          have HN := hno (by simp only [Bool.or_eq_false_iff, Bool.and_eq_false_iff, decide_eq_false_iff_not]; omega)
          clear hyes hno hr h0
          go_wp2
          go_ret
          exact ⟨by rw [HN.out]; rfl, rfl⟩
        · have g1 : (s[j].toNat : Int) < 97 := by omega
          have g2 : (s[j].toNat : Int) ≤ 122 := by omega
          have g3 : (48 : Int) ≤ (s[j].toNat : Int) := by omega
          have g4 : (57 : Int) < (s[j].toNat : Int) := by omega
          have g6 : decide ((s[j].toNat : Int) ≤ 57) = false := decide_eq_false (by omega)
          have HN := hno (by simp only [Bool.or_eq_false_iff, Bool.and_eq_false_iff, decide_eq_false_iff_not]; omega)
          clear hyes hno hr h0
          go_wp2
          go_ret
          exact ⟨by rw [HN.out]; rfl, rfl⟩
        · have g1 : (97 : Int) ≤ (s[j].toNat : Int) := by omega
          have g2 : (s[j].toNat : Int) ≤ 122 := by omega
          have g3 : (48 : Int) ≤ (s[j].toNat : Int) := by omega
          have g4 : (57 : Int) < (s[j].toNat : Int) := by omega
          have g6 : decide ((s[j].toNat : Int) ≤ 57) = false := decide_eq_false (by omega)
          have HY := hyes (by simp only [Bool.or_eq_true, Bool.and_eq_true, decide_eq_true_eq]; omega)
          clear hyes hno hr h0
          go_wp2
          exact ⟨⟨j + 1, by first | rfl | (exact congrArg (Value.int .i64) (by omega)), by omega, HY.out, by first | rfl | trivial⟩, by simp [intOf]; omega⟩
        · have g1 : (97 : Int) ≤ (s[j].toNat : Int) := by omega
          have g2 : (122 : Int) < (s[j].toNat : Int) := by omega
          have g3 : (48 : Int) ≤ (s[j].toNat : Int) := by omega
          have g4 : (57 : Int) < (s[j].toNat : Int) := by omega
          have g5 : decide ((s[j].toNat : Int) ≤ 122) = false := decide_eq_false (by omega)
          have g6 : decide ((s[j].toNat : Int) ≤ 57) = false := decide_eq_false (by omega)
          have HN := hno (by simp only [Bool.or_eq_false_iff, Bool.and_eq_false_iff, decide_eq_false_iff_not]; omega)
          clear hyes hno hr h0
          go_wp2
          go_ret
          exact ⟨by rw [HN.out]; rfl, rfl⟩
      · have g0 : (0 : Int) < (j : Int) := by omega
        rcases hcs with hr | hr | hr | hr | hr
        · have g1 : (s[j].toNat : Int) < 97 := by omega
          have g2 : (s[j].toNat : Int) ≤ 122 := by omega
          have g3 : (s[j].toNat : Int) < 48 := by omega
          have g4 : (s[j].toNat : Int) ≤ 57 := by omega
          have HN := hno (by simp only [Bool.or_eq_false_iff, Bool.and_eq_false_iff, decide_eq_false_iff_not]; omega)
          clear hyes hno hr h0
          go_wp2
          go_ret
          exact ⟨by rw [HN.out]; rfl, rfl⟩
        · have g1 : (s[j].toNat : Int) < 97 := by omega
          have g2 : (s[j].toNat : Int) ≤ 122 := by omega
          have g3 : (48 : Int) ≤ (s[j].toNat : Int) := by omega
          have g4 : (s[j].toNat : Int) ≤ 57 := by omega
          have HY := hyes (by simp only [Bool.or_eq_true, Bool.and_eq_true, decide_eq_true_eq]; omega)
          clear hyes hno hr h0
          go_wp2
          exact ⟨⟨j + 1, by first | rfl | (exact congrArg (Value.int .i64) (by omega)), by omega, HY.out, by first | rfl | trivial⟩, by simp [intOf]; omega⟩
        · have g1 : (s[j].toNat : Int) < 97 := by omega
          have g2 : (s[j].toNat : Int) ≤ 122 := by omega
          have g3 : (48 : Int) ≤ (s[j].toNat : Int) := by omega
          have g4 : (57 : Int) < (s[j].toNat : Int) := by omega
          have g6 : decide ((s[j].toNat : Int) ≤ 57) = false := decide_eq_false (by omega)
          have HN := hno (by simp only [Bool.or_eq_false_iff, Bool.and_eq_false_iff, decide_eq_false_iff_not]; omega)
          clear hyes hno hr h0
          go_wp2
          go_ret
          exact ⟨by rw [HN.out]; rfl, rfl⟩
        · have g1 : (97 : Int) ≤ (s[j].toNat : Int) := by omega
          have g2 : (s[j].toNat : Int) ≤ 122 := by omega
          have g3 : (48 : Int) ≤ (s[j].toNat : Int) := by omega
          have g4 : (57 : Int) < (s[j].toNat : Int) := by omega
          have g6 : decide ((s[j].toNat : Int) ≤ 57) = false := decide_eq_false (by omega)
          have HY := hyes (by simp only [Bool.or_eq_true, Bool.and_eq_true, decide_eq_true_eq]; omega)
          clear hyes hno hr h0
          go_wp2
          exact ⟨⟨j + 1, by first | rfl | (exact congrArg (Value.int .i64) (by omega)), by omega, HY.out, by first | rfl | trivial⟩, by simp [intOf]; omega⟩
        · have g1 : (97 : Int) ≤ (s[j].toNat : Int) := by omega
          have g2 : (122 : Int) < (s[j].toNat : Int) := by omega
          have g3 : (48 : Int) ≤ (s[j].toNat : Int) := by omega
          have g4 : (57 : Int) < (s[j].toNat : Int) := by omega
          have g5 : decide ((s[j].toNat : Int) ≤ 122) = false := decide_eq_false (by omega)
          have g6 : decide ((s[j].toNat : Int) ≤ 57) = false := decide_eq_false (by omega)
          have HN := hno (by simp only [Bool.or_eq_false_iff, Bool.and_eq_false_iff, decide_eq_false_iff_not]; omega)
          clear hyes hno hr h0
          go_wp2
          go_ret
          exact ⟨by rw [HN.out]; rfl, rfl⟩
    · obtain rfl : j = s.size := by omega
      have hnlt : ¬ (s.size : Int) < (s.size : Int) := by omega
      have hfin : labB s.data.toList = (decide (s.data.toList ≠ []) && decide (s.data.toList.length ≤ 12)) := by
        cases hb : labB s.data.toList with
        | true =>
          have := (lab_iff _).1 hb
          rw [decide_eq_true this.2.1, decide_eq_true this.2.2]; rfl
        | false =>
          by_cases h1 : s.data.toList = []
          · simp [h1]
          · by_cases h2 : s.data.toList.length ≤ 12
            · have := (lab_iff _).2 ⟨fun k h => hall k h (by omega), h1, h2⟩
              rw [hb] at this
              cases this
            · rw [decide_eq_false h2]; simp
      rw [hl] at hfin
      clear hall
      have et : s.toList = s.data.toList := ByteArray.toList_eq s
      by_cases h1 : s.toList = []
      · have HF : Hid (labB s.data.toList = false) := Lib.hid (by rw [hfin, ← et, h1]; rfl)
        clear hfin et
        go_wp2
        go_ret
        exact ⟨by rw [HF.out]; rfl, rfl⟩
      · have h1' : s.toList.isEmpty = false := by simpa using h1
        by_cases h2 : (s.size : Int) ≤ 12
        · have HF : Hid (labB s.data.toList = true) := Lib.hid (by rw [hfin, ← et]; simp [h1]; omega)
          clear hfin et
          go_wp2
          go_ret
          exact ⟨by rw [HF.out]; rfl, rfl⟩
        · have HF : Hid (labB s.data.toList = false) := Lib.hid (by rw [hfin, ← et]; simp [h1]; omega)
          clear hfin et
          go_wp2
          go_ret
          exact ⟨by rw [HF.out]; rfl, rfl⟩
end Go.Proofs.YtmclcobklcjmnaaDoor

namespace Go.Proofs.YtmclcobklcjmnaaDoor
open Go.ChangeShapes Go.WideShapes Go.ChangeAt Go.RowKit Go.Deep
set_option linter.unusedVariables false

theorem cellsOf3 : Tryd.prog.cellsOf 3 = 1 := by kernel_rfl
theorem cellsOf30 : Tryd.prog.cellsOf 30 = 4 := by kernel_rfl
theorem bytesOf30 : Tryd.prog.bytesOf 30 = 32 := by kernel_rfl
theorem bytesOf3 : Tryd.prog.bytesOf 3 = 8 := by kernel_rfl
theorem add_add' (a : Addr) (i j : Nat) : (a.add i).add j = a.add (i + j) := by
  unfold Addr.add
  by_cases hi : i = 0
  · subst hi; simp
  · by_cases hj : j = 0
    · subst hj; simp
    · rw [if_neg hi, if_neg hj, if_neg (by omega)]; simp [Nat.add_assoc]
theorem addr_at' (b o i : Nat) : (⟨b, o, none⟩ : Addr).add i = ⟨b, o + i, none⟩ := by
  unfold Addr.add
  split
  · rename_i h; subst h; rfl
  · rfl
instance : Inhabited In := ⟨⟨0, 0, 0, 0⟩⟩
/-- a list of instructions that came in -/
def InsV (W : World) (v : Value) (l : List In) : Prop := ∃ ao cap, v = .slice ao l.length cap ∧ l.length ≤ cap ∧ (l ≠ [] → ∃ b o, ao = some ⟨b, o, none⟩ ∧ b < W.heap.size ∧ ∀ i (h : i < l.length),
  W.cell? ⟨b, o + i * 4, none⟩ = some (.int .i64 l[i].op) ∧ W.cell? ⟨b, o + (i * 4 + 1), none⟩ = some (.int .i64 l[i].a) ∧ W.cell? ⟨b, o + (i * 4 + 2), none⟩ = some (.int .i64 l[i].b) ∧ W.cell? ⟨b, o + (i * 4 + 3), none⟩ = some (.int .i64 l[i].imm))
/-- a list of numbers that came in -/
def IntV (W : World) (v : Value) (l : List Int) : Prop := ∃ ao cap, v = .slice ao l.length cap ∧ l.length ≤ cap ∧ l.length ≤ 140737488355328 ∧ (l ≠ [] → ∃ b o, ao = some ⟨b, o, none⟩ ∧ b < W.heap.size ∧ ∀ i (h : i < l.length), W.cell? ⟨b, o + i, none⟩ = some (.int .i64 l[i]))
set_option maxRecDepth 100000 in
theorem trod_in {H : Type} {enc : TypeId × Value → H} {W : World} {base : Nat} {held : Bool} {fuel : Nat} {cs : List Value} {x : DataW H × List MemPlace}
    (h : DataW.trod enc Tryd.prog W base (fun _ => true) held fuel 30 cs = some x) : ∃ p : In, cs = [.int .i64 p.op, .int .i64 p.a, .int .i64 p.b, .int .i64 p.imm] := by
  obtain ⟨xs, n, hn, rfl, hl, hlen, hf⟩ := DataW.trod_struct Tryd.underlying30 h
  rw [cellsOf30] at hl
  match cs, hl with
  | [c0, c1, c2, c3], _ =>
    match xs, hlen with
    | [y0, y1, y2, y3], _ =>
      have h0 : DataW.trod enc Tryd.prog W base (fun _ => true) held n 3 (([c0, c1, c2, c3].drop 0).take (Tryd.prog.cellsOf 3)) = [y0, y1, y2, y3][0]? := hf 0 _ rfl
      have h1 : DataW.trod enc Tryd.prog W base (fun _ => true) held n 3 (([c0, c1, c2, c3].drop 1).take (Tryd.prog.cellsOf 3)) = [y0, y1, y2, y3][1]? := hf 1 _ rfl
      have h2 : DataW.trod enc Tryd.prog W base (fun _ => true) held n 3 (([c0, c1, c2, c3].drop 2).take (Tryd.prog.cellsOf 3)) = [y0, y1, y2, y3][2]? := hf 2 _ rfl
      have h3 : DataW.trod enc Tryd.prog W base (fun _ => true) held n 3 (([c0, c1, c2, c3].drop 3).take (Tryd.prog.cellsOf 3)) = [y0, y1, y2, y3][3]? := hf 3 _ rfl
      rw [cellsOf3] at h0 h1 h2 h3
      simp at h0 h1 h2 h3
      obtain ⟨a0, e0, _, _⟩ := DataW.trod_int Tryd.underlying3 h0
      cases e0
      obtain ⟨a1, e1, _, _⟩ := DataW.trod_int Tryd.underlying3 h1
      cases e1
      obtain ⟨a2, e2, _, _⟩ := DataW.trod_int Tryd.underlying3 h2
      cases e2
      obtain ⟨a3, e3, _, _⟩ := DataW.trod_int Tryd.underlying3 h3
      cases e3
      exact ⟨⟨a0, a1, a2, a3⟩, rfl⟩
set_option maxRecDepth 100000 in
theorem instrs_of {H : Type} {enc : TypeId × Value → H} {W : World} {base b0 : Nat} {v : Value} {d : DataW H} {p : List MemPlace} {held : Bool} (hv : Value.okWide Tryd.prog W .any b0 36 v)
    (h : DataW.Trod enc Tryd.prog W base (fun _ => true) held 36 v d p) : ∃ l, InsV W v l := by
  obtain ⟨ao, len, cap, rfl⟩ := okWide_slice Tryd.underlying36 hv
  obtain ⟨fuel, hf⟩ := h
  rcases DataW.trod_slice Tryd.underlying36 hf with ⟨hcs, _⟩ | ⟨a, len', cap', elems, rest, m, hm, hcs, hx, hb, hlc, hcm, hel, hev, _, _⟩
  · simp [Value.cells] at hcs
    obtain ⟨rfl, rfl, rfl⟩ := hcs
    exact ⟨[], none, 0, rfl, Nat.le_refl _, fun h => absurd rfl h⟩
  · simp [Value.cells] at hcs
    obtain ⟨rfl, rfl, rfl⟩ := hcs
    have each : ∀ i, i < len → ∃ p : In, W.cell? (a.add (i * 4)) = some (.int .i64 p.op) ∧ W.cell? (a.add (i * 4 + 1)) = some (.int .i64 p.a) ∧ W.cell? (a.add (i * 4 + 2)) = some (.int .i64 p.b) ∧ W.cell? (a.add (i * 4 + 3)) = some (.int .i64 p.imm) := by
      intro i hi
      have he := hev i hi
      rw [cellsOf30] at he
      obtain ⟨cs', hc', ht'⟩ := Option.bind_eq_some_iff.1 (he.trans (List.getElem?_eq_getElem (by omega)))
      obtain ⟨p, hcs'⟩ := trod_in ht'
      obtain ⟨_, hlen', hcell⟩ := World.cells?_some hc'
      have q0 := hcell 0 (by omega)
      have q1 := hcell 1 (by omega)
      have q2 := hcell 2 (by omega)
      have q3 := hcell 3 (by omega)
      rw [add_add', hcs'] at q0 q1 q2 q3
      exact ⟨p, q0, q1, q2, q3⟩
    obtain ⟨q, hq⟩ := choose_lt each
    have e1 : ((List.range len).map q).length = len := by simp
    refine ⟨(List.range len).map q, some a, cap, by rw [e1], by rw [e1]; exact hlc, fun hne => ?_⟩
    have hl0 : 0 < len := by
      rcases Nat.eq_zero_or_pos len with e | e
      · subst e; simp at hne
      · exact e
    obtain ⟨b, o, spot⟩ := a
    have hz := (hq 0 hl0).1
    have hspot : spot = none := by simpa [Addr.add] using World.cell?_spot hz
    subst hspot
    refine ⟨b, o, rfl, ?_, fun j hj => ?_⟩
    · exact World.block_lt_of_cell? W _ hz
    · rw [e1] at hj
      obtain ⟨g1, g2, g3, g4⟩ := hq j hj
      rw [addr_at'] at g1 g2 g3 g4
      have e2 : ((List.range len).map q)[j]'(by rw [e1]; exact hj) = q j := by simp
      rw [e2]
      exact ⟨g1, g2, g3, g4⟩
set_option maxRecDepth 100000 in
theorem ints_of {H : Type} {enc : TypeId × Value → H} {W : World} {base b0 : Nat} {v : Value} {d : DataW H} {p : List MemPlace} {held : Bool} (hv : Value.okWide Tryd.prog W .any b0 42 v)
    (h : DataW.Trod enc Tryd.prog W base (fun _ => true) held 42 v d p) (hwt : ∀ u ∈ d.weights Tryd.prog 42, u ≤ reachBytes) : ∃ l, IntV W v l := by
  obtain ⟨ao, len, cap, rfl⟩ := okWide_slice Tryd.underlying42 hv
  obtain ⟨fuel, hf⟩ := h
  rcases DataW.trod_slice Tryd.underlying42 hf with ⟨hcs, _⟩ | ⟨a, len', cap', elems, rest, m, hm, hcs, hx, hb, hlc, hcm, hel, hev, _, _⟩
  · simp [Value.cells] at hcs
    obtain ⟨rfl, rfl, rfl⟩ := hcs
    exact ⟨[], none, 0, rfl, Nat.le_refl _, by simp, fun h => absurd rfl h⟩
  · simp [Value.cells] at hcs
    obtain ⟨rfl, rfl, rfl⟩ := hcs
    have hx' : d = _ := congrArg Prod.fst hx
    rw [hx', DataW.weights, Tryd.underlying42] at hwt
    have hfew : (elems.length + rest.length) * Tryd.prog.bytesOf 3 ≤ reachBytes := by
      have := hwt _ (List.mem_cons_self ..)
      simpa using this
    rw [bytesOf3] at hfew
    have hR := reachBytes_lt
    have each : ∀ i, i < len → ∃ p : Int, W.cell? (a.add i) = some (.int .i64 p) := by
      intro i hi
      have he := hev i hi
      rw [cellsOf3] at he
      obtain ⟨cs', hc', ht'⟩ := Option.bind_eq_some_iff.1 (he.trans (List.getElem?_eq_getElem (by omega)))
      obtain ⟨p, hcs', _, _⟩ := DataW.trod_int Tryd.underlying3 ht'
      obtain ⟨_, hlen', hcell⟩ := World.cells?_some hc'
      have q0 := hcell 0 (by omega)
      rw [add_add', hcs'] at q0
      exact ⟨p, by simpa using q0⟩
    obtain ⟨q, hq⟩ := choose_lt each
    have e1 : ((List.range len).map q).length = len := by simp
    refine ⟨(List.range len).map q, some a, cap, by rw [e1], by rw [e1]; exact hlc, by rw [e1]; omega, fun hne => ?_⟩
    have hl0 : 0 < len := by
      rcases Nat.eq_zero_or_pos len with e | e
      · subst e; simp at hne
      · exact e
    obtain ⟨b, o, spot⟩ := a
    have hz := hq 0 hl0
    have hspot : spot = none := by simpa [Addr.add] using World.cell?_spot hz
    subst hspot
    refine ⟨b, o, rfl, ?_, fun j hj => ?_⟩
    · exact World.block_lt_of_cell? W _ hz
    · rw [e1] at hj
      have g1 := hq j hj
      rw [addr_at'] at g1
      have e2 : ((List.range len).map q)[j]'(by rw [e1]; exact hj) = q j := by simp
      rw [e2]
      exact g1
theorem InsV.below {W W' : World} {v : Value} {l : List In} (h : InsV W v l) (hb : Below W.heap.size W W') : InsV W' v l := by
  obtain ⟨ao, cap, h1, h2, h3⟩ := h
  refine ⟨ao, cap, h1, h2, fun hne => ?_⟩
  obtain ⟨b, o, e, hlt, hc⟩ := h3 hne
  refine ⟨b, o, e, Nat.lt_of_lt_of_le hlt hb.size, fun i hi => ?_⟩
  have f : ∀ k, W'.cell? ⟨b, k, none⟩ = W.cell? ⟨b, k, none⟩ := fun k => by simp only [World.cell?, hb.block b hlt]
  rw [f, f, f, f]
  exact hc i hi
theorem IntV.below {W W' : World} {v : Value} {l : List Int} (h : IntV W v l) (hb : Below W.heap.size W W') : IntV W' v l := by
  obtain ⟨ao, cap, h1, h2, h4, h3⟩ := h
  refine ⟨ao, cap, h1, h2, h4, fun hne => ?_⟩
  obtain ⟨b, o, e, hlt, hc⟩ := h3 hne
  refine ⟨b, o, e, Nat.lt_of_lt_of_le hlt hb.size, fun i hi => ?_⟩
  have f : ∀ k, W'.cell? ⟨b, k, none⟩ = W.cell? ⟨b, k, none⟩ := fun k => by simp only [World.cell?, hb.block b hlt]
  rw [f]
  exact hc i hi
end Go.Proofs.YtmclcobklcjmnaaDoor

namespace Go.Proofs.YtmclcobklcjmnaaDoor
open Go.RowKit Go.Maps
set_option linter.unusedVariables false
set_option linter.unusedSimpArgs false

/-- the instructions that may be, of the first j -/
def oks (l : List In) (j : Nat) : List In := (l.take j).filter (fun i => okI i)
theorem oks_ok (l : List In) (j : Nat) : ∀ i ∈ oks l j, okI i = true := fun i hi => (List.mem_filter.1 hi).2
theorem oks_len (l : List In) (j : Nat) : (oks l j).length ≤ j := by
  have := List.length_filter_le (fun i => okI i) (l.take j)
  have h2 := List.length_take_le j l
  unfold oks
  omega
theorem oks_yes {l : List In} {j : Nat} (h : j < l.length) (ho : okI l[j] = true) : oks l (j + 1) = oks l j ++ [l[j]] := by
  unfold oks
  rw [List.take_succ_eq_append_getElem h, List.filter_append]
  simp [ho]
theorem oks_no {l : List In} {j : Nat} (h : j < l.length) (ho : ¬ okI l[j] = true) : oks l (j + 1) = oks l j := by
  unfold oks
  rw [List.take_succ_eq_append_getElem h, List.filter_append]
  simp [ho]
theorem rowsB_snoc (is : List In) (i : In) : rowsB (is ++ [i]) = rowsB is ++ (prnI i ++ [10]) := by simp [rowsB]
theorem rowsB_len : ∀ (is : List In), (∀ i ∈ is, okI i = true) → (rowsB is).length ≤ 29 * is.length
  | [], _ => by simp [rowsB]
  | i :: is, h => by
    have h1 := rowsB_len is (fun x hx => h x (by simp [hx]))
    have h2 := prn_short i (h i (by simp))
    have e : rowsB (i :: is) = prnI i ++ [10] ++ rowsB is := by simp [rowsB]
    rw [e]
    simp only [List.length_append, List.length_cons, List.length_nil]
    omega
def jumpA : ByteArray := ⟨#[106, 117, 109, 112, 32, 64]⟩
def someA : ByteArray := ⟨#[115, 111, 109, 101, 32, 114, 51, 32, 64]⟩
theorem list_jump (s : ByteArray) (R : Bs) : (jumpA ++ s ++ ⟨#[10]⟩ ++ str R ++ s ++ ⟨#[58, 10]⟩).data.toList = jumpL ++ 64 :: s.data.toList ++ [10] ++ (R ++ (s.data.toList ++ [58] ++ [10])) := by
  simp [jumpA, jumpL, str]
theorem list_some (s : ByteArray) (R : Bs) : (s ++ ⟨#[58, 10]⟩ ++ str R ++ someA ++ s).data.toList = s.data.toList ++ [58] ++ [10] ++ (R ++ (someL ++ 64 :: s.data.toList)) := by
  simp [someA, someL, str]
set_option maxRecDepth 20000 in
set_option maxHeartbeats 4000000 in
theorem labels_law (v : Value) (l : List In) (s : ByteArray) (hs : s.size ≤ 140737488351232) (w : World) (hv : InsV w v l) (hL : LaidV w) : Calls Tryd.prog 6 #[v, .string s] w fun e w' => e = .returned (.bool true) ∧ Below w.heap.size w w' := by
  obtain ⟨ao, cap, rfl, hcap, -⟩ := id hv
  obtain ⟨B0, hB0⟩ : ∃ B0, B0 = w.heap.size := ⟨_, rfl⟩
  have HL : Hid (∀ W, Below B0 w W → LaidV W) := Lib.hid fun W hW => hL.below (by rw [← hB0]; exact hW)
  have KF : Hid (∀ W, LaidV W → Calls Tryd.prog 12 #[] W fun e w' => e = .returned (.bool true) ∧ Below W.heap.size W w') := Lib.hid fun W hW => fixed_any W hW
  have KL := Lib.hid (fun W => rlabel_any s hs W)
  have H0 : Hid (Below B0 w w) := Lib.hid (Below.refl _ _)
  have HV := Lib.hid (And.intro hv hB0)
  clear hL hv
  cases hlab : labB s.data.toList with
  | false =>
    rw [hlab] at KL
    go_enter Tryd.func6, Tryd.ntmps6
    go_wp2_with (fail)
    refine (KF.out _ (HL.out _ H0.out)).mono ?_
    rintro e w1 ⟨rfl, hb1⟩
    have H1 : Hid (Below w.heap.size w w1) := Lib.hid hb1
    clear hb1
    go_wp2_with (fail)
    refine (KL.out _).mono ?_
    rintro e w2 ⟨rfl, rfl⟩
    go_wp2
    go_ret
    exact ⟨rfl, H1.out⟩
  | true =>
    rw [hlab] at KL
    by_cases hn : 1000 < l.length
    · have hnI : (1000 : Int) < (l.length : Int) := by omega
      go_enter Tryd.func6, Tryd.ntmps6
      go_wp2_with (fail)
      refine (KF.out _ (HL.out _ H0.out)).mono ?_
      rintro e w1 ⟨rfl, hb1⟩
      have H1 : Hid (Below w.heap.size w w1) := Lib.hid hb1
      clear hb1
      go_wp2_with (fail)
      refine (KL.out _).mono ?_
      rintro e w2 ⟨rfl, rfl⟩
      go_wp2
      go_ret
      exact ⟨rfl, H1.out⟩
    · have hnI : ¬ (1000 : Int) < (l.length : Int) := by omega
      go_enter Tryd.func6, Tryd.ntmps6
      go_wp2_with (fail)
      refine (KF.out _ (HL.out _ H0.out)).mono ?_
      rintro e w1 ⟨rfl, hb1⟩
      have H1 : Hid (Below B0 w w1) := Lib.hid (by rw [hB0]; exact hb1)
      clear hb1
      go_wp2_with (fail)
      refine (KL.out _).mono ?_
      rintro e w2 ⟨rfl, rfl⟩
      go_wp2
      obtain ⟨X, hX⟩ : ∃ X, X = w2.heap.size := ⟨_, rfl⟩
      obtain ⟨w3, hw3⟩ : ∃ w3, w3 = w2.alloc (.cells #[] 5) := ⟨_, rfl⟩
      have hown0 : w3.ownsRow B0 5 1 (.slice (some ⟨X, 0, none⟩) 0 0) (rowsB (oks l 0)).length (Lib.byteCells (rowsB (oks l 0))) :=
        ⟨rfl, .inr ⟨X, 0, #[], rfl, by rw [hX, hB0]; exact H1.out.size, by rw [hw3, hX]; exact World.alloc_heap_new w2 _, Nat.le_refl _, Nat.zero_le _, rfl, rfl⟩⟩
      have hbel0 : Below B0 w w3 := by rw [hw3]; exact H1.out.alloc (by rw [hB0]; exact H1.out.size) _
      have HS := Lib.hid (And.intro hown0 (And.intro hbel0 hB0))
      clear hown0 hbel0
      rw [← hw3, ← hX]
      clear hw3 hX hB0
      go_loopw [5, 6, 7] (fun a5 a6 a7 wr => ∃ j : Nat, a7 = .int .i64 (j : Int) ∧ j ≤ l.length ∧ a6 = .int .i64 ((oks l j).length : Int) ∧ wr.ownsRow B0 5 1 a5 (rowsB (oks l j)).length (Lib.byteCells (rowsB (oks l j))) ∧ Below B0 w wr) (fun _ _ a7 _ => l.length - (intOf a7).toNat)
      case atStart => exact ⟨0, rfl, Nat.zero_le _, rfl, HS.out.1, HS.out.2.1⟩
      case round =>
        obtain ⟨j, rfl, hj, rfl, hown, hbel⟩ := hrel
        have hw0 : B0 ≤ w.heap.size := by have := HS.out.2.2; omega
        have hsz : B0 ≤ wr.heap.size := Nat.le_trans hw0 hbel.size
        have hol := oks_len l j
        have hrl := rowsB_len (oks l j) (oks_ok l j)
        by_cases hjn : j < l.length
        · have hjI : (j : Int) < (l.length : Int) := by omega
          have q1 : IntKind.i64.wrap ((j : Int) + 1) = (j : Int) + 1 := IntWalk.i64_in _ (by omega)
          have q2 : IntKind.i64.wrap (((oks l j).length : Int) + 1) = ((oks l j).length : Int) + 1 := IntWalk.i64_in _ (by omega)
          obtain ⟨ao', cap', hve, hcp, hcells⟩ := HV.out.1.below (W' := wr) (by rw [← HS.out.2.2]; exact hbel)
          injection hve with e1 e2 e3
          subst e1 e3
          obtain ⟨b, o, rfl, hblt, hc⟩ := hcells (fun e => by rw [e] at hjn; simp at hjn)
          obtain ⟨x0, x1, x2, x3⟩ := hc j hjn
          obtain ⟨x, hx⟩ : ∃ x, x = l[j] := ⟨_, rfl⟩
          rw [← hx] at x0 x1 x2 x3
          obtain ⟨xo, xa, xb, xi⟩ := x
          dsimp only at x0 x1 x2 x3
          rw [← Nat.add_assoc] at x1 x2 x3
          have KP := Lib.hid (fun W hW => prn_any ⟨xo, xa, xb, xi⟩ W hW)
          unfold inV at KP
          dsimp only at KP
          have hbI : (j : Int) < (cap : Int) := by omega
          have HJ := Lib.hid (And.intro hown (And.intro hbel (And.intro hx hcells)))
          clear hcells hc hcp
          by_cases hok : okI l[j] = true
          · have hxo : okI ⟨xo, xa, xb, xi⟩ = true := by rw [hx]; exact hok
            have hsn := oks_yes hjn hok
            rw [← hx] at hsn
            obtain ⟨P, hP⟩ : ∃ P, P = prnI ⟨xo, xa, xb, xi⟩ := ⟨_, rfl⟩
            have hPl : P.length ≤ 28 := by rw [hP]; exact prn_short _ hxo
            rw [show prnS ⟨xo, xa, xb, xi⟩ = P from by unfold prnS; rw [if_pos hxo, hP], show ckE ⟨xo, xa, xb, xi⟩ = 0 from by unfold ckE; rw [if_pos hxo]] at KP
            have v1 : ¬ 281474976710656 < (str P).size + 1 := by rw [str_size]; omega
            have v2 : ¬ 281474976710656 < P.length + 1 := by omega
            have hro : rowsB (oks l (j + 1)) = rowsB (oks l j) ++ (str P ++ (⟨#[10]⟩ : ByteArray)).data.toList := by rw [hsn, rowsB_snoc, ← hP]; simp [str]
            have hmo : (oks l (j + 1)).length = (oks l j).length + 1 := by rw [hsn]; simp
            clear hown hbel hx hsn hP hxo
            go_wp2_with (fail)
            refine (KP.out _ (HL.out _ HJ.out.2.1)).mono ?_
            rintro e w5 ⟨rfl, hb5⟩
            have hg5 : wr.grownBy w5 none := ⟨hb5.os, hb5.tape, hb5.output, hb5.size, fun i hi _ => hb5.block i hi⟩
            have hown5 := HJ.out.1.kept hg5 (by cases u5.ownBlock <;> simp)
            have hbel5 : Below B0 w w5 := HJ.out.2.1.trans (hb5.mono hsz)
            obtain ⟨v', w6, hr, hown', hg⟩ := app_own hown5 (str P ++ (⟨#[10]⟩ : ByteArray)) (by rw [ByteArray.size_append, str_size]; show _ + (_ + 1) ≤ _; omega) (Nat.le_trans hsz hb5.size)
            rw [← hro] at hown'
            have HN := Lib.hid (And.intro hown' (own_below hbel5 (Nat.le_trans hsz hb5.size) hown5 hg))
            clear hb5 hg5 hown5 hbel5 hown' hg hro
            go_wp2_with (at_builtin; refine Lib.wpList_append_run _ rfl _ _ 37 9 rfl _ _ rfl rfl _ w6 hr ?_)
            go_roundw
            case rel => exact ⟨j + 1, by first | rfl | (exact congrArg (Value.int .i64) (by omega)), by omega, by rw [hmo]; first | rfl | (exact congrArg (Value.int .i64) (by omega)), HN.out⟩
            case measure => simp [intOf]; omega
          · have hxo : ¬ okI ⟨xo, xa, xb, xi⟩ = true := by rw [hx]; exact hok
            have hsn := oks_no hjn hok
            rw [show ckE ⟨xo, xa, xb, xi⟩ = 90 from by unfold ckE; rw [if_neg hxo]] at KP
            clear hown hbel hx hxo
            go_wp2_with (fail)
            refine (KP.out _ (HL.out _ HJ.out.2.1)).mono ?_
            rintro e w5 ⟨rfl, hb5⟩
            have hg5 : wr.grownBy w5 none := ⟨hb5.os, hb5.tape, hb5.output, hb5.size, fun i hi _ => hb5.block i hi⟩
            have hown5 := HJ.out.1.kept hg5 (by cases u5.ownBlock <;> simp)
            have hbel5 : Below B0 w w5 := HJ.out.2.1.trans (hb5.mono hsz)
            rw [← hsn] at hown5
            have HN := Lib.hid (And.intro hown5 hbel5)
            clear hb5 hg5 hown5 hbel5
            go_wp2
            go_roundw
            case rel => exact ⟨j + 1, by first | rfl | (exact congrArg (Value.int .i64) (by omega)), by omega, by rw [hsn], HN.out⟩
            case measure => simp [intOf]; omega
        · obtain rfl : j = l.length := by omega
          have hcv := conv_own hown
          have hio := oks_ok l l.length
          have hpl := (lab_chars hlab).2.1
          have hll : s.data.toList.length = s.size := Array.length_toList
          generalize hisd : oks l l.length = is at *
          obtain ⟨m, hm⟩ : ∃ m, m = is.length := ⟨_, rfl⟩
          obtain ⟨R, hR⟩ : ∃ R, R = rowsB is := ⟨_, rfl⟩
          rw [← hm, ← hR] at hrl
          rw [← hm] at hol
          rw [← hR] at hcv
          have hm1000 : m ≤ 1000 := by omega
          obtain ⟨F, hF⟩ : ∃ F, F = (is.map encI).flatten := ⟨_, rfl⟩
          have hFl : F.length = 4 * m := by rw [hF, hm]; exact flat_len is
          have KA : Hid (∀ W, LaidV W → Calls Tryd.prog 10 #[.string (jumpA ++ s ++ ⟨#[10]⟩ ++ str R ++ s ++ ⟨#[58, 10]⟩)] W fun e w' => e = .returned (.tuple #[.string (str (encI ⟨24, 0, 0, (m : Int)⟩ ++ F)), .int .i64 0, .int .i64 0]) ∧ Below W.heap.size W w') := Lib.hid fun W hW => by
            have := asm_any (jumpA ++ s ++ ⟨#[10]⟩ ++ str R ++ s ++ ⟨#[58, 10]⟩) W hW
            rw [list_jump] at this
            unfold asmR at this
            rw [if_neg (by simp only [List.length_append, List.length_cons, List.length_nil, hll]; simp [jumpL]; try omega), hR, asm_ahead is hio (by omega) _ hlab, ← hm, ← hF] at this
            rw [hR]
            exact this
          have KB : Hid (∀ W, LaidV W → Calls Tryd.prog 10 #[.string (s ++ ⟨#[58, 10]⟩ ++ str R ++ someA ++ s)] W fun e w' => e = .returned (.tuple #[.string (str (F ++ encI ⟨26, 3, 0, -(m : Int) - 1⟩)), .int .i64 0, .int .i64 0]) ∧ Below W.heap.size W w') := Lib.hid fun W hW => by
            have := asm_any (s ++ ⟨#[58, 10]⟩ ++ str R ++ someA ++ s) W hW
            rw [list_some] at this
            unfold asmR at this
            rw [if_neg (by simp only [List.length_append, List.length_cons, List.length_nil, hll]; simp [someL]; try omega), hR, asm_behind is hio (by omega) _ hlab, ← hm, ← hF] at this
            rw [hR]
            exact this
          unfold jumpA at KA
          unfold someA at KB
          have HN := Lib.hid (And.intro hown hbel)
          have sz1 : (str R).size = R.length := str_size R
          have lnJ : (str (encI ⟨24, 0, 0, (m : Int)⟩ ++ F)).size = 4 * m + 4 := by rw [str_size, List.length_append, enc_len, hFl]; omega
          have lnS : (str (F ++ encI ⟨26, 3, 0, -(m : Int) - 1⟩)).size = 4 * m + 4 := by rw [str_size, List.length_append, enc_len, hFl]
          have hFt : (encI ⟨24, 0, 0, (m : Int)⟩ ++ F).take 4 = encI ⟨24, 0, 0, (m : Int)⟩ := by rw [List.take_append_of_le_length (by rw [enc_len]; omega), List.take_of_length_le (by rw [enc_len]; omega)]
          have exJ : (str (encI ⟨24, 0, 0, (m : Int)⟩ ++ F)).extract 0 4 = str (encI ⟨24, 0, 0, (m : Int)⟩) := by rw [ext_take _ _ (by omega), str_list, hFt]
          have exJ2 : (str (encI ⟨24, 0, 0, (m : Int)⟩ ++ F)).extract 4 (4 * m + 4) = str F := by
            have := ext_drop (str (encI ⟨24, 0, 0, (m : Int)⟩ ++ F)) 4
            rw [lnJ, str_list] at this
            rw [this]
            congr 1
          have exS : (str (F ++ encI ⟨26, 3, 0, -(m : Int) - 1⟩)).extract (4 * m) (4 * m + 4) = str (encI ⟨26, 3, 0, -(m : Int) - 1⟩) := by
            have := ext_drop (str (F ++ encI ⟨26, 3, 0, -(m : Int) - 1⟩)) (4 * m)
            rw [lnS, str_list] at this
            rw [this, ← hFl, List.drop_left]
          have exS2 : (str (F ++ encI ⟨26, 3, 0, -(m : Int) - 1⟩)).extract 0 (4 * m) = str F := by rw [ext_take _ _ (by omega), str_list, ← hFl, List.take_left]
          have KJ : Hid (∀ W, Calls Tryd.prog 18 #[.string (str (encI ⟨24, 0, 0, (m : Int)⟩))] W fun e w' => e = .returned (.tuple #[.agg #[.int .i64 24, .int .i64 0, .int .i64 0, .int .i64 (m : Int)], .int .i64 0]) ∧ Below W.heap.size W w') := Lib.hid fun W => by
            have := dec_any (str (encI ⟨24, 0, 0, (m : Int)⟩)) W
            rw [str_list] at this
            unfold decV decE at this
            rw [dec_enc _ (ok_jump (m : Int) (by omega) (by omega))] at this
            exact this
          have KO : Hid (∀ W, Calls Tryd.prog 18 #[.string (str (encI ⟨26, 3, 0, -(m : Int) - 1⟩))] W fun e w' => e = .returned (.tuple #[.agg #[.int .i64 26, .int .i64 3, .int .i64 0, .int .i64 (-(m : Int) - 1)], .int .i64 0]) ∧ Below W.heap.size W w') := Lib.hid fun W => by
            have := dec_any (str (encI ⟨26, 3, 0, -(m : Int) - 1⟩)) W
            rw [str_list] at this
            unfold decV decE at this
            rw [dec_enc _ (ok_some (-(m : Int) - 1) (by omega) (by omega))] at this
            exact this
          obtain ⟨AJ, hAJ⟩ : ∃ AJ, AJ = str (encI ⟨24, 0, 0, (m : Int)⟩ ++ F) := ⟨_, rfl⟩
          obtain ⟨AS, hAS⟩ : ∃ AS, AS = str (F ++ encI ⟨26, 3, 0, -(m : Int) - 1⟩) := ⟨_, rfl⟩
          obtain ⟨EJ, hEJ⟩ : ∃ EJ, EJ = str (encI ⟨24, 0, 0, (m : Int)⟩) := ⟨_, rfl⟩
          obtain ⟨ES, hES⟩ : ∃ ES, ES = str (encI ⟨26, 3, 0, -(m : Int) - 1⟩) := ⟨_, rfl⟩
          obtain ⟨FS, hFS⟩ : ∃ FS, FS = str F := ⟨_, rfl⟩
          rw [← hAJ] at KA lnJ exJ exJ2
          rw [← hAS] at KB lnS exS exS2
          rw [← hEJ] at exJ KJ
          rw [← hES] at exS KO
          rw [← hFS] at exJ2 exS2
          have g1 : (AJ.size : Int) = 4 * (m : Int) + 4 := by omega
          have g2 : (AS.size : Int) = 4 * (m : Int) + 4 := by omega
          have u1 : IntKind.i64.wrap (4 * (m : Int)) = 4 * (m : Int) := IntWalk.i64_in _ (by omega)
          have u2 : IntKind.i64.wrap (4 * (m : Int) + 4) = 4 * (m : Int) + 4 := IntWalk.i64_in _ (by omega)
          have u3 : IntKind.i64.wrap (-(m : Int)) = -(m : Int) := IntWalk.i64_in _ (by omega)
          have u4 : IntKind.i64.wrap (-(m : Int) - 1) = -(m : Int) - 1 := IntWalk.i64_in _ (by omega)
          have b1 : (4 : Int) ≤ 4 * (m : Int) + 4 := by omega
          have b2 : (0 : Int) ≤ 4 * (m : Int) := by omega
          have b3 : 4 * (m : Int) ≤ 4 * (m : Int) + 4 := by omega
          have b4 : (4 * (m : Int)).toNat = 4 * m := by omega
          have ss : s.size ≤ 12 := by omega
          have o1 : (({ data := #[106, 117, 109, 112, 32, 64] } : ByteArray) ++ s).size = 6 + s.size := by rw [ByteArray.size_append]; rfl
          have o2 : (({ data := #[106, 117, 109, 112, 32, 64] } : ByteArray) ++ s ++ ({ data := #[10] } : ByteArray)).size = 6 + s.size + 1 := by rw [ByteArray.size_append, o1]; rfl
          have o3 : (({ data := #[106, 117, 109, 112, 32, 64] } : ByteArray) ++ s ++ ({ data := #[10] } : ByteArray) ++ str R).size = 6 + s.size + 1 + R.length := by rw [ByteArray.size_append, o2, sz1]
          have o4 : (({ data := #[106, 117, 109, 112, 32, 64] } : ByteArray) ++ s ++ ({ data := #[10] } : ByteArray) ++ str R ++ s).size = 6 + s.size + 1 + R.length + s.size := by rw [ByteArray.size_append, o3]
          have p1 : (s ++ ({ data := #[58, 10] } : ByteArray)).size = s.size + 2 := by rw [ByteArray.size_append]; rfl
          have p2 : (s ++ ({ data := #[58, 10] } : ByteArray) ++ str R).size = s.size + 2 + R.length := by rw [ByteArray.size_append, p1, sz1]
          have p3 : (s ++ ({ data := #[58, 10] } : ByteArray) ++ str R ++ ({ data := #[115, 111, 109, 101, 32, 114, 51, 32, 64] } : ByteArray)).size = s.size + 2 + R.length + 9 := by rw [ByteArray.size_append, p2]; rfl
          have z1 : ¬ 281474976710656 < 6 + s.size := by omega
          have z2 : ¬ 281474976710656 < 6 + s.size + 1 := by omega
          have z3 : ¬ 281474976710656 < 6 + s.size + 1 + R.length := by omega
          have z4 : ¬ 281474976710656 < 6 + s.size + 1 + R.length + s.size := by omega
          have z5 : ¬ 281474976710656 < 6 + s.size + 1 + R.length + s.size + 2 := by omega
          have y1 : ¬ 281474976710656 < s.size + 2 := by omega
          have y2 : ¬ 281474976710656 < s.size + 2 + R.length := by omega
          have y3 : ¬ 281474976710656 < s.size + 2 + R.length + 9 := by omega
          have y4 : ¬ 281474976710656 < s.size + 2 + R.length + 9 + s.size := by omega
          have HG := Lib.hid hbel
          have HC : Hid (∀ w', wr.grownBy w' none → (convert 37 9 u5).run Tryd.prog w' = .ok (.string (str R)) w') := Lib.hid fun w' hg => by
            rw [hR]
            exact conv_own (hown.kept hg (by cases u5.ownBlock <;> simp))
          rw [← hm]
          rw [← lnS] at exS
          rw [← lnJ] at exJ2
          clear hAJ hAS hEJ hES hFS hR hF hFl hFt hm hisd hio hown hbel hll hol hrl lnJ lnS
          go_wp2_with (fail)
          refine (KA.out _ (HL.out _ HG.out)).mono ?_
          rintro e wA ⟨rfl, hbA⟩
          have hgA : wr.grownBy wA none := ⟨hbA.os, hbA.tape, hbA.output, hbA.size, fun i hi _ => hbA.block i hi⟩
          have hcA := HC.out _ hgA
          have HA : Hid (Below B0 w wA ∧ B0 ≤ wA.heap.size) := Lib.hid ⟨HG.out.trans (hbA.mono hsz), Nat.le_trans hsz hbA.size⟩
          clear hbA hgA
          go_wp2_with (fail)
          refine (KB.out _ (HL.out _ HA.out.1)).mono ?_
          rintro e wB ⟨rfl, hbB⟩
          have HB : Hid (Below B0 w wB ∧ B0 ≤ wB.heap.size) := Lib.hid ⟨HA.out.1.trans (hbB.mono HA.out.2), Nat.le_trans HA.out.2 hbB.size⟩
          clear hbB hcA
          go_wp2_with (fail)
          refine (KJ.out _).mono ?_
          rintro e wJ ⟨rfl, hbJ⟩
          have HJ : Hid (Below B0 w wJ ∧ B0 ≤ wJ.heap.size) := Lib.hid ⟨HB.out.1.trans (hbJ.mono HB.out.2), Nat.le_trans HB.out.2 hbJ.size⟩
          clear hbJ
          go_wp2_with (fail)
          obtain ⟨X1, hX1⟩ : ∃ b, b = wJ.heap.size := ⟨_, rfl⟩
          obtain ⟨w7, hw7⟩ : ∃ w7, w7 = wJ.alloc (Obj.cells #[Value.int .i64 24, Value.int .i64 0, Value.int .i64 0, Value.int .i64 (m : Int)] 30) := ⟨_, rfl⟩
          have h7 : Hid (Below B0 w w7 ∧ B0 ≤ w7.heap.size) := Lib.hid ⟨by rw [hw7]; exact HJ.out.1.alloc HJ.out.2 _, by rw [hw7]; have := HJ.out.2; simp only [World.alloc, Array.size_push]; omega⟩
          have c7 : Hid (X1 < w7.heap.size ∧ w7.heap[X1]? = some (Obj.cells #[Value.int .i64 24, Value.int .i64 0, Value.int .i64 0, Value.int .i64 (m : Int)] 30)) := Lib.hid ⟨by rw [hw7, hX1]; simp only [World.alloc, Array.size_push]; omega, by rw [hw7, hX1]; exact World.alloc_heap_new wJ _⟩
          rw [← hw7, ← hX1]
          clear hw7 hX1
          refine (KO.out _).mono ?_
          rintro e wO ⟨rfl, hbO⟩
          have HO : Hid (Below B0 w wO ∧ B0 ≤ wO.heap.size) := Lib.hid ⟨h7.out.1.trans (hbO.mono h7.out.2), Nat.le_trans h7.out.2 hbO.size⟩
          have cO : Hid (X1 < wO.heap.size ∧ wO.heap[X1]? = some (Obj.cells #[Value.int .i64 24, Value.int .i64 0, Value.int .i64 0, Value.int .i64 (m : Int)] 30)) := Lib.hid ⟨Nat.lt_of_lt_of_le c7.out.1 hbO.size, by rw [hbO.block _ c7.out.1]; exact c7.out.2⟩
          clear hbO
          go_wp2_with (fail)
          obtain ⟨X2, hX2⟩ : ∃ b, b = wO.heap.size := ⟨_, rfl⟩
          obtain ⟨w8, hw8⟩ : ∃ w8, w8 = wO.alloc (Obj.cells #[Value.int .i64 26, Value.int .i64 3, Value.int .i64 0, Value.int .i64 (-(m : Int) - 1)] 30) := ⟨_, rfl⟩
          have h8 : Hid (Below B0 w w8) := Lib.hid (by rw [hw8]; exact HO.out.1.alloc HO.out.2 _)
          have r1 : w8.heap[X1]? = some (Obj.cells #[Value.int .i64 24, Value.int .i64 0, Value.int .i64 0, Value.int .i64 (m : Int)] 30) := by rw [hw8]; exact (((Below.refl _ wO).alloc (Nat.le_refl _) _).block _ cO.out.1).trans cO.out.2
          have r2 : w8.heap[X2]? = some (Obj.cells #[Value.int .i64 26, Value.int .i64 3, Value.int .i64 0, Value.int .i64 (-(m : Int) - 1)] 30) := by rw [hw8, hX2]; exact World.alloc_heap_new wO _
          rw [← hw8, ← hX2]
          clear hw8 hX2
          have k10 := cell_of_row w8 X1 0 _ _ _ r1
          have k11 := cell_of_row w8 X1 1 _ _ _ r1
          have k12 := cell_of_row w8 X1 2 _ _ _ r1
          have k13 := cell_of_row w8 X1 3 _ _ _ r1
          have k20 := cell_of_row w8 X2 0 _ _ _ r2
          have k21 := cell_of_row w8 X2 1 _ _ _ r2
          have k22 := cell_of_row w8 X2 2 _ _ _ r2
          have k23 := cell_of_row w8 X2 3 _ _ _ r2
          have d10 : w8.drew.cell? ⟨X1, 0, none⟩ = _ := k10
          have d11 : w8.drew.cell? ⟨X1, 0 + 1, none⟩ = _ := k11
          have d12 : w8.drew.cell? ⟨X1, 0 + 2, none⟩ = _ := k12
          have d13 : w8.drew.cell? ⟨X1, 0 + 3, none⟩ = _ := k13
          have d20 : w8.drew.cell? ⟨X2, 0, none⟩ = _ := k20
          have d21 : w8.drew.cell? ⟨X2, 0 + 1, none⟩ = _ := k21
          have d22 : w8.drew.cell? ⟨X2, 0 + 2, none⟩ = _ := k22
          have d23 : w8.drew.cell? ⟨X2, 0 + 3, none⟩ = _ := k23
          simp only [Nat.zero_add] at d11 d12 d13 d21 d22 d23
          clear r1 r2
          go_quiet (fail)
          go_wp2
          go_ret
          exact ⟨rfl, by have hq := below_drewN h8.out nq; rw [HS.out.2.2] at hq; exact hq⟩
end Go.Proofs.YtmclcobklcjmnaaDoor
