/- Numbers and texts laid one behind the other are read as what they were, in their order, and then nothing is left; a byte more is told, and a byte less is; the argument reads behind the call as before. Condition: that of the given statement: what comes in is of bulk at most 1048576. -/
import Derived.Test.YtjehjkibgaeibaaReads
import Derived.Test.YtjehjkibgaeibaaBkw
import Derived.JoinedCond
import Derived.Deep.Slices
namespace Go.Proofs.Ytjehjkibgaeibaa
open Go.ChangeShapes Go.WideShapes Go.ChangeAt Go.RowKit
open Go.ChangeMaps (open_string shut_string)
set_option linter.unusedVariables false

theorem Try.cells48 : Try.prog.cellsOf 48 = 3 := by kernel_rfl
theorem Try.cells9 : Try.prog.cellsOf 9 = 1 := by kernel_rfl

instance : Inhabited Thg := ⟨⟨0, 0, ⟨#[]⟩⟩⟩

theorem bulk_map {H : Type} (D : Nat → DataW H) (f : Nat → Thg) : ∀ n, (∀ i, i < n → D i = .agg [.lit (.int .i64 (f i).n), .lit (.int .i64 (f i).w), .lit (.string (f i).s.data.toList)]) →
    bulk ((List.range n).map f) ≤ 2 * Rows.uptoBulkAll ((List.range n).map D)
  | 0, _ => Nat.zero_le _
  | n + 1, h => by
    have ih := bulk_map D f n (fun i hi => h i (by omega))
    have hA : ∀ l m : List (DataW H), Rows.uptoBulkAll (l ++ m) = Rows.uptoBulkAll l + Rows.uptoBulkAll m := by
      intro l m
      induction l with
      | nil => simp [Rows.uptoBulkAll]
      | cons x l ih => rw [List.cons_append, Rows.uptoBulkAll, Rows.uptoBulkAll, ih]; omega
    rw [List.range_succ, List.map_append, List.map_append, bulk_append, hA]
    have e1 : bulk [f n] = (f n).s.size + 8 := by unfold bulk; simp
    have e2 : Rows.uptoBulkAll [D n] = (f n).s.size + 4 := by
      rw [h n (by omega)]
      have hs : (f n).s.data.toList.length = (f n).s.size := by simp
      simp only [Rows.uptoBulkAll, Rows.uptoBulk]
      omega
    show bulk _ + bulk [f n] ≤ 2 * (_ + Rows.uptoBulkAll [D n])
    rw [e1, e2]
    omega
theorem length_bulk (l : List Thg) : l.length * 8 ≤ bulk l := by
  induction l with
  | nil => exact Nat.le_refl _
  | cons x l ih =>
    have hb : bulk (x :: l) = x.s.size + 8 + bulk l := by unfold bulk; simp
    rw [hb, List.length_cons]; omega

theorem range_i64 {n : Int} (h : (Lit.int .i64 n).wf = true) : -9223372036854775808 ≤ n ∧ n ≤ 9223372036854775807 := by
  simpa [Lit.wf, IntKind.min, IntKind.max, IntKind.signed, IntKind.bits] using h

/-- things that came in, as they lie in memory -/
theorem thg_of {H : Type} {enc : TypeId × Value → H} {W : World} {base : Nat} {ao : Option Addr} {len cap : Nat} {d : DataW H} {p : List MemPlace}
    (h : DataW.Trod enc Try.prog W base (fun _ => true) true 45 (.slice ao len cap) d p) : ∃ L : List Thg, L.length = len ∧ ThgAt W ao L ∧ (∀ x ∈ L, -9223372036854775808 ≤ x.n ∧ x.n ≤ 9223372036854775807) ∧ bulk L ≤ 2 * Rows.uptoBulk d := by
  obtain ⟨fuel, hf⟩ := h
  rcases Deep.open_slice Try.underlying45 hf with ⟨hcs, hx⟩ | ⟨a, len', cap', m, n, D, Pl, hcs, hb, hl, hm, hmm, hx, hc⟩
  · simp [Value.cells] at hcs
    obtain ⟨rfl, rfl, rfl⟩ := hcs
    exact ⟨[], rfl, fun i hi => by simp at hi, fun x hx => by simp at hx, Nat.zero_le _⟩
  · simp [Value.cells] at hcs
    obtain ⟨rfl, rfl, rfl⟩ := hcs
    have hml : len ≤ m := by rw [hmm]; simp; omega
    have each : ∀ i, i < len → ∃ x : Thg, W.cell? (a.add (i * 3)) = some (.int .i64 x.n) ∧ W.cell? ((a.add (i * 3)).add 1) = some (.int .i64 x.w) ∧ W.cell? ((a.add (i * 3)).add 2) = some (.string x.s) ∧
        (-9223372036854775808 ≤ x.n ∧ x.n ≤ 9223372036854775807) ∧ D i = .agg [.lit (.int .i64 x.n), .lit (.int .i64 x.w), .lit (.string x.s.data.toList)] := by
      intro i hi
      obtain ⟨cs, h1, h2⟩ := hc i (by omega)
      rw [Try.cells48] at h1
      obtain ⟨_, hlen, hcell⟩ := World.cells?_some h1
      obtain ⟨xs, k, _, hxy, _, hxl, hff⟩ := DataW.trod_struct Try.underlying48 h2
      match xs, hxl, cs, hlen with
      | [y0, y1, y2], _, [v0, v1, v2], _ =>
        have t0 := hff 0 _ rfl
        have t1 := hff 1 _ rfl
        have t2 := hff 2 _ rfl
        simp [Try.cells3, Try.cells9] at t0 t1 t2
        obtain ⟨x0, e0, f0, w0⟩ := DataW.trod_int Try.underlying3 t0
        obtain ⟨x1, e1, f1, w1⟩ := DataW.trod_int Try.underlying3 t1
        obtain ⟨x2, e2, f2, w2⟩ := DataW.trod_string Try.underlying9 t2
        simp at e0 e1 e2
        have c0 := hcell 0 (by omega)
        have c1 := hcell 1 (by omega)
        have c2 := hcell 2 (by omega)
        have z : ∀ b : Addr, b.add 0 = b := fun b => by simp [Addr.add]
        rw [z] at c0
        simp at c0 c1 c2
        simp only [Prod.mk.injEq] at hxy
        refine ⟨⟨x0, x1, x2⟩, by rw [c0, e0], by rw [c1, e1], by rw [c2, e2], range_i64 w0, ?_⟩
        rw [hxy.1, f0, f1, f2]
        rfl
    obtain ⟨f, hfx⟩ := Deep.choose_lt each
    refine ⟨(List.range len).map f, by simp, ?_, ?_, ?_⟩
    · intro i hi
      have hi' : i < len := by simpa using hi
      obtain ⟨c0, c1, c2, _, _⟩ := hfx i hi'
      obtain ⟨b, off, spot⟩ := a
      have hspot : spot = none := by
        have hz := (hfx 0 (by omega)).1
        simpa [Addr.add] using World.cell?_spot hz
      subst hspot
      rw [add_plain] at c0 c1 c2
      rw [add_plain] at c1 c2
      have ex : ((List.range len).map f)[i] = f i := by simp
      exact ⟨b, off, rfl, by rw [ex]; exact c0, by rw [ex]; exact c1, by rw [ex]; exact c2, World.block_lt_of_cell? W _ c0⟩
    · intro x hxm
      obtain ⟨i, hi, rfl⟩ := List.mem_map.1 hxm
      exact (hfx i (List.mem_range.1 hi)).2.2.2.1
    · have hb2 := bulk_map D f len (fun i hi => (hfx i hi).2.2.2.2)
      simp only [Prod.mk.injEq] at hx
      rw [hx.1]
      simp only [Rows.uptoBulk]
      omega

namespace CodeBack
theorem contract (H : Type) (enc : TypeId × Value → H) (W : World) (base : Nat) (args : Array Value) (ds gs : List (DataW H)) (before : List MemPlace)
    (hval : ∀ (j : Nat) t v, Try.f5.params[j]? = some t → args[j]? = some v → Value.okWide Try.prog W .any base t v)
    (hW : DataW.Whole enc Try.prog Try.f5.params.toList Rows.codeBackSpec.vars false W args.toList ds gs before) (hk : Rows.uptoSmall H (ds ++ gs) = true) :
    Calls Try.prog 5 args W fun e W' => ∃ v, e = .returned v ∧ Rows.codeBackSpec.post enc Try.prog Try.f5 false true false false W args v W' := by
  have hW' := hW
  obtain ⟨p, q, hA0, hV, rfl, hfz, hnd⟩ := hW
  have hA : DataW.TrodAll enc Try.prog W 0 (fun _ => true) true Try.f5.params.toList args.toList ds p := hA0
  rw [Try.params5] at hA hval
  obtain ⟨v1, vs1, d1, ds1, p1, q1, hargs, rfl, rfl, h1, r1⟩ := trodAll_cons hA
  obtain ⟨rfl, rfl, rfl⟩ := trodAll_nil r1
  obtain rfl : args = #[v1] := by cases args; simp_all
  obtain ⟨rfl, rfl⟩ := trodVars_none hV
  obtain ⟨ao, len, cap, rfl⟩ := okWide_slice Try.underlying45 (hval 0 45 v1 rfl rfl)
  have k1 := h1
  have lt1 : ∀ x ∈ p1, x.block < W.heap.size := by obtain ⟨m, hm⟩ := k1; exact DataW.trod_lt m _ _ _ hm
  obtain ⟨L, rfl, hat, hwf, hbk⟩ := thg_of h1
  clear hA0
  have hle : Rows.uptoBulkAll ([d1] ++ []) ≤ 1048576 := of_decide_eq_true hk
  simp only [List.append_nil, Rows.uptoBulkAll] at hle
  have hb : bulk L ≤ 2097152 := by omega
  have hlb := length_bulk L
  refine (walk L ao cap W (by omega) (by omega) hat hwf).mono fun e W' ⟨he, bel⟩ => ?_
  subst he
  exact ⟨_, rfl, _, _, _, [], _, [], hW', trodAll_mk1 (shut_bool Try.underlying4 _), (trodAll_cons_mk (Below.trod Try.laidOut (by kernel_rfl) (of_decide_eq_true (by kernel_rfl)) k1 bel lt1) trodAll_mk0), rfl, bel.frame _, fun h => by cases h⟩

set_option maxRecDepth 100000 in
theorem lifted (os : Os) (started : os.Started) (H : Type) (enc : TypeId × Value → H) (F : Stop.Interp) :
    ReturnsInHanded {} Try.checked os 5 .any ((Rows.OpenSpec.upto Rows.codeBackSpec).pre6 enc Try.prog Try.f5 Rows.codeBackUptoRow.domain false) (((Rows.OpenSpec.upto Rows.codeBackSpec).at F).post enc Try.prog Try.f5 false true false false) := by
  refine returnsInHanded_of_cond (C := Try.checked) (s := Rows.OpenSpec.upto Rows.codeBackSpec) (k := Rows.uptoSmall) rfl Try.own started (by kernel_rfl) Try.func5
    (OpenSpec.witness (enc := enc) (C := Try.checked) (s := Rows.OpenSpec.upto Rows.codeBackSpec) (k := Rows.uptoSmall) rfl false ⟨#[], #[.slice none 0 0], []⟩ 8 (by kernel_rfl) (by kernel_rfl) (by kernel_rfl)
      (x := ([.nil], [], [])) (by kernel_rfl) rfl (by kernel_rfl)) ?_
  intro W base args ds gs before hval hW _ hk _
  exact contract H enc W base args ds gs before hval hW hk

theorem over : Rows.codeBackUptoRow.holds Try.pinned (Rows.OpenSpec.upto Rows.codeBackSpec) :=
  OpenClaim.holds_of_cond 5 Try.f5 rfl rfl rfl rfl rfl rfl rfl ⟨rfl, rfl, rfl, rfl, rfl⟩ rfl rfl rfl rfl rfl (by kernel_rfl) Try.func5 (by kernel_rfl)
    (of_decide_eq_true (by kernel_rfl)) (by unfold Func.isWrapper; first | (rw [if_pos (by decide +kernel)]; kernel_rfl) | (rw [if_neg (by decide +kernel)]; exact ⟨rfl, rfl⟩))
    (fun os started H enc _ F => lifted os started H enc F)
end CodeBack

/-- THE STATEMENT -/
theorem codeBack_holds : Rows.CodeBackUptoSaid := CodeBack.over
end Go.Proofs.Ytjehjkibgaeibaa
