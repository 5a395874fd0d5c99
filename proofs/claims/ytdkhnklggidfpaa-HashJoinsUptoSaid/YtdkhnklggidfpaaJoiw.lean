/- The chain of records and then others is the chain from the first ones' link on by the others: the walk. Conditions: the bytes are few enough for a machine. -/
import Derived.Test.YtdkhnklggidfpaaArgs
import Derived.Laws.AppendOwn
import Derived.Laws.AppendOwnNone
namespace Go.Proofs.Ytdkhnklggidfpaa
open Go.RowKit
set_option linter.unusedVariables false

theorem Try.info9 : (Try.prog.info? 9).map (fun i => (i.zero, i.size, i.bytes)) = some (some (.string ⟨#[]⟩), 1, 16) := by kernel_rfl
def strV (xs : List ByteArray) : List Value := xs.map Value.string

theorem append_strs {ops : Array Oper} {rest : List Oper} {o : Oper} {a : Act} {w : World} {Q : Exit → Act → World → Prop} (hgd : o.guard = none) (s x : Operand)
    (ho : o.op = .call { callee := .builtin .append, args := #[s, x], argTypes := #[27, 27] }) (base : Nat) (v : Value) (n : Nat) (ys : List Value) (hs : a.eval s = v) (hown : w.ownsRow base 9 1 v n ys)
    (ao : Option Addr) (xs : List ByteArray) (cap : Nat) (hx : a.eval x = .slice ao xs.length cap) (hX : LiesS w ao xs) (hn : ao = none → xs = [] ∧ cap = 0) (hl : n + xs.length ≤ 4194304) (hbase : base ≤ w.heap.size)
    (h : ∀ v' w', w'.ownsRow base 9 1 v' (n + xs.length) (ys ++ strV xs) → Below base w w' → wpList Try.prog ops Q rest (a.put o.dst v') w') : wpList Try.prog ops Q (o :: rest) a w := by
  obtain ⟨i0, hi, hz0, hz1, hz2⟩ := info_parts Try.info9
  cases ao with
  | none =>
    obtain ⟨rfl, rfl⟩ := hn rfl
    refine wpList_append_own_none hgd s x 27 ho base 9 i0 1 Try.underlying27 hi v n ys hs hown hx ?_
    exact h v w (by simpa [strV] using hown) (Below.refl _ _)
  | some ad =>
    refine wpList_append_own w hgd s x 27 ho base 9 i0 _ 1 16 Try.underlying27 hi hz0 hz1 hz2 rfl (by decide) v n ys hs hown ad xs.length cap (strV xs) hx (by simp [strV]) ?_ ?_ ?_ ?_ hbase ?_
    · intro j u hj
      have hjl : j < xs.length := by have := (List.getElem?_eq_some_iff.1 hj).1; simpa [strV] using this
      obtain ⟨a', ha', hc, _⟩ := hX j hjl
      cases ha'
      rw [hc]
      simp [strV, List.getElem?_eq_getElem hjl] at hj
      rw [hj]
    · intro u hu
      simp only [strV, List.mem_map] at hu
      obtain ⟨b, _, rfl⟩ := hu
      rfl
    · unfold maxLen; omega
    · omega
    · intro v' w' h1 h2 h3
      exact h v' w' h1 ((Below.refl base w).grown h2 hbase (fun k hk => (hown.lt k hk).1))

theorem own_lies {w : World} {base : Nat} {v : Value} {xs : List ByteArray} (h : w.ownsRow base 9 1 v xs.length (strV xs)) : ∃ ao cap, v = .slice ao xs.length cap ∧ LiesS w ao xs := by
  have h0 := h
  obtain ⟨_, h2⟩ := h
  rcases h2 with ⟨h2, hn⟩ | ⟨g, cap, cur, hv, hg, hrow, _⟩
  · have hx : xs = [] := List.length_eq_zero_iff.1 hn
    subst hx
    exact ⟨none, 0, h2, fun i hi => absurd hi (by simp)⟩
  · refine ⟨some ⟨g, 0, none⟩, cap, hv, fun i hi => ⟨_, rfl, ?_, block_lt hrow⟩⟩
    subst hv
    rw [addr_at, Nat.zero_add, World.ownsRow.cellAt h0 i (by omega)]
    simp [strV, List.getElem?_eq_getElem hi]

theorem chainL_len (l : List UInt8) (L : List (List UInt8)) : (chainL l L).length ≤ l.length + 32 := by
  rcases List.eq_nil_or_concat L with rfl | ⟨L', r, rfl⟩
  · show l.length ≤ _; omega
  · rw [List.concat_eq_append, chainL_append]
    show (linkL (chainL l L') r).length ≤ _
    have : (linkL (chainL l L') r).length = 32 := rfl
    omega

set_option maxRecDepth 100000 in
set_option maxHeartbeats 1000000 in
theorem joins_walk (link : ByteArray) (ao : Option Addr) (xs : List ByteArray) (cap : Nat) (ap : Option Addr) (ys : List ByteArray) (capy : Nat) (w : World)
    (hs : link.size ≤ 1048576) (hx : (flat xs).length + xs.length ≤ 1048576) (hy : (flat ys).length + ys.length ≤ 1048576) (hX : LiesS w ao xs) (hY : LiesS w ap ys)
    (hnx : ao = none → xs = [] ∧ cap = 0) (hny : ap = none → ys = [] ∧ capy = 0) :
    Calls Try.prog 8 #[.string link, .slice ao xs.length cap, .slice ap ys.length capy] w fun e w' => e = .returned (.bool true) ∧ Below w.heap.size w w' := by
  have hmx : ∀ x ∈ xs, x.size < 144115188075855872 := fun x hx' => by
    obtain ⟨i, hi, rfl⟩ := List.getElem_of_mem hx'
    have := flat_mem xs i hi; omega
  have hmy : ∀ x ∈ ys, x.size < 144115188075855872 := fun x hx' => by
    obtain ⟨i, hi, rfl⟩ := List.getElem_of_mem hx'
    have := flat_mem ys i hi; omega
  have hl0 : 0 + xs.length ≤ 4194304 := by omega
  have hl1 : 0 + xs.length + ys.length ≤ 4194304 := by omega
  have hW0 : Below w.heap.size w (w.alloc (.cells #[] 9)) := (Below.refl _ _).alloc (Nat.le_refl _) _
  have hX0 : LiesS (w.alloc (.cells #[] 9)) ao xs := LiesS.below (B := 0) hX hW0
  have hY0 : LiesS (w.alloc (.cells #[] 9)) ap ys := LiesS.below (B := 0) hY hW0
  have hown0 : (w.alloc (.cells #[] 9)).ownsRow w.heap.size 9 1 (.slice (some ⟨w.heap.size, 0, none⟩) 0 0) 0 [] := World.ownsRow_made w #[] 0 (Nat.le_refl _) (by decide) rfl
  have hmxl : xs.length ≤ maxLen := by unfold maxLen; omega
  have hmyl : ys.length ≤ maxLen := by unfold maxLen; omega
  have hmal : (xs ++ ys).length ≤ maxLen := by unfold maxLen; simp; omega
  have hmxy : ∀ x ∈ xs ++ ys, x.size < 144115188075855872 := fun x h => by
    rcases List.mem_append.1 h with h | h
    · exact hmx x h
    · exact hmy x h
  have hls : link.size < 281474976710656 := by omega
  have HX := Lib.hid (And.intro hX hY)
  have HS := Lib.hid hs
  clear hX hY hx hy hs
  go_enter Try.func8, Try.ntmps8
  go_wp2_with (first
    | (refine append_strs rfl _ _ rfl w.heap.size _ 0 [] rfl hown0 ao xs cap rfl hX0 hnx hl0 (by simp) ?_; intro v1 w1 hown1 hb1; clear hown0)
    | (have tok := hown1; refine append_strs rfl _ _ rfl w.heap.size _ (0 + xs.length) _ rfl hown1 ap ys capy rfl (LiesS.below (B := 0) HX.out.2 (hW0.trans hb1)) hny hl1 (Nat.le_trans (by simp) hb1.size) ?_; intro v2 w2 hown2 hb2; clear hown1))
  have hB2 : Below w.heap.size w w2 := (hW0.trans hb1).trans hb2
  have hown3 : w2.ownsRow w.heap.size 9 1 v2 (xs ++ ys).length (strV (xs ++ ys)) := by
    have e1 : 0 + xs.length + ys.length = (xs ++ ys).length := by simp
    have e2 : [] ++ strV xs ++ strV ys = strV (xs ++ ys) := by simp [strV]
    rw [← e1, ← e2]; exact hown2
  obtain ⟨av, capv, rfl, hV⟩ := own_lies hown3
  clear hown2 hown3 hX0 hY0
  go_wp2_with fail
  refine (fixed_any _).mono ?_
  rintro e w3 ⟨rfl, b3⟩
  have hV3 := LiesS.below (B := 0) hV b3
  have hB3 := hB2.trans (b3.mono hB2.size)
  have hc3 := chain_any link av capv (xs ++ ys) w3 hls hmxy hmal hV3
  rw [List.length_append] at hc3
  go_wp2_with fail
  refine hc3.mono ?_
  rintro e w4 ⟨rfl, b4⟩
  have hB4 := hB3.trans (b4.mono hB3.size)
  go_wp2_with fail
  refine (chain_any link ao cap xs _ hls hmx hmxl (LiesS.below (B := 0) HX.out.1 hB4)).mono ?_
  rintro e w5 ⟨rfl, b5⟩
  have hB5 := hB4.trans (b5.mono hB4.size)
  have hcs : (⟨(chainL (bl link) (xs.map bl)).toArray⟩ : ByteArray).size < 281474976710656 := by
    rw [baSize]
    have := chainL_len (bl link) (xs.map bl)
    have h2 : (bl link).length = link.size := baList link
    have h3 := HS.out
    omega
  have heq : (⟨(chainL (bl ⟨(chainL (bl link) (xs.map bl)).toArray⟩) (ys.map bl)).toArray⟩ : ByteArray) = ⟨(chainL (bl link) ((xs ++ ys).map bl)).toArray⟩ := by
    rw [List.map_append, chainL_append]
    simp [bl]
  go_wp2_with fail
  refine (chain_any _ ap capy ys _ hcs hmy hmyl (LiesS.below (B := 0) HX.out.2 hB5)).mono ?_
  rintro e w6 ⟨rfl, b6⟩
  have hB6 := hB5.trans (b6.mono hB5.size)
  rw [heq]
  go_wp2_with fail
  go_ret
  exact ⟨rfl, hB6⟩

open Go.ChangeShapes Go.WideShapes Go.ChangeAt in
theorem none_of {H : Type} {enc : TypeId × Value → H} {W : World} {base : Nat} {ao : Option Addr} {xs : List ByteArray} {cap : Nat} {d : DataW H} {p : List MemPlace}
    (h : DataW.Trod enc Try.prog W base (fun _ => true) true 27 (.slice ao xs.length cap) d p) : ao = none → xs = [] ∧ cap = 0 := by
  intro hn
  subst hn
  obtain ⟨fuel, hf⟩ := h
  rcases open_strings Try.underlying27 Try.underlying9 Try.cells9 hf with ⟨hcs, hx⟩ | ⟨a, len', cap', ss, hcs, _⟩
  · simp [Value.cells] at hcs
    exact hcs
  · simp [Value.cells] at hcs
end Go.Proofs.Ytdkhnklggidfpaa
