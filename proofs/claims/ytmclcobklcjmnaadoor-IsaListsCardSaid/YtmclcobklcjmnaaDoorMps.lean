/- A map from labels to places, as a function. No conditions. -/
import Derived.Test.YtmclcobklcjmnaaDoorBof
import Derived.Maps.Ext
import Derived.StringKeys
import Derived.Maps.Own
import Derived.Maps.OwnSet
import Derived.Maps.Range
namespace Go.Proofs.YtmclcobklcjmnaaDoor
open Go.RowKit Go.Maps
open Go.ChangeMaps Go.MapKept
open Go.WideElems (Fit rd rg pl rd_val elemAt)
set_option linter.unusedVariables false
set_option linter.unusedSimpArgs false

def kl (l : Bs) : Lit := .string l
theorem keyed9 : Keyed Tryd.prog 9 := string_keyed Tryd.underlying9
theorem key_of (s : ByteArray) (h : s.size ≤ maxLen) : keyOf Tryd.prog 9 (.string s) = some (kl s.data.toList) := Go.WideMaps.keyOf_string_mk Tryd.underlying9 h
theorem kl_inj {a b : Bs} (h : kl a = kl b) : a = b := by unfold kl at h; injection h
/-- block b is a map of at most n entries that holds M -/
def MapS (w : World) (b n : Nat) (M : Bs → Option Int) : Prop :=
  ∃ D : DataW Unit, w.ownsMap Tryd.prog 9 (plainElem Tryd.prog 3) b n D ∧ (∀ l : Bs, l.length ≤ 4096 → Maps.has D (kl l) = (M l).isSome) ∧ (∀ (l : Bs) v, l.length ≤ 4096 → M l = some v → ∀ z, D.atKey (kl l) z = .lit (.int .i64 v))
theorem MapS.lt {w : World} {b n : Nat} {M : Bs → Option Int} (h : MapS w b n M) : b < w.heap.size := by
  obtain ⟨D, ho, _⟩ := h
  exact ho.lt
theorem MapS.of_heap {w w' : World} {b n : Nat} {M : Bs → Option Int} (h : MapS w b n M) (e : w'.heap[b]? = w.heap[b]?) : MapS w' b n M := by
  obtain ⟨D, ⟨es, clock, hb, r⟩, h1⟩ := h
  exact ⟨D, ⟨es, clock, e.trans hb, r⟩, h1⟩
theorem MapS.made (w : World) : MapS (w.alloc (.map #[] 0)) w.heap.size 0 (fun _ => none) :=
  ⟨.map [], World.ownsMap_made w Tryd.prog 9 _, fun l _ => by simp [Maps.has], fun l v _ hs => nomatch hs⟩
theorem zero3 (w : World) : (zeroValue 3).run Tryd.prog w = .ok (.int .i64 0) w := by kernel_rfl
theorem MapS.look {w : World} {b n : Nat} {M : Bs → Option Int} (h : MapS w b n M) (s : ByteArray) (hs : s.size ≤ 4096) (hv : ∀ l v, M l = some v → (Lit.int IntKind.i64 v).wf = true) :
    (Instr.lookup 45 (.map (some b)) (.string s) true).run Tryd.prog w = .ok (.tuple #[.int .i64 ((M s.data.toList).getD 0), .bool (M s.data.toList).isSome]) w := by
  obtain ⟨D, ho, h2, h3⟩ := h
  have hl : s.data.toList.length ≤ 4096 := by rw [Array.length_toList]; exact hs
  have hz : plainElem (H := Unit) Tryd.prog 3 (.int .i64 0) = some (.lit (.int .i64 0), []) := plainElem_int Tryd.underlying3 (by decide)
  obtain ⟨v', ps', hr', hv'⟩ := ho.look_ok keyed9 Tryd.underlying45 (zero3 w) hz (key_of s (by unfold maxLen; omega))
  have hat : D.atKey (kl s.data.toList) (.lit (.int .i64 0)) = .lit (.int .i64 ((M s.data.toList).getD 0)) := by
    cases hM : M s.data.toList with
    | some v => exact h3 _ v hl hM _
    | none =>
      have := h2 _ hl
      rw [hM] at this
      exact atKey_of_not_has this _
  rw [hat] at hv'
  obtain ⟨a, rfl, e, _⟩ := plainElem_int_inv Tryd.underlying3 hv'
  have e1 : DataW.lit (H := Unit) (Lit.int .i64 ((M s.data.toList).getD 0)) = DataW.lit (Lit.int .i64 a) := congrArg Prod.fst e
  have e2 : (M s.data.toList).getD 0 = a := by simpa using e1
  rw [h2 _ hl, ← e2] at hr'
  exact hr'
theorem MapS.store {w : World} {b n : Nat} {M : Bs → Option Int} (h : MapS w b n M) (hn : n < 100000) (s : ByteArray) (hs : s.size ≤ 4096) (v : Int) (hv : (Lit.int IntKind.i64 v).wf = true) :
    ∃ w', (Instr.mapUpdate 45 (.map (some b)) (.string s) (.int .i64 v)).run Tryd.prog w = .ok () w' ∧ MapS w' b (n + 1) (fun l => if l = s.data.toList then some v else M l) ∧ w.grownBy w' (some b) ∧ w'.heap.size = w.heap.size := by
  obtain ⟨D, ho, h2, h3⟩ := h
  have hv2 : plainElem (H := Unit) Tryd.prog 3 (.int .i64 v) = some (.lit (.int .i64 v), []) := plainElem_int Tryd.underlying3 hv
  have hko := key_of s (by unfold maxLen; omega)
  have hk := keyed9.key hko
  obtain ⟨w', hr, ho', ht⟩ := ho.store keyed9 Tryd.underlying45 (by unfold maxLen; omega) hko hv2
  refine ⟨w', hr, ⟨_, ho', ?_, ?_⟩, ht.grown, ?_⟩
  · intro l hl
    by_cases e : l = s.data.toList
    · subst e; rw [has_put_same ho.isMap hk]; simp
    · rw [has_put_other (fun q => e (kl_inj q)), h2 l hl]; simp [e]
  · intro l t hl ht' z
    by_cases e : l = s.data.toList
    · subst e
      simp at ht'
      rw [atKey_put_same ho.isMap hk, ht']
    · simp [e] at ht'
      rw [atKey_put_other (fun q => e (kl_inj q))]
      exact h3 l t hl ht' z
  · obtain ⟨es, ck, es', ck', _, rfl⟩ := ht
    simp [setBlock]
end Go.Proofs.YtmclcobklcjmnaaDoor
