/- A map from numbers of sectors to their written bytes, as a function. No conditions. -/
import Derived.Test.YtnecbbflcpngcaaMem
namespace Go.Proofs.Ytnecbbflcpngcaa
open Go.RowKit Go.Maps
set_option maxRecDepth 20000
open Go.ChangeMaps Go.MapKept
open Go.WideElems (Fit rd rg pl rd_val elemAt)
set_option linter.unusedVariables false

def kl (i : Nat) : Lit := .int .i64 (i : Int)
theorem kl_wf {i : Nat} (h : i < 9223372036854775808) : (kl i).wf = true := WalkArith.wf_i64 (by omega)
theorem kl_inj {i j : Nat} (h : kl i = kl j) : i = j := by unfold kl at h; injection h with _ h; omega
theorem keyed3 : Keyed Try.prog 3 := int_keyed Try.underlying3
theorem key_of {i : Nat} (h : i < 9223372036854775808) : keyOf Try.prog 3 (.int .i64 (i : Int)) = some (kl i) := keyOf_int_mk Try.underlying3 (kl_wf h)
theorem key_lit {i : Nat} (h : i < 9223372036854775808) : WideAt.IsKeyLit (kl i) := keyed3.key (key_of h)
theorem nd_le : ∀ (c : Nat) (l : List Nat), l.Nodup → (∀ x ∈ l, x < c) → l.length ≤ c
  | 0, l, _, h => by
    cases l with
    | nil => simp
    | cons a r => have := h a List.mem_cons_self; omega
  | c + 1, l, hn, h => by
    have ih := nd_le c (l.erase c) (hn.erase c) (fun x hx => by
      have h1 := h x (List.mem_of_mem_erase hx)
      have h2 : x ≠ c := fun e => by subst e; exact (hn.not_mem_erase) hx
      omega)
    have := List.length_erase (a := c) (l := l)
    split at this <;> omega

/-- block b is a map that holds M, of numbers below c -/
def MapA (w : World) (b c : Nat) (M : Nat → Option Bts) : Prop :=
  ∃ n, ∃ D : DataW Unit, w.ownsMap Try.prog 3 (plainElem Try.prog 9) b n D ∧ (∀ k, Maps.has D k = true → ∃ i, i < c ∧ k = kl i) ∧
    (∀ i, i < c → Maps.has D (kl i) = (M i).isSome) ∧ (∀ i s, i < c → M i = some s → ∀ z, D.atKey (kl i) z = .lit (.string s))
theorem MapA.lt {w : World} {b c : Nat} {M : Nat → Option Bts} (h : MapA w b c M) : b < w.heap.size := by
  obtain ⟨n, D, ho, _⟩ := h
  exact ho.lt
theorem MapA.is_map {w : World} {b c : Nat} {M : Nat → Option Bts} (h : MapA w b c M) : ∃ es clock, w.heap[b]? = some (.map es clock) := by
  obtain ⟨n, D, ⟨es, clock, hb, _⟩, _⟩ := h
  exact ⟨es, clock, hb⟩
theorem MapA.of_heap {w w' : World} {b c : Nat} {M : Nat → Option Bts} (h : MapA w b c M) (e : w'.heap[b]? = w.heap[b]?) : MapA w' b c M := by
  obtain ⟨n, D, ⟨es, clock, hb, r⟩, h1⟩ := h
  exact ⟨n, D, ⟨es, clock, e.trans hb, r⟩, h1⟩
theorem MapA.ext {w : World} {b c : Nat} {M M' : Nat → Option Bts} (h : MapA w b c M) (e : ∀ i, i < c → M i = M' i) : MapA w b c M' := by
  obtain ⟨n, D, ho, h1, h2, h3⟩ := h
  exact ⟨n, D, ho, h1, fun i hi => by rw [h2 i hi, e i hi], fun i s hi hs => h3 i s hi (by rw [e i hi]; exact hs)⟩
theorem size_le {w : World} {b n c : Nat} {D : DataW Unit} (h : w.ownsMap Try.prog 3 (plainElem Try.prog 9) b n D) (hk : ∀ k, Maps.has D k = true → ∃ i, i < c ∧ k = kl i) (hc : c < 9223372036854775808) : Maps.size D ≤ c := by
  obtain ⟨es, rfl, hp, hl⟩ := h.entries keyed3
  rw [size_eq]
  have hm : ∀ p ∈ es, ∃ i, i < c ∧ p.1 = kl i := fun p hp => hk p.1 (by
    rw [has_eq]; exact List.any_eq_true.2 ⟨p, hp, WideAt.sameKey_self (hl p hp)⟩)
  let f : Lit × DataW Unit → Nat := fun p => match p.1 with | .int _ x => x.toNat | _ => 0
  have hf : ∀ p ∈ es, f p < c ∧ p.1 = kl (f p) := fun p hp => by
    obtain ⟨i, hi, e⟩ := hm p hp
    have : f p = i := by show (match p.1 with | .int _ x => x.toNat | _ => 0) = i; rw [e]; simp [kl]
    rw [this]; exact ⟨hi, e⟩
  have hnd : (es.map f).Nodup := by
    rw [List.Nodup, List.pairwise_map]
    exact List.Pairwise.imp_of_mem (fun {a b} ha hb hne e => hne (by rw [(hf a ha).2, (hf b hb).2, e])) hp
  have := nd_le c (es.map f) hnd (fun x hx => by obtain ⟨p, hp, rfl⟩ := List.mem_map.1 hx; exact (hf p hp).1)
  simpa using this
/-- the bound on the entries may be c itself -/
theorem MapA.tight {w : World} {b c : Nat} {M : Nat → Option Bts} (h : MapA w b c M) (hc : c < 9223372036854775808) : ∃ D : DataW Unit, w.ownsMap Try.prog 3 (plainElem Try.prog 9) b c D ∧ (∀ k, Maps.has D k = true → ∃ i, i < c ∧ k = kl i) ∧
    (∀ i, i < c → Maps.has D (kl i) = (M i).isSome) ∧ (∀ i s, i < c → M i = some s → ∀ z, D.atKey (kl i) z = .lit (.string s)) := by
  obtain ⟨n, D, ho, h1, h2, h3⟩ := h
  have hs := size_le ho h1 hc
  obtain ⟨es, clock, hb, F, hn, hD⟩ := ho
  refine ⟨D, ⟨es, clock, hb, F, ?_, hD⟩, h1, h2, h3⟩
  rw [hD] at hs
  simpa [Maps.size, length_sorted] using hs
theorem MapA.made (w : World) (c : Nat) : MapA (w.alloc (.map #[] 0)) w.heap.size c (fun _ => none) :=
  ⟨0, .map [], World.ownsMap_made w Try.prog 3 _, fun k hk => by simp [Maps.has] at hk, fun i _ => by simp [Maps.has], fun i s _ hs => nomatch hs⟩
theorem Try.zero9 (w : World) : (zeroValue 9).run Try.prog w = .ok (.string ⟨#[]⟩) w := by kernel_rfl
theorem str_inv {v : Value} {s : Bts} {ps : List MemPlace} (h : plainElem (H := Unit) Try.prog 9 v = some (.lit (.string s), ps)) : v = .string (ofL s) := by
  obtain ⟨t, rfl, e, _⟩ := plainElem_string_inv Try.underlying9 h
  have e1 : DataW.lit (H := Unit) (Lit.string s) = DataW.lit (Lit.string t.data.toList) := congrArg Prod.fst e
  have e2 : s = t.data.toList := by simpa using e1
  rw [e2, ofL_of]
theorem MapA.look {w : World} {b c : Nat} {M : Nat → Option Bts} (h : MapA w b c M) (hc : c ≤ 4096) {i : Nat} (hi : i < c) :
    (Instr.lookup 89 (.map (some b)) (.int .i64 (i : Int)) false).run Try.prog w = .ok (.string (ofL ((M i).getD []))) w ∧
    (Instr.lookup 89 (.map (some b)) (.int .i64 (i : Int)) true).run Try.prog w = .ok (.tuple #[.string (ofL ((M i).getD [])), .bool (M i).isSome]) w := by
  obtain ⟨n, D, ho, h1, h2, h3⟩ := h
  have hz : plainElem (H := Unit) Try.prog 9 (.string ⟨#[]⟩) = some (.lit (.string []), []) := plainElem_string Try.underlying9 (by show 0 ≤ _; omega)
  obtain ⟨v, ps, hr, hv⟩ := ho.lookup keyed3 Try.underlying89 (Try.zero9 w) hz (key_of (i := i) (by omega))
  obtain ⟨v', ps', hr', hv'⟩ := ho.look_ok keyed3 Try.underlying89 (Try.zero9 w) hz (key_of (i := i) (by omega))
  have hat : D.atKey (kl i) (.lit (.string [])) = .lit (.string ((M i).getD [])) := by
    cases hM : M i with
    | some s => exact h3 i s hi hM _
    | none =>
      have := h2 i hi
      rw [hM] at this
      exact atKey_of_not_has this _
  rw [hat] at hv hv'
  rw [str_inv hv] at hr
  rw [str_inv hv', h2 i hi] at hr'
  exact ⟨hr, hr'⟩
theorem MapA.store {w : World} {b c : Nat} {M : Nat → Option Bts} (h : MapA w b c M) (hc : c ≤ 4096) {i : Nat} (hi : i < c) (s : Bts) (hs : s.length ≤ maxLen) :
    ∃ w', (Instr.mapUpdate 89 (.map (some b)) (.int .i64 (i : Int)) (.string (ofL s))).run Try.prog w = .ok () w' ∧ MapA w' b c (fun j => if j = i then some s else M j) ∧ w.grownBy w' (some b) ∧ w'.heap.size = w.heap.size := by
  obtain ⟨D, ho, h1, h2, h3⟩ := h.tight (by omega)
  have hv : plainElem (H := Unit) Try.prog 9 (.string (ofL s)) = some (.lit (.string s), []) := by
    have := plainElem_string (H := Unit) Try.underlying9 (s := ofL s) (by rw [ofL_size]; exact hs)
    rwa [ofL_list] at this
  have hk := key_lit (i := i) (by omega)
  obtain ⟨w', hr, ho', ht⟩ := ho.store keyed3 Try.underlying89 (by unfold maxLen; omega) (key_of (i := i) (by omega)) hv
  refine ⟨w', hr, ⟨_, _, ho', ?_, ?_, ?_⟩, ht.grown, ?_⟩
  · intro k hk1
    by_cases e : k = kl i
    · exact ⟨i, hi, e⟩
    · rw [has_put_other e] at hk1; exact h1 k hk1
  · intro j hj
    by_cases e : j = i
    · subst e; rw [has_put_same ho.isMap hk]; simp
    · rw [has_put_other (fun q => e (kl_inj q)), h2 j hj]; simp [e]
  · intro j t hj ht' z
    by_cases e : j = i
    · subst e
      simp at ht'
      rw [atKey_put_same ho.isMap hk, ht']
    · simp [e] at ht'
      rw [atKey_put_other (fun q => e (kl_inj q))]
      exact h3 j t hj ht' z
  · obtain ⟨es, ck, es', ck', _, rfl⟩ := ht
    simp [setBlock]
theorem MapA.drop {w : World} {b c : Nat} {M : Nat → Option Bts} (h : MapA w b c M) (hc : c ≤ 4096) {i : Nat} (hi : i < c) (ty : TypeId) :
    ∃ w', (Builtin.delete_ #[89, 3] ty #[.map (some b), .int .i64 (i : Int)]).run Try.prog w = .ok (.tuple #[]) w' ∧ MapA w' b c (fun j => if j = i then none else M j) ∧ w.grownBy w' (some b) ∧ w'.heap.size = w.heap.size := by
  obtain ⟨n, D, ho, h1, h2, h3⟩ := h
  obtain ⟨w', hr, ho', ht⟩ := ho.drop keyed3 Try.underlying89 (key_of (i := i) (by omega)) ty
  refine ⟨w', hr, ⟨_, _, ho', ?_, ?_, ?_⟩, ht.grown, ?_⟩
  · intro k hk1
    by_cases e : k = kl i
    · subst e; rw [has_del_same] at hk1; cases hk1
    · rw [has_del_other e] at hk1; exact h1 k hk1
  · intro j hj
    by_cases e : j = i
    · subst e; rw [has_del_same]; simp
    · rw [has_del_other (fun q => e (kl_inj q)), h2 j hj]; simp [e]
  · intro j t hj ht' z
    by_cases e : j = i
    · simp [e] at ht'
    · simp [e] at ht'
      rw [atKey_del_other (fun q => e (kl_inj q))]
      exact h3 j t hj ht' z
  · obtain ⟨es, ck, es', ck', _, rfl⟩ := ht
    simp [setBlock]
theorem MapA.clear {w : World} {b c : Nat} {M : Nat → Option Bts} (h : MapA w b c M) :
    ∃ w', (∀ ty, (Builtin.clear_ #[89] ty #[.map (some b)]).run Try.prog w = .ok (.tuple #[]) w') ∧ MapA w' b c (fun _ => none) ∧ w.grownBy w' (some b) ∧ w'.heap.size = w.heap.size := by
  obtain ⟨n, D, ⟨es, clock, hb, F, hn, hD⟩, h1, h2, h3⟩ := h
  have hrun : ∀ ty, (Builtin.clear_ #[89] ty #[.map (some b)]).run Try.prog w = .ok (.tuple #[]) (setBlock w b (.map #[] clock)) := by
    intro ty
    simp [Builtin.clear_, run_underlying Try.underlying89, MapKept.run_getObj_map hb, MapKept.run_setObj_map _ hb, Result.andThen]
    rfl
  refine ⟨_, hrun, ⟨0, .map [], ⟨#[], clock, heap_setBlock_same hb _, ⟨by simp, ?_, by simp⟩, by simp, by simp⟩, fun k hk => by simp [Maps.has] at hk, fun i _ => by simp [Maps.has], fun i s _ hs => nomatch hs⟩, ⟨rfl, rfl, rfl, by simp [setBlock], fun i _ hi => heap_setBlock_other hb _ (fun e => hi (by rw [e]))⟩, by simp [setBlock]⟩
  exact stamped_empty clock
end Go.Proofs.Ytnecbbflcpngcaa
