/- A map from cells to data (arrays of 116 bytes), as a function. No conditions. -/
import Derived.Test.YtjippoejaieneaaGreatGb
namespace Go.Proofs.YtjippoejaieneaaGreat
open Go.RowKit Go.Maps
open Go.ChangeMaps Go.MapKept
open Go.WideElems (Fit rd rg pl rd_val elemAt)
set_option maxRecDepth 20000
set_option linter.unusedVariables false

/-- data as a value -/
def agB (s : Bts) : Value := .agg (s.map cellB).toArray
theorem cellB_inj {a b : UInt8} (h : cellB a = cellB b) : a = b := by
  unfold cellB at h
  injection h with _ h
  exact UInt8.toNat_inj.1 (by omega)
theorem map_cellB_inj : ∀ {a b : Bts}, a.map cellB = b.map cellB → a = b
  | [], [], _ => rfl
  | [], _ :: _, h => by simp at h
  | _ :: _, [], h => by simp at h
  | x :: a, y :: b, h => by
    simp only [List.map_cons, List.cons.injEq] at h
    rw [cellB_inj h.1, map_cellB_inj h.2]
theorem agB_inj {a b : Bts} (h : agB a = agB b) : a = b := by
  unfold agB at h
  injection h with h
  exact map_cellB_inj (by simpa using congrArg Array.toList h)
open Classical in
/-- how data reads -/
noncomputable def arrR (v : Value) : Option (DataW Unit × List MemPlace) :=
  if h : ∃ s : Bts, v = agB s then some (.lit (.string h.choose), []) else none
theorem arrR_mk (s : Bts) : arrR (agB s) = some (.lit (.string s), []) := by
  unfold arrR
  have h : ∃ t : Bts, agB s = agB t := ⟨s, rfl⟩
  rw [dif_pos h]
  have := agB_inj h.choose_spec
  rw [← this]
theorem arrR_inv {v : Value} {s : Bts} {ps : List MemPlace} (h : arrR v = some (.lit (.string s), ps)) : v = agB s := by
  unfold arrR at h
  split at h
  · rename_i q
    have e : q.choose = s := by simpa using congrArg (fun z => z.map Prod.fst) h
    rw [← e]; exact q.choose_spec
  · cases h
def zD : Bts := List.replicate 116 0
theorem Tryz.zero104 (w : World) : (zeroValue 104).run Tryz.prog w = .ok (agB zD) w := by kernel_rfl
/-- block b is a map that holds M, of numbers below c -/
def MapD (w : World) (b c : Nat) (M : Nat → Option Bts) : Prop :=
  ∃ n, ∃ D : DataW Unit, w.ownsMap Tryz.prog 3 (arrR) b n D ∧ (∀ k, Maps.has D k = true → ∃ i, i < c ∧ k = kl i) ∧
    (∀ i, i < c → Maps.has D (kl i) = (M i).isSome) ∧ (∀ i s, i < c → M i = some s → ∀ z, D.atKey (kl i) z = .lit (.string s))
theorem MapD.lt {w : World} {b c : Nat} {M : Nat → Option Bts} (h : MapD w b c M) : b < w.heap.size := by
  obtain ⟨n, D, ho, _⟩ := h
  exact ho.lt
theorem MapD.is_map {w : World} {b c : Nat} {M : Nat → Option Bts} (h : MapD w b c M) : ∃ es clock, w.heap[b]? = some (.map es clock) := by
  obtain ⟨n, D, ⟨es, clock, hb, _⟩, _⟩ := h
  exact ⟨es, clock, hb⟩
theorem MapD.of_heap {w w' : World} {b c : Nat} {M : Nat → Option Bts} (h : MapD w b c M) (e : w'.heap[b]? = w.heap[b]?) : MapD w' b c M := by
  obtain ⟨n, D, ⟨es, clock, hb, r⟩, h1⟩ := h
  exact ⟨n, D, ⟨es, clock, e.trans hb, r⟩, h1⟩
theorem MapD.ext {w : World} {b c : Nat} {M M' : Nat → Option Bts} (h : MapD w b c M) (e : ∀ i, i < c → M i = M' i) : MapD w b c M' := by
  obtain ⟨n, D, ho, h1, h2, h3⟩ := h
  exact ⟨n, D, ho, h1, fun i hi => by rw [h2 i hi, e i hi], fun i s hi hs => h3 i s hi (by rw [e i hi]; exact hs)⟩
theorem size_leD {w : World} {b n c : Nat} {D : DataW Unit} (h : w.ownsMap Tryz.prog 3 (arrR) b n D) (hk : ∀ k, Maps.has D k = true → ∃ i, i < c ∧ k = kl i) (hc : c < 9223372036854775808) : Maps.size D ≤ c := by
  obtain ⟨es, rfl, hp, hl⟩ := h.entries keyed3
  rw [size_eq]
  have hm : ∀ p ∈ es, ∃ i, i < c ∧ p.1 = kl i := fun p hp => hk p.1 (by
    rw [has_eq]; exact List.any_eq_true.2 ⟨p, hp, WideAt.sameKey_self (hl p hp)⟩)
  let f : Lit × DataW Unit → Nat := fun p => match p.1 with | .int _ x => x.toNat | _ => 0
  have hf : ∀ p ∈ es, f p < c ∧ p.1 = kl (f p) := fun p hp => by
    obtain ⟨i, hi, e⟩ := hm p hp
    have : f p = i := by show (match p.1 with | .int _ x => x.toNat | _ => 0) = i; rw [e]; simp [kl]
    rw [this]; exact ⟨hi, e⟩
  have hnd : (es.map f).Nodup := by
    rw [List.Nodup, List.pairwise_map]
    exact List.Pairwise.imp_of_mem (fun {a b} ha hb hne e => hne (by rw [(hf a ha).2, (hf b hb).2, e])) hp
  have := nd_le c (es.map f) hnd (fun x hx => by obtain ⟨p, hp, rfl⟩ := List.mem_map.1 hx; exact (hf p hp).1)
  simpa using this
/-- the bound on the entries may be c itself -/
theorem MapD.tight {w : World} {b c : Nat} {M : Nat → Option Bts} (h : MapD w b c M) (hc : c < 9223372036854775808) : ∃ D : DataW Unit, w.ownsMap Tryz.prog 3 (arrR) b c D ∧ (∀ k, Maps.has D k = true → ∃ i, i < c ∧ k = kl i) ∧
    (∀ i, i < c → Maps.has D (kl i) = (M i).isSome) ∧ (∀ i s, i < c → M i = some s → ∀ z, D.atKey (kl i) z = .lit (.string s)) := by
  obtain ⟨n, D, ho, h1, h2, h3⟩ := h
  have hs := size_leD ho h1 hc
  obtain ⟨es, clock, hb, F, hn, hD⟩ := ho
  refine ⟨D, ⟨es, clock, hb, F, ?_, hD⟩, h1, h2, h3⟩
  rw [hD] at hs
  simpa [Maps.size, length_sorted] using hs
theorem MapD.made (w : World) (c : Nat) : MapD (w.alloc (.map #[] 0)) w.heap.size c (fun _ => none) :=
  ⟨0, .map [], World.ownsMap_made w Tryz.prog 3 _, fun k hk => by simp [Maps.has] at hk, fun i _ => by simp [Maps.has], fun i s _ hs => nomatch hs⟩
theorem MapD.look {w : World} {b c : Nat} {M : Nat → Option Bts} (h : MapD w b c M) (hc : c ≤ 4096) {i : Nat} (hi : i < c) :
    (Instr.lookup 99 (.map (some b)) (.int .i64 (i : Int)) false).run Tryz.prog w = .ok (agB ((M i).getD zD)) w ∧
    (Instr.lookup 99 (.map (some b)) (.int .i64 (i : Int)) true).run Tryz.prog w = .ok (.tuple #[agB ((M i).getD zD), .bool (M i).isSome]) w := by
  obtain ⟨n, D, ho, h1, h2, h3⟩ := h
  have hz : arrR (agB zD) = some (.lit (.string zD), []) := arrR_mk zD
  obtain ⟨v, ps, hr, hv⟩ := ho.lookup keyed3 Tryz.underlying99 (Tryz.zero104 w) hz (key_of (i := i) (by omega))
  obtain ⟨v', ps', hr', hv'⟩ := ho.look_ok keyed3 Tryz.underlying99 (Tryz.zero104 w) hz (key_of (i := i) (by omega))
  have hat : D.atKey (kl i) (.lit (.string zD)) = .lit (.string ((M i).getD zD)) := by
    cases hM : M i with
    | some s => exact h3 i s hi hM _
    | none =>
      have := h2 i hi
      rw [hM] at this
      exact atKey_of_not_has this _
  rw [hat] at hv hv'
  rw [arrR_inv hv] at hr
  rw [arrR_inv hv', h2 i hi] at hr'
  exact ⟨hr, hr'⟩
theorem MapD.store {w : World} {b c : Nat} {M : Nat → Option Bts} (h : MapD w b c M) (hc : c ≤ 4096) {i : Nat} (hi : i < c) (s : Bts) :
    ∃ w', (Instr.mapUpdate 99 (.map (some b)) (.int .i64 (i : Int)) (agB s)).run Tryz.prog w = .ok () w' ∧ MapD w' b c (fun j => if j = i then some s else M j) ∧ w.grownBy w' (some b) ∧ w'.heap.size = w.heap.size := by
  obtain ⟨D, ho, h1, h2, h3⟩ := h.tight (by omega)
  have hv : arrR (agB s) = some (.lit (.string s), []) := arrR_mk s
  have hk := key_lit (i := i) (by omega)
  obtain ⟨w', hr, ho', ht⟩ := ho.store keyed3 Tryz.underlying99 (by unfold maxLen; omega) (key_of (i := i) (by omega)) hv
  refine ⟨w', hr, ⟨_, _, ho', ?_, ?_, ?_⟩, ht.grown, ?_⟩
  · intro k hk1
    by_cases e : k = kl i
    · exact ⟨i, hi, e⟩
    · rw [has_put_other e] at hk1; exact h1 k hk1
  · intro j hj
    by_cases e : j = i
    · subst e; rw [has_put_same ho.isMap hk]; simp
    · rw [has_put_other (fun q => e (kl_inj q)), h2 j hj]; simp [e]
  · intro j t hj ht' z
    by_cases e : j = i
    · subst e
      simp at ht'
      rw [atKey_put_same ho.isMap hk, ht']
    · simp [e] at ht'
      rw [atKey_put_other (fun q => e (kl_inj q))]
      exact h3 j t hj ht' z
  · obtain ⟨es, ck, es', ck', _, rfl⟩ := ht
    simp [setBlock]
end Go.Proofs.YtjippoejaieneaaGreat
