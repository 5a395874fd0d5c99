/- The numbers of a map's cells, rising: what the calls return, on every order of the map. No conditions. -/
import Derived.Test.YtjippoejaieneaaGreatMpd
import Derived.Test.YtjippoejaieneaaGreatGb
import Derived.Test.YtjippoejaieneaaGreatShlf
import Derived.Shelf.AbstractIn
namespace Go.Proofs.YtjippoejaieneaaGreat
open Go.RowKit Go.Maps Go.Sort Go.Shelf
set_option maxRecDepth 20000
set_option linter.unusedVariables false

theorem eq_of_rising : ∀ (a b : List Int), a.Pairwise (· < ·) → b.Pairwise (· < ·) → (∀ x, x ∈ a ↔ x ∈ b) → a = b
  | [], b, _, _, h => by
    cases b with
    | nil => rfl
    | cons y r => have := (h y).2 List.mem_cons_self; simp at this
  | x :: r, [], _, _, h => by have := (h x).1 List.mem_cons_self; simp at this
  | x :: r, y :: t, ha, hb, h => by
    obtain ⟨ha1, ha2⟩ := List.pairwise_cons.1 ha
    obtain ⟨hb1, hb2⟩ := List.pairwise_cons.1 hb
    have hxy : x = y := by
      rcases List.mem_cons.1 ((h x).1 List.mem_cons_self) with q | q
      · exact q
      · have h1 := hb1 x q
        rcases List.mem_cons.1 ((h y).2 List.mem_cons_self) with q2 | q2
        · exact q2.symm
        · have h2 := ha1 y q2; omega
    subst hxy
    rw [eq_of_rising r t ha2 hb2 (fun z => by
      constructor
      · intro hz
        have h1 := ha1 z hz
        rcases List.mem_cons.1 ((h z).1 (List.mem_cons_of_mem _ hz)) with q | q
        · omega
        · exact q
      · intro hz
        have h1 := hb1 z hz
        rcases List.mem_cons.1 ((h z).2 (List.mem_cons_of_mem _ hz)) with q | q
        · omega
        · exact q)]
def keysN (c : Nat) (M : Nat → Option Bts) : List Nat := (List.range c).filter fun i => (M i).isSome
def keysL (c : Nat) (M : Nat → Option Bts) : List Int := (keysN c M).map fun i : Nat => (i : Int)
theorem keysL_rising (c : Nat) (M : Nat → Option Bts) : (keysL c M).Pairwise (· < ·) := by
  unfold keysL keysN
  rw [List.pairwise_map]
  refine List.Pairwise.imp (fun {a b} h => by show (a : Int) < (b : Int); omega) (List.Pairwise.filter _ List.pairwise_lt_range)
theorem keysL_mem (c : Nat) (M : Nat → Option Bts) (x : Int) : x ∈ keysL c M ↔ ∃ i, i < c ∧ (M i).isSome = true ∧ x = (i : Int) := by
  unfold keysL keysN
  simp only [List.mem_map, List.mem_filter, List.mem_range]
  constructor
  · rintro ⟨i, ⟨h1, h2⟩, rfl⟩; exact ⟨i, h1, h2, rfl⟩
  · rintro ⟨i, h1, h2, rfl⟩; exact ⟨i, ⟨h1, h2⟩, rfl⟩
theorem keys_wait {c : Nat} {M : Nat → Option Bts} {es : List (Lit × DataW Unit)} (hp : es.Pairwise (fun p q => p.1 ≠ q.1)) (hl : ∀ p ∈ es, WideAt.IsKeyLit p.1) (m1 : ∀ k, Maps.has (DataW.map es) k = true → ∃ i, i < c ∧ k = kl i)
    (m2 : ∀ i, i < c → Maps.has (DataW.map es) (kl i) = (M i).isSome) (ss : List Int) (h : ss.Perm (intKeys (DataW.map es))) : ss.mergeSort (fun x y => decide (x ≤ y)) = keysL c M := by
  have hk : ∀ p ∈ es, ∃ i, i < c ∧ p.1 = kl i ∧ (M i).isSome = true := fun p hp => by
    have hh : Maps.has (DataW.map es) p.1 = true := by rw [has_eq]; exact List.any_eq_true.2 ⟨p, hp, WideAt.sameKey_self (hl p hp)⟩
    obtain ⟨i, hi, e⟩ := m1 _ hh
    rw [e, m2 i hi] at hh
    exact ⟨i, hi, e, hh⟩
  have hnd : (intKeys (DataW.map es)).Nodup := by
    unfold intKeys
    rw [List.Nodup, List.pairwise_map]
    refine List.Pairwise.imp_of_mem (fun {a b} ha hb hne e => hne ?_) hp
    obtain ⟨i, _, e1, _⟩ := hk a ha
    obtain ⟨j, _, e2, _⟩ := hk b hb
    rw [e1, e2] at e ⊢
    have e3 : (i : Int) = (j : Int) := e
    rw [show i = j by omega]
  have hmem : ∀ x, x ∈ intKeys (DataW.map es) ↔ x ∈ keysL c M := fun x => by
    rw [keysL_mem]
    unfold intKeys
    rw [List.mem_map]
    constructor
    · rintro ⟨p, hp, rfl⟩
      obtain ⟨i, hi, e, hs⟩ := hk p hp
      exact ⟨i, hi, hs, by rw [e]; rfl⟩
    · rintro ⟨i, hi, hs, rfl⟩
      have hh := m2 i hi
      rw [hs, has_eq] at hh
      obtain ⟨p, hp, e⟩ := List.any_eq_true.1 hh
      exact ⟨p, hp, by rw [WideAt.sameKey_eq e]; rfl⟩
  have hps := (List.mergeSort_perm ss (fun x y => decide (x ≤ y))).trans h
  refine eq_of_rising _ _ ?_ (keysL_rising c M) (fun x => by rw [hps.mem_iff, hmem x])
  have h1 := List.pairwise_mergeSort (le := fun x y : Int => decide (x ≤ y)) (fun a b c h1 h2 => by simp at h1 h2 ⊢; omega) (fun a b => by simp; omega) ss
  have h2 : (ss.mergeSort (fun x y => decide (x ≤ y))).Nodup := hps.nodup_iff.2 hnd
  exact (h1.and h2).imp (fun {a b} hh => by have h3 := hh.1; have h4 := hh.2; simp at h3; omega)
theorem Tryz.sortsA (m : Nat) : AnyZI.SortsIn Tryz.prog Tryz.sortedA_ren Fence.wide m :=
  ⟨fun blk off cap ss W hH hblk hsz => callsIn_wide.2 (AnyM.slices_Sort_int Tryz.laysSlM5_f140 blk off cap ss W hH hblk hsz),
   fun p cap W => callsIn_wide.2 (AnyM.slices_Sort_int_none Tryz.laysSlM5_f140 p cap W)⟩
theorem keys_any (mb : Option Nat) (w : World) : Calls Tryz.prog 120 #[.map mb] w fun e w' => e = .returned (.func (.func 141) #[] #[.pointer (some ⟨w.heap.size, 0, none⟩)]) ∧ w' = w.alloc (.cells #[.map mb] 99) :=
  (callsIn_wide (n := 5)).1 (AnyZI.keys_in Tryz.keysA Fence.wide 5 trivial rfl mb w)
set_option maxHeartbeats 2000000 in
theorem sorted_any (w : World) (mb c : Nat) (M : Nat → Option Bts) (h : MapD w mb c M) (hc : c ≤ 4096) :
    Calls Tryz.prog 119 #[.func (.func 141) #[] #[.pointer (some ⟨w.heap.size, 0, none⟩)]] (w.alloc (.cells #[.map (some mb)] 99)) fun e w' => ∃ v, e = .returned v ∧ w'.ownsRow w.heap.size 3 1 v (keysL c M).length ((keysL c M).map cellI) ∧ Below w.heap.size w w' := by
  refine (callsIn_wide (n := 5)).1 ?_
  obtain ⟨n, D0, hown, m1, m2, m3⟩ := h
  have hsz := size_leD hown m1 (by omega)
  have hmax : Maps.size D0 ≤ maxLen := by unfold maxLen; omega
  have hbytes : Maps.size D0 * 8 ≤ 140737488355328 := by omega
  have hbl := hown.lt
  have hseq : SeqGives Fence.wide 2 Tryz.prog 141 #[.pointer (some ⟨w.heap.size, 0, none⟩)] encZ (fun ss => ss.Perm (intKeys D0)) (Maps.size D0) (w.alloc (.cells #[.map (some mb)] 99)) :=
    AnyZI.keys_gives (ρ := Tryz.keysA_ren) { Tryz.keysA with } Fence.wide _ trivial rfl (by omega) w.heap.size mb n D0 _ (by simp) (by simp) (by
      obtain ⟨es, clock, hb, Ft, hs, hD⟩ := hown
      exact ⟨es, clock, (Below.heap_alloc _ _ mb hbl).trans hb, Ft, hs, hD⟩)
  have cS := AnyZI.sorted_in Tryz.sortedA Fence.wide 5 trivial trivial trivial trivial rfl (by omega) (Tryz.sortsA _) (enters_of Tryz.func140 (by kernel_rfl) rfl) 141 #[.pointer (some ⟨w.heap.size, 0, none⟩)] trivial (enters_of Tryz.func141 (by kernel_rfl) rfl) _ _ hmax hbytes _ hseq
  change CallsIn _ _ Tryz.prog 119 _ _ _ at cS
  refine cS.mono ?_
  rintro e w' ⟨v, ss, rfl, hS, hrow, hnil, hb⟩
  obtain ⟨es, hD, hp, hl⟩ := hown.entries keyed3
  subst hD
  have hw := keys_wait hp hl m1 m2 ss hS
  rw [hw] at hrow
  have hlen : ss.length = (keysL c M).length := by rw [← hw, List.length_mergeSort]
  rw [hlen] at hrow
  exact ⟨v, rfl, ownsRow_base_a hrow (by simp), ((Below.refl _ w).alloc (Nat.le_refl _) _).trans (hb.mono (by simp))⟩
end Go.Proofs.YtjippoejaieneaaGreat
