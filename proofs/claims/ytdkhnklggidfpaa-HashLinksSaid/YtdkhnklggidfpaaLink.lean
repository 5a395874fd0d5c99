/- Each link of a chain is the sum of the link before, the record's length in eight bytes, and the record; the chain of records is its links, one by one; the arguments read behind the call as before. No conditions but those of the given statement. -/
import Derived.Test.YtdkhnklggidfpaaLinw
import Derived.ProofKit
import Derived.OpenShut
import Derived.ShutString
import Derived.ChangeOld
import Derived.SizedLaws
import Derived.SliceStrings
import Derived.ChangeSlices
namespace Go.Proofs.Ytdkhnklggidfpaa
open Go.ChangeShapes Go.WideShapes Go.ChangeAt Go.RowKit
open Go.ChangeMaps (open_string shut_string)
set_option linter.unusedVariables false

theorem weights_strs {H : Type} : ∀ (L : List ByteArray), ∀ x ∈ L, x.size ∈ DataW.weightsAll (H := H) Try.prog 9 (strs (H := H) L)
  | [], x, hx => by simp at hx
  | y :: L, x, hx => by
    have e : DataW.weightsAll (H := H) Try.prog 9 (strs (H := H) (y :: L)) = [y.data.toList.length] ++ DataW.weightsAll (H := H) Try.prog 9 (strs (H := H) L) := rfl
    rw [e, List.mem_append]
    rcases List.mem_cons.1 hx with rfl | hx
    · left; rw [baList]; exact List.mem_singleton.2 rfl
    · right; exact weights_strs L x hx
theorem strs_sized {H : Type} {enc : TypeId × Value → H} {W : World} {base : Nat} {ao : Option Addr} {len cap : Nat} {d : DataW H} {p : List MemPlace}
    (h : DataW.Trod enc Try.prog W base (fun _ => true) true 27 (.slice ao len cap) d p) (hw : ∀ n ∈ d.weights Try.prog 27, n ≤ reachBytes) :
    ∃ xs : List ByteArray, xs.length = len ∧ LiesS W ao xs ∧ (∀ x ∈ xs, x.size ≤ 140737488351232) ∧ xs.length ≤ cap ∧ cap ≤ maxLen := by
  obtain ⟨fuel, hf⟩ := h
  rcases open_strings Try.underlying27 Try.underlying9 Try.cells9 hf with ⟨hcs, hx⟩ | ⟨a, len', cap', ss, hcs, hb, hl, hm, hsl, hx, hc, hsz⟩
  · simp [Value.cells] at hcs
    obtain ⟨rfl, rfl, rfl⟩ := hcs
    exact ⟨[], rfl, fun i hi => by simp at hi, fun x hx => by simp at hx, Nat.le_refl _, Nat.zero_le _⟩
  · simp [Value.cells] at hcs
    obtain ⟨rfl, rfl, rfl⟩ := hcs
    have hle : len ≤ ss.length := by rw [hsl]; simp; omega
    simp only [Prod.mk.injEq] at hx
    rw [hx.1] at hw
    refine ⟨ss.take len, by simp; omega, ?_, ?_, by simp; omega, hm⟩
    · intro i hi
      have hi' : i < len := by simp at hi; omega
      have hci := hc i (by omega)
      refine ⟨a, rfl, ?_, ?_⟩
      · rw [hci]; simp [List.getD, List.getElem?_eq_getElem (show i < ss.length by omega)]
      · have := World.block_lt_of_cell? W _ hci
        rwa [add_block] at this
    · intro x hxm
      have := hw x.size (by
        simp only [DataW.weights, Try.underlying27]
        exact List.mem_cons_of_mem _ (List.mem_append_left _ (weights_strs _ x hxm)))
      simpa [reachBytes] using this

namespace HashLinks
set_option maxRecDepth 100000 in
theorem lifted (os : Os) (started : os.Started) (H : Type) (enc : TypeId × Value → H) :
    ReturnsInHanded {} Try.checked os 10 .any (Rows.hashLinksSpec.pre6 enc Try.prog Try.f10 Rows.hashLinksRow.domain false) (Rows.hashLinksSpec.post enc Try.prog Try.f10 false true false false) := by
  refine returnsInHanded_of_change_sized (C := Try.checked) Try.own started (by kernel_rfl) Try.func10
    (ChangeSpec.witness6 (enc := enc) (C := Try.checked) false ⟨#[], #[.string ByteArray.empty, .slice none 0 0], []⟩ 8 (by kernel_rfl) (by kernel_rfl) (by kernel_rfl) (by kernel_rfl)) ?_
  intro W base args ds gs before hval0 hW hcnd hsz0 _
  have hval : ∀ (j : Nat) t v, Try.f10.params[j]? = some t → args[j]? = some v → Value.okWide Try.prog W .any base t v := hval0
  have hsz : (DataW.weightsEach Try.prog (Try.f10.params.toList ++ Rows.hashLinksSpec.plain.varTypes Try.prog) (ds ++ gs)).all (· ≤ reachBytes) = true := hsz0
  clear hsz0
  have hW' := hW
  obtain ⟨p, q, hA0, hV, rfl, hfz, hnd⟩ := hW
  have hA : DataW.TrodAll enc Try.prog W 0 (fun _ => true) true Try.f10.params.toList args.toList ds p := hA0
  rw [Try.params10] at hA hval hsz
  obtain ⟨v0, vs0, d0, ds0, p0, q0, hargs, rfl, rfl, h0, r0⟩ := trodAll_cons hA
  obtain ⟨v1, vs1, d1, ds1, p1, q1, rfl, rfl, rfl, h1, r1⟩ := trodAll_cons r0
  obtain ⟨rfl, rfl, rfl⟩ := trodAll_nil r1
  obtain rfl : args = #[v0, v1] := by cases args; simp_all
  obtain ⟨rfl, rfl⟩ := trodVars_none hV
  obtain ⟨a0, rfl, rfl, rfl, w0⟩ := open_string Try.underlying9 (hval 0 9 v0 rfl rfl) h0
  have z0 : a0.size ≤ 140737488351232 := by simpa [reachBytes] using sized_string hsz (j := 0) (t := 9) rfl rfl
  obtain ⟨ao1, len1, cap1, rfl⟩ := okWide_slice Try.underlying27 (hval 1 27 v1 rfl rfl)
  have k1 := h1
  have lt1 : ∀ x ∈ p1, x.block < W.heap.size := by obtain ⟨m, hm⟩ := k1; exact DataW.trod_lt m _ _ _ hm
  have hw1 : ∀ n ∈ d1.weights Try.prog 27, n ≤ reachBytes := fun n hn => by
    have := List.all_eq_true.1 hsz n (DataW.weights_mem_each (j := 1) (t := 27) (d := d1) rfl rfl n hn)
    simpa using this
  obtain ⟨xs1, rfl, hX1, hx1, hl1, hm1⟩ := strs_sized h1 hw1
  clear hA0 hval0
  simp only [List.append_nil] at hW'
  refine (links_walk a0 ao1 xs1 cap1 W z0 hx1 hl1 hm1 hX1).mono fun e W' ⟨he, bel⟩ => ?_
  subst he
  exact ⟨_, rfl, _, _, _, [], _, [], hW', trodAll_mk1 (shut_bool Try.underlying4 _), (trodAll_cons_mk (shut_string Try.underlying9 w0) (trodAll_cons_mk (Below.trod Try.laidOut (by kernel_rfl) (of_decide_eq_true (by kernel_rfl)) k1 bel lt1) trodAll_mk0)), rfl, bel.frame _, fun h => by cases h⟩

theorem over : Rows.hashLinksRow.holds Try.pinned (OpenSpec.ofChange Rows.hashLinksSpec) :=
  OpenClaim.holds_of_wide 10 Try.f10 rfl rfl rfl rfl rfl rfl rfl ⟨rfl, rfl, rfl, rfl, rfl⟩ rfl rfl rfl rfl rfl (by kernel_rfl) Try.func10 (by kernel_rfl)
    (of_decide_eq_true (by kernel_rfl)) (by unfold Func.isWrapper; first | (rw [if_pos (by decide +kernel)]; kernel_rfl) | (rw [if_neg (by decide +kernel)]; exact ⟨rfl, rfl⟩))
    (fun os started H enc _ => lifted os started H enc)
end HashLinks

/-- THE STATEMENT -/
theorem hashLinks_holds : Rows.HashLinksSaid := HashLinks.over
end Go.Proofs.Ytdkhnklggidfpaa
