/- The numbers of the unsafe sectors, rising: what the call returns, on every order of the map; and a disk cloned. No conditions. -/
import Derived.Test.YtcmhpkeighenaaaNwc
import Derived.Shelf.AbstractIn
namespace Go.Proofs.Ytcmhpkeighenaaa
open Go.RowKit Go.Maps Go.Sort Go.Shelf
set_option linter.unusedVariables false

theorem eq_of_rising : ∀ (a b : List Int), a.Pairwise (· < ·) → b.Pairwise (· < ·) → (∀ x, x ∈ a ↔ x ∈ b) → a = b
  | [], b, _, _, h => by
    cases b with
    | nil => rfl
    | cons y r => have := (h y).2 List.mem_cons_self; simp at this
  | x :: r, [], _, _, h => by have := (h x).1 List.mem_cons_self; simp at this
  | x :: r, y :: t, ha, hb, h => by
    obtain ⟨ha1, ha2⟩ := List.pairwise_cons.1 ha
    obtain ⟨hb1, hb2⟩ := List.pairwise_cons.1 hb
    have hxy : x = y := by
      rcases List.mem_cons.1 ((h x).1 List.mem_cons_self) with q | q
      · exact q
      · have h1 := hb1 x q
        rcases List.mem_cons.1 ((h y).2 List.mem_cons_self) with q2 | q2
        · exact q2.symm
        · have h2 := ha1 y q2; omega
    subst hxy
    rw [eq_of_rising r t ha2 hb2 (fun z => by
      constructor
      · intro hz
        have h1 := ha1 z hz
        rcases List.mem_cons.1 ((h z).1 (List.mem_cons_of_mem _ hz)) with q | q
        · omega
        · exact q
      · intro hz
        have h1 := hb1 z hz
        rcases List.mem_cons.1 ((h z).2 (List.mem_cons_of_mem _ hz)) with q | q
        · omega
        · exact q)]
def St.waitI (S : St) : List Int := S.waiting.map fun i : Nat => (i : Int)
theorem waitI_rising (S : St) : S.waitI.Pairwise (· < ·) := by
  unfold St.waitI St.waiting
  rw [List.pairwise_map]
  refine List.Pairwise.imp (fun {a b} h => by show (a : Int) < (b : Int); omega) (List.Pairwise.filter _ List.pairwise_lt_range)
theorem waitI_mem (S : St) (x : Int) : x ∈ S.waitI ↔ ∃ i, i < S.count ∧ (S.wr i).isSome = true ∧ x = (i : Int) := by
  unfold St.waitI St.waiting
  simp only [List.mem_map, List.mem_filter, List.mem_range]
  constructor
  · rintro ⟨i, ⟨h1, h2⟩, rfl⟩; exact ⟨i, h1, h2, rfl⟩
  · rintro ⟨i, h1, h2, rfl⟩; exact ⟨i, ⟨h1, h2⟩, rfl⟩
theorem keys_wait {S : St} {es : List (Lit × DataW Unit)} (hp : es.Pairwise (fun p q => p.1 ≠ q.1)) (hl : ∀ p ∈ es, WideAt.IsKeyLit p.1) (m1 : ∀ k, Maps.has (DataW.map es) k = true → ∃ i, i < S.count ∧ k = kl i)
    (m2 : ∀ i, i < S.count → Maps.has (DataW.map es) (kl i) = (S.wr i).isSome) (ss : List Int) (h : ss.Perm (intKeys (DataW.map es))) : ss.mergeSort (fun x y => decide (x ≤ y)) = S.waitI := by
  have hk : ∀ p ∈ es, ∃ i, i < S.count ∧ p.1 = kl i ∧ (S.wr i).isSome = true := fun p hp => by
    have hh : Maps.has (DataW.map es) p.1 = true := by rw [has_eq]; exact List.any_eq_true.2 ⟨p, hp, WideAt.sameKey_self (hl p hp)⟩
    obtain ⟨i, hi, e⟩ := m1 _ hh
    rw [e, m2 i hi] at hh
    exact ⟨i, hi, e, hh⟩
  have hnd : (intKeys (DataW.map es)).Nodup := by
    unfold intKeys
    rw [List.Nodup, List.pairwise_map]
    refine List.Pairwise.imp_of_mem (fun {a b} ha hb hne e => hne ?_) hp
    obtain ⟨i, _, e1, _⟩ := hk a ha
    obtain ⟨j, _, e2, _⟩ := hk b hb
    rw [e1, e2] at e ⊢
    have e3 : (i : Int) = (j : Int) := e
    rw [show i = j by omega]
  have hmem : ∀ x, x ∈ intKeys (DataW.map es) ↔ x ∈ S.waitI := fun x => by
    rw [waitI_mem]
    unfold intKeys
    rw [List.mem_map]
    constructor
    · rintro ⟨p, hp, rfl⟩
      obtain ⟨i, hi, e, hs⟩ := hk p hp
      exact ⟨i, hi, hs, by rw [e]; rfl⟩
    · rintro ⟨i, hi, hs, rfl⟩
      have hh := m2 i hi
      rw [hs, has_eq] at hh
      obtain ⟨p, hp, e⟩ := List.any_eq_true.1 hh
      exact ⟨p, hp, by rw [WideAt.sameKey_eq e]; rfl⟩
  have hps := (List.mergeSort_perm ss (fun x y => decide (x ≤ y))).trans h
  refine eq_of_rising _ _ ?_ (waitI_rising S) (fun x => by rw [hps.mem_iff, hmem x])
  have h1 := List.pairwise_mergeSort (le := fun x y : Int => decide (x ≤ y)) (fun a b c h1 h2 => by simp at h1 h2 ⊢; omega) (fun a b => by simp; omega) ss
  have h2 : (ss.mergeSort (fun x y => decide (x ≤ y))).Nodup := hps.nodup_iff.2 hnd
  exact (h1.and h2).imp (fun {a b} hh => by have h3 := hh.1; have h4 := hh.2; simp at h3; omega)
theorem Try.sortsA (m : Nat) : AnyZI.SortsIn Try.prog Try.sortedA_ren Fence.wide m :=
  ⟨fun blk off cap ss W hH hblk hsz => callsIn_wide.2 (AnyM.slices_Sort_int Try.laysSlM5_f68 blk off cap ss W hH hblk hsz),
   fun p cap W => callsIn_wide.2 (AnyM.slices_Sort_int_none Try.laysSlM5_f68 p cap W)⟩
set_option maxHeartbeats 2000000 in
theorem waiting_any (F : Nat → Prop) (p : Nat) (S : St) (w : World) (h : IsD w F p S) :
    Calls Try.prog 20 #[.pointer (some ⟨p, 0, none⟩)] w fun e w' => ∃ v, e = .returned v ∧ w'.ownsRow w.heap.size 3 1 v S.waitI.length (S.waitI.map cellI) ∧ Below w.heap.size w w' := by
  refine (callsIn_wide (n := 6)).1 ?_
  obtain ⟨sb, cap, mb, cv, hd, hc, h1, h2, h3⟩ := h
  obtain ⟨n, D0, hown, m1, m2, m3⟩ := hd.map
  have hsz := size_le hown m1 (by have := hd.ok.hi; omega)
  have hmax : Maps.size D0 ≤ maxLen := by have := hd.ok.hi; unfold maxLen; omega
  have hbytes : Maps.size D0 * 8 ≤ 140737488355328 := by have := hd.ok.hi; omega
  obtain ⟨c0, c1, c2, c3, c4, hf⟩ := hd.cells
  have hbl := hown.lt
  have hseq : SeqGives Fence.wide 2 Try.prog 69 #[.pointer (some ⟨w.heap.size, 0, none⟩)] encZ (fun ss => ss.Perm (intKeys D0)) (Maps.size D0) (w.alloc (.cells #[.map (some mb)] 58)) :=
    AnyZI.keys_gives (ρ := Try.keysA_ren) { Try.keysA with } Fence.wide _ trivial rfl (by omega) w.heap.size mb n D0 _ (by simp) (by simp) (by
      obtain ⟨es, clock, hb, Ft, hs, hD⟩ := hown
      exact ⟨es, clock, (Below.heap_alloc _ _ mb hbl).trans hb, Ft, hs, hD⟩)
  have cK : ∀ mb W, CallsIn Fence.wide 5 Try.prog 50 #[.map mb] W fun e w' => e = .returned (.func (.func 69) #[] #[.pointer (some ⟨W.heap.size, 0, none⟩)]) ∧ w' = W.alloc (.cells #[.map mb] 58) := fun mb W => AnyZI.keys_in Try.keysA Fence.wide 5 trivial rfl mb W
  have cS := AnyZI.sorted_in Try.sortedA Fence.wide 5 trivial trivial trivial trivial rfl (by omega) (Try.sortsA _) (enters_of Try.func68 (by kernel_rfl) rfl) 69 #[.pointer (some ⟨w.heap.size, 0, none⟩)] trivial (enters_of Try.func69 (by kernel_rfl) rfl) _ _ hmax hbytes _ hseq
  change CallsIn _ _ Try.prog 49 _ _ _ at cS
  have hfK : Fence.wide.fn 50 := trivial
  have hfS : Fence.wide.fn 49 := trivial
  have HO := Lib.hid (And.intro hown (And.intro m1 m2))
  clear hd hc hown m1 m2 m3 hsz hmax hbytes hseq hbl hf c0 c2 c3 c4
  refine callsIn_of_wp Try.func20 rfl trivial ?_ rfl
  simp only [Try.ntmps20, List.size_toArray, List.length_cons, List.length_nil, Nat.reduceAdd, Nat.reduceSub, Array.replicate_succ, Array.replicate_zero, List.push_toArray, List.append_toArray, List.nil_append, List.cons_append]
  gi_wp2_with (first
    | (gi_at_call 50; refine (cK _ _).mono ?_; rintro e w' ⟨rfl, rfl⟩)
    | (gi_at_call 49; refine cS.mono ?_; rintro e w' ⟨v, ss, rfl, hS, hrow, hnil, hb⟩))
  go_ret
  obtain ⟨es, hD, hp, hl⟩ := HO.out.1.entries keyed3
  subst hD
  have hw := keys_wait hp hl HO.out.2.1 HO.out.2.2 ss hS
  rw [hw] at hrow
  have hlen : ss.length = S.waitI.length := by rw [← hw, List.length_mergeSort]
  rw [hlen] at hrow
  exact ⟨v, rfl, ownsRow_base_a hrow (by simp), ((Below.refl _ w).alloc (Nat.le_refl _) _).trans (hb.mono (by simp))⟩
set_option maxRecDepth 20000 in
set_option maxHeartbeats 2000000 in
theorem clone_any (F : Nat → Prop) (p : Nat) (S : St) (w : World) (h : IsD w F p S) :
    Calls Try.prog 12 #[.pointer (some ⟨p, 0, none⟩)] w fun e w' => ∃ F' p', e = .returned (.pointer (some ⟨p', 0, none⟩)) ∧ IsD w' F' p' S ∧ (∀ k, F' k → w.heap.size ≤ k ∧ k < w'.heap.size) ∧ Below w.heap.size w w' := by
  obtain ⟨sb, cap, mb, cv, hd, hc, h1, h2, h3⟩ := h
  obtain ⟨c0, c1, c2, c3, c4, hf⟩ := hd.cells
  obtain ⟨q, cap0, hcv⟩ : ∃ q cap0, cv = .slice q S.ch.length cap0 := by obtain ⟨q, cap0, e, _⟩ := hc; exact ⟨q, cap0, e⟩
  obtain ⟨L, hL⟩ : ∃ L, L = S.ch.length := ⟨_, rfl⟩
  rw [← hL] at hcv
  obtain ⟨B, hB⟩ : ∃ B, B = w.heap.size := ⟨_, rfl⟩
  obtain ⟨W1, hW1⟩ : ∃ W1, W1 = w.alloc (.cells (dcells sb S.safe.length cap mb S.dead S.armed cv) 60) := ⟨_, rfl⟩
  have hb1 : Below w.heap.size w W1 := by rw [hW1]; exact (Below.refl _ w).alloc (Nat.le_refl _) _
  have hB1 : W1.heap[B]? = some (.cells (dcells sb S.safe.length cap mb S.dead S.armed cv) 60 (0, 0)) := by rw [hW1, hB]; exact block_new _ _
  have HD := Lib.hid hd
  have HC := Lib.hid hc
  have HB := Lib.hid hB
  have HL := Lib.hid hL
  have k1 := cloneB_any sb cap S.safe W1 (hd.below hb1).row (by have := hd.ok.len; have := hd.ok.lo; omega) (by have := hd.ok.len; have := hd.ok.hi; omega)
  have x0 := cell_below c0 hb1
  have HB1 := Lib.hid (And.intro hb1 hB1)
  have hchl := Lib.hid hd.ok.chl
  have hW1s : w.alloc (.cells #[.slice (some ⟨sb, 0, none⟩) S.safe.length cap, .map (some mb), .bool S.dead, .int .i64 (S.armed : Int), cv] 60) = W1 := hW1.symm
  rw [hcv] at c4 hW1s
  have HCV := Lib.hid hcv
  have HX1 := Lib.hid (And.intro c1 c4)
  clear hd hc hf hb1 hB1 hL hW1 hcv hB
  generalize hN : S.safe.length = N at *
  have HN := Lib.hid hN
  clear hN
  go_enter Try.func12, Try.ntmps12
  go_wp2_with (fail)
  rw [← HB.out]
  refine k1.mono ?_
  rintro e W2 ⟨g, cap', rfl, hgs, hr2, hbb⟩
  have hb2 : Below w.heap.size w W2 := HB1.out.1.trans (hbb.mono HB1.out.1.size)
  have hBl : B < W1.heap.size := block_lt HB1.out.2
  have hB2 := heap_below HB1.out.2 hbb hBl
  have hgB : B ≠ g := by omega
  have hgl := hr2.lt
  have f0 := block_free (o := 0) hB2
  have y0 : W2.cell? ⟨B, 0, none⟩ = some (.slice (some ⟨sb, 0, none⟩) N cap) := by rw [cell_of_row _ _ _ _ _ _ hB2]; rfl
  obtain ⟨W3, hW3⟩ : ∃ W3, W2.setCell ⟨B, 0, none⟩ (.slice (some ⟨g, 0, none⟩) N cap') = W3 := ⟨_, rfl⟩
  have hb3 : Below w.heap.size w W3 := by rw [← hW3]; exact hb2.setCell (by show w.heap.size ≤ B; rw [HB.out]; exact Nat.le_refl _) _
  have hB3 : W3.heap[B]? = some (.cells (dcells g N cap' mb S.dead S.armed cv) 60 (0, 0)) := by rw [← hW3]; exact block_setCell (o := 0) (u := .slice (some ⟨g, 0, none⟩) N cap') hB2
  have hr3 : RowB W3 g cap' S.safe := by rw [← hW3]; exact hr2.setCell (fun e => hgB e.symm) _
  have x1 := cell_below HX1.out.1 hb3
  have km := cloneM_any mb S.count S.wr W3 (HD.out.below hb3).map
  have hs3 : W3.heap.size = W2.heap.size := by rw [← hW3, setCell_size]
  have HB3 := Lib.hid (And.intro hb3 (And.intro hB3 (And.intro hr3 (And.intro hgs (And.intro hBl (And.intro hs3 (And.intro hgl hbb.size)))))))
  clear hb2 hB2 hgB hgl hr2 hbb hgs hBl hb3 hB3 hr3 hs3 c0 c1 c2 c3 c4 hW1s k1 x0
  go_wp2_with (fail)
  refine km.mono ?_
  rintro e W4 ⟨rfl, hm4, hbb4⟩
  obtain ⟨m2, hm2⟩ : ∃ m2, m2 = W3.heap.size := ⟨_, rfl⟩
  rw [← hm2] at hm4 ⊢
  have hb4 : Below w.heap.size w W4 := HB3.out.1.trans (hbb4.mono HB3.out.1.size)
  have hB4 := heap_below HB3.out.2.1 hbb4 (block_lt HB3.out.2.1)
  have f1 := block_free (o := 1) hB4
  have y1 : W4.cell? ⟨B, 1, none⟩ = some (.map (some mb)) := by rw [cell_of_row _ _ _ _ _ _ hB4]; rfl
  have hr4 : RowB W4 g cap' S.safe := HB3.out.2.2.1.of_heap (hbb4.block g HB3.out.2.2.1.lt)
  obtain ⟨W5, hW5⟩ : ∃ W5, W4.setCell ⟨B, 1, none⟩ (.map (some m2)) = W5 := ⟨_, rfl⟩
  have hb5 : Below w.heap.size w W5 := by rw [← hW5]; exact hb4.setCell (by show w.heap.size ≤ B; rw [HB.out]; exact Nat.le_refl _) _
  have hB5 : W5.heap[B]? = some (.cells (dcells g N cap' m2 S.dead S.armed cv) 60 (0, 0)) := by rw [← hW5]; exact block_setCell (o := 1) (u := .map (some m2)) hB4
  have hBm : m2 ≠ B := by have := block_lt HB3.out.2.1; omega
  have hgB : g ≠ B := by have := HB3.out.2.2.2.1; have := HB3.out.2.2.2.2.1; omega
  have hr5 : RowB W5 g cap' S.safe := by rw [← hW5]; exact hr4.setCell hgB _
  have hm5 : MapA W5 m2 S.count S.wr := by rw [← hW5]; exact hm4.setCell hBm _
  have x4 := cell_below HX1.out.2 hb5
  have hc5 : CV W5 (fun b => F b ∧ b ≠ p ∧ b ≠ sb ∧ b ≠ mb) cv S.ch := HC.out.below hb5
  have ki := cloneI_any _ cv S.ch W5 hc5 (by have := hchl.out; omega)
  rw [HCV.out] at ki
  have hs5 : W5.heap.size = W4.heap.size := by rw [← hW5, setCell_size]
  have HB5 := Lib.hid (And.intro hb5 (And.intro hB5 (And.intro hr5 (And.intro hm5 (And.intro hm2 (And.intro hs5 (And.intro hBm (And.intro hgB hbb4.size))))))))
  clear hb4 hB4 hr4 hm4 hbb4 hb5 hB5 hBm hgB hr5 hm5 hc5 hs5 hm2 km x1 y0 f0 hW3
  go_wp2_with (fail)
  refine ki.mono ?_
  rintro e W6 ⟨v6, rfl, hc6, hbb6⟩
  obtain ⟨q6, cap6, hv6, _⟩ := id hc6
  have hb6 : Below w.heap.size w W6 := HB5.out.1.trans (hbb6.mono HB5.out.1.size)
  have hB6 := heap_below HB5.out.2.1 hbb6 (block_lt HB5.out.2.1)
  have f4 := block_free (o := 4) hB6
  have y4 : W6.cell? ⟨B, 4, none⟩ = some cv := by rw [cell_of_row _ _ _ _ _ _ hB6]; rfl
  have hr6 : RowB W6 g cap' S.safe := HB5.out.2.2.1.of_heap (hbb6.block g HB5.out.2.2.1.lt)
  have hm6 : MapA W6 m2 S.count S.wr := HB5.out.2.2.2.1.of_heap (hbb6.block m2 HB5.out.2.2.2.1.lt)
  obtain ⟨W7, hW7⟩ : ∃ W7, W6.setCell ⟨B, 4, none⟩ v6 = W7 := ⟨_, rfl⟩
  have hb7 : Below w.heap.size w W7 := by rw [← hW7]; exact hb6.setCell (by show w.heap.size ≤ B; rw [HB.out]; exact Nat.le_refl _) _
  have hB7 : W7.heap[B]? = some (.cells (dcells g N cap' m2 S.dead S.armed v6) 60 (0, 0)) := by rw [← hW7]; exact block_setCell (o := 4) (u := v6) hB6
  have hr7 : RowB W7 g cap' S.safe := by rw [← hW7]; exact hr6.setCell HB5.out.2.2.2.2.2.2.2.1 _
  have hm7 : MapA W7 m2 S.count S.wr := by rw [← hW7]; exact hm6.setCell HB5.out.2.2.2.2.2.2.1 _
  have hB5l := block_lt HB5.out.2.1
  have hg5 := HB5.out.2.2.1.lt
  have hm5l := HB5.out.2.2.2.1.lt
  have hc7 : CV W7 (fun b => (w.heap.size ≤ b ∧ b < W7.heap.size) ∧ b ≠ B ∧ b ≠ g ∧ b ≠ m2) v6 S.ch := by
    rw [← hW7]
    refine CV.mono (hc6.lt.setCell (a := ⟨B, 4, none⟩) (fun k hk => by show k ≠ B; have := hk.1; omega) v6) (fun k hk => ?_)
    have := hk.1; have := hk.2; have := HB5.out.1.size
    refine ⟨⟨by omega, by rw [setCell_size]; omega⟩, by omega, by omega, by omega⟩
  have hd7 : D W7 B g cap' m2 v6 S := ⟨by rw [hB7, HN.out], hr7, hm7, HD.out.ok, fun e => HB5.out.2.2.2.2.2.2.2.1 e.symm⟩
  have hgw : w.heap.size ≤ g := by have := HB3.out.2.2.2.1; have := HB1.out.1.size; omega
  have hmw : w.heap.size ≤ m2 := by have := HB5.out.2.2.2.2.1; have := HB3.out.1.size; omega
  have HX := Lib.hid (And.intro hb7 (show IsD W7 (fun b => w.heap.size ≤ b ∧ b < W7.heap.size) B S from ⟨g, cap', m2, v6, hd7, hc7, ⟨by rw [HB.out]; exact Nat.le_refl _, block_lt hB7⟩, ⟨hgw, hr7.lt⟩, ⟨hmw, hm7.lt⟩⟩))
  clear hb6 hB6 hr6 hm6 hb7 hB7 hr7 hm7 hB5l hg5 hm5l hc7 hd7 hgw hmw hc6 hbb6 x4 y1 f1 hW5 ki
  rw [HCV.out] at y4
  generalize S.ch.length = L6 at hv6
  rw [hv6] at hW7 ⊢
  go_wp2
  go_ret
  exact ⟨_, _, rfl, HX.out.2, fun k hk => hk, HX.out.1⟩
end Go.Proofs.Ytcmhpkeighenaaa
