/- The sum, the mac, a link and a chain: what the calls return; nothing that was there turns. Conditions: the bytes are few enough for a machine. -/
import Derived.Test.YtdkhnklggidfpaaPad
namespace Go.Proofs.Ytdkhnklggidfpaa
open Go.RowKit
set_option linter.unusedVariables false

theorem bytes_lit (s : St) (hs : s.ok) (w : World) :
    Calls Try.prog 34 #[.agg #[.int .u32 (s.a : Nat), .int .u32 (s.b : Nat), .int .u32 (s.c : Nat), .int .u32 (s.d : Nat), .int .u32 (s.e : Nat), .int .u32 (s.f : Nat), .int .u32 (s.g : Nat), .int .u32 (s.h : Nat)]] w fun e w' => e = .returned (.string ⟨(outs s).toArray⟩) ∧ Below w.heap.size w w' :=
  bytes_any s hs w

set_option maxRecDepth 100000 in
set_option maxHeartbeats 1000000 in
theorem hsum_any (b : Nat) (l : List UInt8) (w : World) (h : IsH w b l) (hl : l.length < 576460752303423488) :
    Calls Try.prog 23 #[.pointer (some ⟨b, 0, none⟩)] w fun e w' => e = .returned (.string ⟨(sumL l).toArray⟩) ∧ Below w.heap.size w w' := by
  obtain ⟨q, hq, hq2, hb⟩ := h
  have hs := hcells_size (fed l).1 q l.length hq
  have h1 := hcells_one (fed l).1 q l.length
  have hN : ∀ (w1 : World) , IsH (w1.alloc (.cells (hcells (fed l).1 q l.length) 53)) w1.heap.size l := fun w1 => ⟨q, hq, hq2, block_new _ _⟩
  have c72 : w.cell? ⟨b, 72, none⟩ = some (.int .i64 (l.length : Nat)) := by rw [cell_of_row w b 72 _ _ _ hb]; exact hcells_last _ _ _ hq
  have hlt := block_lt hb
  have z := Try.zero53
  have zs : (hcells ⟨0, 0, 0, 0, 0, 0, 0, 0⟩ (List.replicate 64 0) 0).size = 73 := hcells_size _ _ _ (by simp)
  generalize hcells ⟨0, 0, 0, 0, 0, 0, 0, 0⟩ (List.replicate 64 0) 0 = Z at *
  generalize hcells (fed l).1 q l.length = C at *
  have d72 : (w.alloc (.cells C 53)).cell? ⟨b, 72, none⟩ = some (.int .i64 (l.length : Nat)) := by rw [World.cell?_alloc_past _ _ _ hlt]; exact c72
  obtain ⟨n, hn⟩ : ∃ n, n = l.length := ⟨_, rfl⟩
  have HN := Lib.hid hn
  rw [← hn] at c72 d72 hl
  clear hn
  have hbel0 : Below w.heap.size w (w.alloc (.cells C 53)) := (Below.refl _ _).alloc (Nat.le_refl _) _
  have hH := hN w
  go_enter Try.func23, Try.ntmps23
  go_wp2_with (first
    | (refine wpList_load_row rfl 53 _ rfl b rfl 53 _ (0, 0) _ hb Try.underlying53 rfl (by rw [Try.size53, hs]) ?_)
    | (refine op_alloc rfl 53 rfl Z z ?_)
    | (refine wpList_store_row rfl 53 _ _ rfl w.heap.size C rfl rfl 53 _ (heap_alloc_last w _) (by rw [Try.size53, hs]) (by rw [zs, hs]) h1 ?_; rw [World.setRow_alloc_new])
    | (go_at_call 33; refine (padding_any n hl _).mono ?_; rintro e w1 ⟨rfl, b1⟩))
  have hpl : (pad n).toArray.size ≤ 73 := by rw [List.size_toArray, pad_length]; unfold zeros; omega
  refine (write_any w.heap.size l ⟨(pad n).toArray⟩ w1 (hH.below b1 (by simp)) (Nat.le_trans hpl (by decide)) (by show l.length + (pad n).toArray.size < _; have := HN.out; omega)).mono ?_
  rintro e w2 ⟨rfl, hh2, hk2⟩
  have hb2 : Below w.heap.size w w2 := Keeps.to_below (hbel0.trans (b1.mono hbel0.size)) hk2 (Nat.le_refl _) (Nat.le_trans hbel0.size b1.size)
  have hlist : l ++ (pad n).toArray.toList = l ++ pad l.length := by rw [← HN.out]
  have hh3 : IsH w2 w.heap.size (l ++ pad l.length) := by rw [← hlist]; exact hh2
  have hsum : sumL l = outs (fed (l ++ pad l.length)).1 := rfl
  obtain ⟨q2, _, _, hg⟩ := hh3
  have hok := fed_ok (l ++ pad l.length)
  generalize (l ++ pad l.length).length = n2 at *
  generalize fed (l ++ pad l.length) = x at *
  have HS := Lib.hid hsum
  clear hsum
  have hcell : ∀ i (h : i < 8), w2.cell? ⟨w.heap.size, i, none⟩ = some (cellW ((stL x.1).getD i 0)) := fun i h => by
    rw [cell_of_row w2 _ i _ _ _ hg]; exact hcells_at _ _ _ _ h
  have c0 : w2.cell? ⟨w.heap.size, 0, none⟩ = some (.int .u32 (x.1.a : Nat)) := hcell 0 (by decide)
  have c1 : w2.cell? ⟨w.heap.size, 1, none⟩ = some (.int .u32 (x.1.b : Nat)) := hcell 1 (by decide)
  have c2 : w2.cell? ⟨w.heap.size, 2, none⟩ = some (.int .u32 (x.1.c : Nat)) := hcell 2 (by decide)
  have c3 : w2.cell? ⟨w.heap.size, 3, none⟩ = some (.int .u32 (x.1.d : Nat)) := hcell 3 (by decide)
  have c4 : w2.cell? ⟨w.heap.size, 4, none⟩ = some (.int .u32 (x.1.e : Nat)) := hcell 4 (by decide)
  have c5 : w2.cell? ⟨w.heap.size, 5, none⟩ = some (.int .u32 (x.1.f : Nat)) := hcell 5 (by decide)
  have c6 : w2.cell? ⟨w.heap.size, 6, none⟩ = some (.int .u32 (x.1.g : Nat)) := hcell 6 (by decide)
  have c7 : w2.cell? ⟨w.heap.size, 7, none⟩ = some (.int .u32 (x.1.h : Nat)) := hcell 7 (by decide)
  clear hcell hg hh2 hk2 hlist
  go_wp2_with (go_at_call 34; refine (bytes_lit x.1 hok _).mono ?_; rintro e w3 ⟨rfl, b3⟩)
  go_ret
  exact ⟨by rw [HS.out]; rfl, below_trans hb2 b3⟩

theorem baSize (l : List UInt8) : (⟨l.toArray⟩ : ByteArray).size = l.length := by show l.toArray.size = _; simp
theorem baList (s : ByteArray) : s.data.toList.length = s.size := by simp
theorem baOf (l : List UInt8) : (⟨l.toArray⟩ : ByteArray).data.toList = l := by simp

set_option maxHeartbeats 1000000 in
theorem sum_any (s : ByteArray) (w : World) (hs : s.size < 576460752303423488) :
    Calls Try.prog 12 #[.string s] w fun e w' => e = .returned (.string ⟨(sumL s.data.toList).toArray⟩) ∧ Below w.heap.size w w' := by
  go_enter Try.func12, Try.ntmps12
  go_wp2_with (first
    | (go_at_call 20; refine (new_any _).mono ?_; rintro e w1 ⟨b, rfl, hb, hh1, b1⟩)
    | (go_at_call 22; refine (write_any b [] s _ hh1 (Nat.le_of_lt (Nat.lt_of_lt_of_le hs (by decide))) (by simpa using Nat.lt_trans hs (by decide))).mono ?_; rintro e w2 ⟨rfl, hh2, hk2⟩)
    | (go_at_call 23; refine (hsum_any b s.data.toList _ hh2 (by rw [baList]; exact hs)).mono ?_; rintro e w3 ⟨rfl, b3⟩))
  go_ret
  exact ⟨rfl, below_trans (Keeps.to_below b1 hk2 hb b1.size) b3⟩
end Go.Proofs.Ytdkhnklggidfpaa
