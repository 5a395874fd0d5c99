/- Bytes are written to a hash: what it holds then; nothing else that was there turns. Conditions: the string's bytes are at most maxLen, all that was written has fewer than 2^62 bytes. -/
import Derived.Test.YtdkhnklggidfpaaHsh
import Derived.Lib.BufferWrite
import Derived.Lib.SlBuf
import Derived.Deep.RegionWith
namespace Go.Proofs.Ytdkhnklggidfpaa
open Go.RowKit
set_option linter.unusedVariables false

/-- 'copy(dst, s)' from a string of whatever length into a row: as much goes over as fits. -/
theorem run_copy_min (w : World) (dT sT ty elem : TypeId) (g o dLen dCap : Nat) (s : ByteArray) (cur : Array Value) (t : TypeId)
    (hu : Try.prog.underlying dT = some (.slice elem)) (hs : (Try.prog.info? elem).map (·.size) = some 1) (hg : w.heap[g]? = some (.cells cur t (0, 0))) (m : Nat) (hm : m = Nat.min s.size dLen) (hfit : o + m ≤ cur.size) :
    (Builtin.copy_ #[dT, sT] ty #[.slice (some ⟨g, o, none⟩) dLen dCap, .string s]).run Try.prog w =
      .ok (goInt m) (w.setRow g (cur.toList.take o ++ (s.data.toList.take m).map cellB ++ cur.toList.drop (o + m)).toArray) := by
  have hsz : s.data.toList.length = s.size := by simp
  have hml : m ≤ s.size := by rw [hm]; exact Nat.min_le_left _ _
  have hlen : ((s.data.toList.take m).map cellB).length = m := by rw [List.length_map, List.length_take, hsz, Nat.min_eq_left hml]
  have hst := run_storeCells_at Try.prog g o t ((s.data.toList.take m).map cellB) 0 cur w hg (by rw [hlen]; simpa using hfit) (by intro v hv; simp only [List.mem_map] at hv; obtain ⟨b, _, rfl⟩ := hv; rfl)
  rw [hlen] at hst
  simp only [Nat.add_zero] at hst
  cases hq : Try.prog.info? elem with
  | none => simp [hq] at hs
  | some i =>
    have e : List.take m (List.map (fun b : UInt8 => Value.int IntKind.u8 (b.toNat : Int)) s.data.toList) = (s.data.toList.take m).map cellB := by
      rw [List.map_take]; rfl
    simp [Builtin.copy_, run_underlying hu, Builtin.lenOf, Builtin.firstCells, sizeOf, typeInfo, hq, ← hm]
    rw [e, hst]
    simp [Result.andThen]

theorem hcells_copy (s : St) (q t : List UInt8) (n p : Nat) (hq : q.length = 64) (hp : p + t.length ≤ 64) :
    ((hcells s q n).toList.take (8 + p) ++ t.map cellB ++ (hcells s q n).toList.drop (8 + p + t.length)).toArray = hcells s (q.take p ++ t ++ q.drop (p + t.length)) n := by
  unfold hcells hlist
  congr 1
  have e8 : ((stL s).map cellW).length = 8 := rfl
  rw [List.toList_toArray, List.append_assoc ((stL s).map cellW), List.take_append, List.drop_append, e8]
  rw [List.take_of_length_le (by rw [e8]; omega), List.drop_of_length_le (by rw [e8]; omega)]
  rw [show 8 + p - 8 = p by omega, show 8 + p + t.length - 8 = p + t.length by omega]
  rw [List.take_append_of_le_length (by simp [hq]; omega), List.drop_append_of_le_length (by simp [hq]; omega)]
  simp [List.map_append, List.map_take, List.map_drop, List.append_assoc]

theorem Try.size5 : (Try.prog.info? 5).map (·.size) = some 1 := by kernel_rfl

/-- what is held when a piece does not fill the block -/
theorem held_short {L t q : List UInt8} {r m : Nat} (hr : r = L.length % 64) (hm : t.length = m) (hrm : r + m < 64) (hq : q.take r = (fed L).2) (hq64 : q.length = 64) :
    (fed (L ++ t)).1 = (fed L).1 ∧ (q.take r ++ t ++ q.drop (r + m)).take ((L ++ t).length % 64) = (fed (L ++ t)).2 := by
  have hl := fed_len L
  have e : fed (L ++ t) = ((fed L).1, (fed L).2 ++ t) := by
    rw [fed_append]
    exact feeds_short t (fed L).1 (fed L).2 (by omega)
  rw [e]
  refine ⟨rfl, ?_⟩
  have h1 : (L ++ t).length % 64 = r + m := by rw [List.length_append]; omega
  rw [h1, hq, List.take_append_of_le_length (by simp; omega), List.take_of_length_le (by simp; omega)]
theorem held_full {L t q : List UInt8} {r m : Nat} (hr : r = L.length % 64) (hm : t.length = m) (hrm : r + m = 64) (hm0 : 0 < m) (hq : q.take r = (fed L).2) (hq64 : q.length = 64) :
    fed (L ++ t) = (next (fed L).1 (q.take r ++ t ++ q.drop (r + m)), []) := by
  have hl := fed_len L
  rw [fed_append, List.drop_of_length_le (by omega), List.append_nil, hq]
  exact feeds_full t (fed L).1 (fed L).2 (by omega) (by omega)

theorem next_lit (s : St) (hs : s.ok) (b o : Nat) (l : List UInt8) (hl : l.length = 64) (w : World) (hb : b < w.heap.size) (hat : At w b o l) :
    Calls Try.prog 32 #[.agg #[.int .u32 (s.a : Nat), .int .u32 (s.b : Nat), .int .u32 (s.c : Nat), .int .u32 (s.d : Nat), .int .u32 (s.e : Nat), .int .u32 (s.f : Nat), .int .u32 (s.g : Nat), .int .u32 (s.h : Nat)], .pointer (some ⟨b, o, none⟩)] w
      fun e w' => e = .returned (.agg #[.int .u32 ((next s l).a : Nat), .int .u32 ((next s l).b : Nat), .int .u32 ((next s l).c : Nat), .int .u32 ((next s l).d : Nat), .int .u32 ((next s l).e : Nat), .int .u32 ((next s l).f : Nat), .int .u32 ((next s l).g : Nat), .int .u32 ((next s l).h : Nat)]) ∧ Below w.heap.size w w' :=
  next_any s hs b o l hl w hb hat
theorem hcells_at (s : St) (q : List UInt8) (n i : Nat) (h : i < 8) : (hcells s q n)[i]? = some (cellW ((stL s).getD i 0)) := by
  unfold hcells hlist
  rw [List.getElem?_toArray, List.append_assoc, List.getElem?_append_left (by simpa [stL] using h)]
  simp [List.getElem?_eq_getElem (show i < (stL s).length from h)]
theorem hcells_state (s s' : St) (q : List UInt8) (n : Nat) :
    ((((((((hcells s q n).setIfInBounds 0 (cellW s'.a)).setIfInBounds 1 (cellW s'.b)).setIfInBounds 2 (cellW s'.c)).setIfInBounds 3 (cellW s'.d)).setIfInBounds 4 (cellW s'.e)).setIfInBounds 5 (cellW s'.f)).setIfInBounds 6 (cellW s'.g)).setIfInBounds 7 (cellW s'.h) = hcells s' q n := by
  simp [hcells, hlist, stL]

set_option maxRecDepth 100000 in
set_option maxHeartbeats 1000000 in
theorem write_any (b : Nat) (l : List UInt8) (s : ByteArray) (w : World) (h : IsH w b l) (hs : s.size ≤ maxLen) (hl : l.length + s.size < 4611686018427387904) :
    Calls Try.prog 22 #[.pointer (some ⟨b, 0, none⟩), .string s] w fun e w' => e = .returned (.tuple #[]) ∧ IsH w' b (l ++ s.data.toList) ∧ Keeps b w w' := by
  unfold maxLen at hs
  go_enter Try.func22, Try.ntmps22
  go_wp2
  go_loopw [1, 4] (fun t _ wr => ∃ (k : Nat) (u : ByteArray), t = .string u ∧ k ≤ s.size ∧ u.data.toList = s.data.toList.drop k ∧ IsH wr b (l ++ s.data.toList.take k) ∧ Keeps b w wr) (fun t _ _ => match t with | .string u => u.size | _ => 0)
  case atStart => exact ⟨0, s, rfl, Nat.zero_le _, rfl, by simpa using h, Keeps.refl b w⟩
  case round =>
    obtain ⟨k, u, rfl, hk, hu, hh, hkeep⟩ := hrel
    have hus : u.size = s.size - k := by
      have : u.data.toList.length = s.data.toList.length - k := by rw [hu, List.length_drop]
      simpa using this
    by_cases hlt : 0 < u.size
    · obtain ⟨q, hq, hq2, hb⟩ := hh
      have hlen : (l ++ s.data.toList.take k).length = l.length + k := by simp; omega
      obtain ⟨L, hL⟩ : ∃ L, L = l ++ s.data.toList.take k := ⟨_, rfl⟩
      rw [← hL] at hlen hq2 hb
      obtain ⟨N, hN⟩ : ∃ N, N = L.length := ⟨_, rfl⟩
      rw [← hN] at hlen hq2 hb
      obtain ⟨r, hr⟩ : ∃ r, r = N % 64 := ⟨_, rfl⟩
      rw [← hr] at hq2
      have hr64 : r < 64 := by omega
      have hN62 : N < 4611686018427387904 := by omega
      have et : (N : Int).tmod 64 = (r : Int) := by rw [Int.tmod_eq_emod_of_nonneg (by omega)]; omega
      have c72 : wr.cell? ⟨b, 72, none⟩ = some (.int .i64 (N : Nat)) := by rw [cell_of_row wr b 72 _ _ _ hb]; exact hcells_last _ _ _ hq
      have hsl := slice51_l b 8 r hr64
      obtain ⟨m, hm⟩ : ∃ m, m = Nat.min u.size (64 - r) := ⟨_, rfl⟩
      have hmu : m ≤ u.size := by rw [hm]; exact Nat.min_le_left _ _
      have hmr : m ≤ 64 - r := by rw [hm]; exact Nat.min_le_right _ _
      have hm0 : 0 < m := by rw [hm]; exact Nat.lt_min.2 ⟨hlt, by omega⟩
      have hcp := run_copy_min wr.drew 32 9 3 5 b (8 + r) (64 - r) (64 - r) u _ 53 Try.underlying32 Try.size5 hb m hm (by rw [hcells_size _ _ _ hq]; omega)
      have htl : ((u.data.toList.take m)).length = m := by simp; omega
      have hcc := hcells_copy (fed L).1 q (u.data.toList.take m) N r hq (by rw [htl]; omega)
      rw [htl] at hcc
      rw [hcc] at hcp
      have HS := Lib.hid (And.intro hlen (And.intro hus (And.intro hL (And.intro hN (And.intro hr (And.intro hm (And.intro hq2 (And.intro hb hu))))))))
      clear hlen hus hL hN hr hm hcc htl hq2 hb hu
      generalize hq' : q.take r ++ u.data.toList.take m ++ q.drop (r + m) = q' at *
      have HQ := Lib.hid hq'
      clear hq'
      go_wp2
      go_still_tail 10, (by kernel_rfl)
      change wpList _ _ _ _ _ wr.drew
      have hk2 : Keeps b w (wr.drew.setRow b (hcells (fed L).1 q' N)) := hkeep.drew.setRow _
      have hb2 : (wr.drew.setRow b (hcells (fed L).1 q' N)).heap[b]? = some (.cells (hcells (fed L).1 q' N) 53 (0, 0)) := setRow_heap _ _ _ _ _ _ (show wr.drew.heap[b]? = _ from HS.out.2.2.2.2.2.2.2.1)
      have hq64 : q'.length = 64 := by
        have h1 := HS.out.2.1
        rw [← HQ.out]; simp [hq]; omega
      have d72 : (wr.drew.setRow b (hcells (fed L).1 q' N)).cell? ⟨b, 72, none⟩ = some (.int .i64 (N : Nat)) := by rw [cell_of_row _ b 72 _ _ _ hb2]; exact hcells_last _ _ _ hq64
      have f72 : (wr.drew.setRow b (hcells (fed L).1 q' N)).frozen? ⟨b, 72, none⟩ = false := block_free hb2
      obtain ⟨n2, hn2⟩ : ∃ n2, n2 = N + m := ⟨_, rfl⟩
      have e72 : ((wr.drew.setRow b (hcells (fed L).1 q' N)).setCell ⟨b, 72, none⟩ (.int .i64 (n2 : Int))).heap[b]? = some (.cells (hcells (fed L).1 q' n2) 53 (0, 0)) := by
        rw [block_setCell hb2, ← hcells_setLast (fed L).1 q' N n2 hq64]
      have hk3 : Keeps b w ((wr.drew.setRow b (hcells (fed L).1 q' N)).setCell ⟨b, 72, none⟩ (.int .i64 (n2 : Int))) := hk2.setCell _ _
      obtain ⟨W1, hW1⟩ : ∃ W1, W1 = wr.drew.setRow b (hcells (fed L).1 q' N) := ⟨_, rfl⟩
      rw [← hW1] at hcp hk2 hb2 d72 f72 e72 hk3
      have HW1 := Lib.hid hW1
      clear hW1 c72 hsl
      have HE := Lib.hid (And.intro hb2 (And.intro e72 (And.intro hk2 (And.intro hk3 (And.intro hq64 hq)))))
      clear hb2 e72 hk2 hk3 hq64 hq hk h hkeep
      refine Lib.wpList_copy_run wr.drew rfl _ _ 32 9 rfl _ _ rfl rfl hcp ?_
      clear hcp
      have ew2 : (N : Int) + m = (n2 : Int) := by omega
      have ew : wrap64 (n2 : Int) = (n2 : Int) := by unfold wrap64; omega
      have et2 : (n2 : Int).tmod 64 = ((n2 % 64 : Nat) : Int) := by rw [Int.tmod_eq_emod_of_nonneg (by omega)]; omega
      have HN2 := Lib.hid hn2
      clear hn2 hN62
      have htl : (u.data.toList.take m).length = m := by simp; omega
      have hLu : L ++ u.data.toList.take m = l ++ s.data.toList.take (k + m) := by
        rw [HS.out.2.2.1, HS.out.2.2.2.2.2.2.2.2, List.append_assoc, List.take_add]
      have hu2 : (u.extract m u.size).data.toList = s.data.toList.drop (k + m) := by
        have hz1 : (u.extract m u.size).data.toList = u.data.toList.drop m := by
          have : (u.data.toList.drop m).length ≤ u.size - m := by simp
          simp [List.take_of_length_le this]
        rw [hz1, HS.out.2.2.2.2.2.2.2.2, List.drop_drop]
      have hks : k + m ≤ s.size := by have := HS.out.2.1; omega
      have hms : (u.extract m u.size).size = u.size - m := by simp
      have HU := Lib.hid (And.intro hks (And.intro hu2 (And.intro hLu (And.intro htl hms))))
      clear hks hu2 hLu htl hms
      by_cases hz : n2 % 64 = 0
      · rw [hz] at et2
        have hz' := Lib.hid hz
        clear hz
        simp only [Act.put]
        go_wp2
        obtain ⟨W2, hW2⟩ : ∃ W2, W2 = W1.setCell ⟨b, 72, none⟩ (.int .i64 (n2 : Int)) := ⟨_, rfl⟩
        rw [← hW2]
        have hb2 : W2.heap[b]? = some (.cells (hcells (fed L).1 q' n2) 53 (0, 0)) := by rw [hW2]; exact HE.out.2.1
        have hk2 : Keeps b w W2 := by rw [hW2]; exact HE.out.2.2.2.1
        clear hW2 d72 f72
        have hcell : ∀ i (h : i < 8), W2.cell? ⟨b, i, none⟩ = some (cellW ((stL (fed L).1).getD i 0)) := fun i h => by
          rw [cell_of_row W2 b i _ _ _ hb2]; exact hcells_at _ _ _ _ h
        have c0 : W2.cell? ⟨b, 0, none⟩ = some (.int .u32 ((fed L).1.a : Nat)) := hcell 0 (by decide)
        have c1 : W2.cell? ⟨b, 1, none⟩ = some (.int .u32 ((fed L).1.b : Nat)) := hcell 1 (by decide)
        have c2 : W2.cell? ⟨b, 2, none⟩ = some (.int .u32 ((fed L).1.c : Nat)) := hcell 2 (by decide)
        have c3 : W2.cell? ⟨b, 3, none⟩ = some (.int .u32 ((fed L).1.d : Nat)) := hcell 3 (by decide)
        have c4 : W2.cell? ⟨b, 4, none⟩ = some (.int .u32 ((fed L).1.e : Nat)) := hcell 4 (by decide)
        have c5 : W2.cell? ⟨b, 5, none⟩ = some (.int .u32 ((fed L).1.f : Nat)) := hcell 5 (by decide)
        have c6 : W2.cell? ⟨b, 6, none⟩ = some (.int .u32 ((fed L).1.g : Nat)) := hcell 6 (by decide)
        have c7 : W2.cell? ⟨b, 7, none⟩ = some (.int .u32 ((fed L).1.h : Nat)) := hcell 7 (by decide)
        have hat : At W2.drew b 8 q' := fun i hi => by
          show W2.cell? _ = _
          rw [cell_of_row W2 b _ _ _ _ hb2]
          exact hcells_rest _ _ _ _ HE.out.2.2.2.2.1 (by have := HE.out.2.2.2.2.1; omega)
        have hfed := fed_ok L
        have hfull := held_full (by rw [← HS.out.2.2.2.1]; exact HS.out.2.2.2.2.1) HU.out.2.2.2.1 (by have h1 := HN2.out; have h2 := HS.out.2.2.2.2.1; have h3 := hz'.out; omega) hm0 HS.out.2.2.2.2.2.2.1 HE.out.2.2.2.2.2
        rw [HQ.out, HU.out.2.2.1] at hfull
        have hcall := next_lit (fed L).1 hfed b 8 q' HE.out.2.2.2.2.1 W2.drew (block_lt hb2) hat
        have hst := hcells_state (fed L).1 (next (fed L).1 q') q' n2
        have HF := Lib.hid (And.intro hfull hst)
        clear hfull hcell hat hfed hst
        generalize fed L = x at *
        generalize next x.1 q' = y at *
        have hbl := Lib.hid (block_lt hb2)
        have hfr := Lib.hid (fun i => block_free (o := i) hb2)
        have HB2 := Lib.hid (And.intro hb2 hk2)
        clear hb2 hk2
        go_region_with (go_at_call 32; refine hcall.mono ?_; rintro e w3 ⟨rfl, bel⟩; have d0 := (bel.cell (p := ⟨b, 0, none⟩) hbl.out).trans c0; have d1 := (bel.cell (p := ⟨b, 1, none⟩) hbl.out).trans c1; have d2 := (bel.cell (p := ⟨b, 2, none⟩) hbl.out).trans c2; have d3 := (bel.cell (p := ⟨b, 3, none⟩) hbl.out).trans c3; have d4 := (bel.cell (p := ⟨b, 4, none⟩) hbl.out).trans c4; have d5 := (bel.cell (p := ⟨b, 5, none⟩) hbl.out).trans c5; have d6 := (bel.cell (p := ⟨b, 6, none⟩) hbl.out).trans c6; have d7 := (bel.cell (p := ⟨b, 7, none⟩) hbl.out).trans c7; have ff : ∀ i, w3.frozen? ⟨b, i, none⟩ = false := fun i => (bel.frozen (p := ⟨b, i, none⟩) hbl.out).trans (hfr.out i))
        have hb3 : w3.heap[b]? = some (.cells (hcells x.1 q' n2) 53 (0, 0)) := by rw [bel.block b hbl.out]; exact HB2.out.1
        have hb4 := block_setCell (o := 7) (u := cellW y.h) (block_setCell (o := 6) (u := cellW y.g) (block_setCell (o := 5) (u := cellW y.f) (block_setCell (o := 4) (u := cellW y.e) (block_setCell (o := 3) (u := cellW y.d) (block_setCell (o := 2) (u := cellW y.c) (block_setCell (o := 1) (u := cellW y.b) (block_setCell (o := 0) (u := cellW y.a) hb3)))))))
        rw [HF.out.2] at hb4
        have hk4 : Keeps b w w3 := HB2.out.2.drew.trans (Keeps.of_below bel)
        have hk5 := (((((((hk4.setCell 0 (cellW y.a)).setCell 1 (cellW y.b)).setCell 2 (cellW y.c)).setCell 3 (cellW y.d)).setCell 4 (cellW y.e)).setCell 5 (cellW y.f)).setCell 6 (cellW y.g)).setCell 7 (cellW y.h)
        unfold cellW at hb4 hk5
        obtain ⟨W4, hW4⟩ : ∃ W4, W4 = ((((((((w3.setCell ⟨b, 0, none⟩ (.int .u32 (y.a : Nat))).setCell ⟨b, 1, none⟩ (.int .u32 (y.b : Nat))).setCell ⟨b, 2, none⟩ (.int .u32 (y.c : Nat))).setCell ⟨b, 3, none⟩ (.int .u32 (y.d : Nat))).setCell ⟨b, 4, none⟩ (.int .u32 (y.e : Nat))).setCell ⟨b, 5, none⟩ (.int .u32 (y.f : Nat))).setCell ⟨b, 6, none⟩ (.int .u32 (y.g : Nat))).setCell ⟨b, 7, none⟩ (.int .u32 (y.h : Nat))) := ⟨_, rfl⟩
        rw [← hW4] at hb4 hk5 ⊢
        have HB4 := Lib.hid (And.intro hb4 hk5)
        clear hb4 hk5 hW4 hk4 hb3
        go_wp2
        refine ⟨⟨k + m, _, rfl, HU.out.1, HU.out.2.1, ?_, HB4.out.2⟩, ?_⟩
        · have hn : (l ++ s.data.toList.take (k + m)).length = n2 := by
            rw [← HU.out.2.2.1, List.length_append, HU.out.2.2.2.1, HN2.out, HS.out.2.2.2.1]
          refine ⟨q', HE.out.2.2.2.2.1, ?_, ?_⟩
          · rw [hn, hz'.out, HF.out.1, List.take_zero]
          · rw [hn, HF.out.1]; exact HB4.out.1
        · show (u.extract m u.size).size < u.size
          rw [HU.out.2.2.2.2]; omega
      · have hz3 := Lib.hid hz
        generalize hz2 : n2 % 64 = r2 at *
        have hz' := Lib.hid hz2
        clear hz2
        simp only [Act.put]
        go_wp2
        refine ⟨⟨k + m, _, rfl, HU.out.1, HU.out.2.1, ?_, HE.out.2.2.2.1⟩, ?_⟩
        · have e1 : r + m < 64 := by have h1 := HN2.out; have h2 := HS.out.2.2.2.2.1; have h3 := hz'.out; have h4 := hz3.out; omega
          have hsh := held_short (by rw [← HS.out.2.2.2.1]; exact HS.out.2.2.2.2.1) HU.out.2.2.2.1 e1 HS.out.2.2.2.2.2.2.1 HE.out.2.2.2.2.2
          rw [HQ.out, HU.out.2.2.1] at hsh
          refine ⟨q', HE.out.2.2.2.2.1, hsh.2, ?_⟩
          rw [hsh.1]
          have hn : (l ++ s.data.toList.take (k + m)).length = n2 := by
            rw [← HU.out.2.2.1, List.length_append, HU.out.2.2.2.1, HN2.out, HS.out.2.2.2.1]
          rw [hn]
          exact HE.out.2.1
        · show (u.extract m u.size).size < u.size
          rw [HU.out.2.2.2.2]; omega
    · have hk' : k = s.size := by omega
      go_wp2
      go_end0
      refine ⟨rfl, ?_, hkeep⟩
      rw [hk', List.take_of_length_le (by simp)] at hh
      exact hh
end Go.Proofs.Ytdkhnklggidfpaa
