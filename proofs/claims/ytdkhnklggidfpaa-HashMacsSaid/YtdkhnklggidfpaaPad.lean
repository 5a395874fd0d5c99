/- What stands behind the bytes that are summed, and a state as 32 bytes: what the calls return; nothing that was there turns. Conditions: fewer than 2^59 bytes are summed. -/
import Derived.Test.YtdkhnklggidfpaaNum
import Derived.Deep.RegionWith
namespace Go.Proofs.Ytdkhnklggidfpaa
open Go.RowKit
set_option linter.unusedVariables false

theorem below_trans {w w1 w2 : World} (h : Below w.heap.size w w1) (k : Below w1.heap.size w1 w2) : Below w.heap.size w w2 := h.trans (k.mono h.size)

theorem repeat_zero (c : Nat) : Lib.repeatL [0] c = List.replicate c 0 := by
  have := Lib.repeatL_replicate 0 1 c
  simpa using this
theorem repeat_any (c : Nat) (hc : c ≤ 64) (w : World) :
    Calls Try.prog 44 #[.string ⟨#[0]⟩, .int .i64 (c : Int)] w fun e w' => e = .returned (.string ⟨(List.replicate c 0).toArray⟩) ∧ Below w.heap.size w w' :=
  (Try.strings_Repeat ⟨#[0]⟩ c w (by omega) (by show 1 * c ≤ _; omega)).mono fun e w' h => by
    rw [show (⟨#[0]⟩ : ByteArray).data.toList = [0] from rfl, repeat_zero] at h
    exact h

theorem fresh_drew (w : World) : (w.alloc (.cells #[.int .u8 128] 5)).drew.heap[w.heap.size]? = some (.cells (bcells [128]) 5 (0, 0)) := block_new w _
theorem fresh_lt (w : World) : w.heap.size < (w.alloc (.cells #[.int .u8 128] 5)).drew.heap.size := block_lt (fresh_drew w)
theorem back_fresh {w w1 : World} (b1 : Below (w.alloc (.cells #[.int .u8 128] 5)).drew.heap.size (w.alloc (.cells #[.int .u8 128] 5)).drew w1) :
    (convert 32 9 (.slice (some ⟨w.heap.size, 0, none⟩) 1 1)).run Try.prog w1 = .ok (.string ⟨#[128]⟩) w1 :=
  back_of_row (l := [128]) (heap_below (fresh_drew w) b1 (fresh_lt w)) 1 rfl
theorem back_fresh2 {w w1 w2 : World} (b1 : Below (w.alloc (.cells #[.int .u8 128] 5)).drew.heap.size (w.alloc (.cells #[.int .u8 128] 5)).drew w1) (b2 : Below w1.heap.size w1 w2) :
    (convert 32 9 (.slice (some ⟨w.heap.size, 0, none⟩) 1 1)).run Try.prog w2 = .ok (.string ⟨#[128]⟩) w2 :=
  back_of_row (l := [128]) (heap_below (heap_below (fresh_drew w) b1 (fresh_lt w)) b2 (Nat.lt_of_lt_of_le (fresh_lt w) b1.size)) 1 rfl
theorem back_fresh3 {w1 w2 : World} (b2 : Below (w1.alloc (.cells #[.int .u8 128] 5)).heap.size (w1.alloc (.cells #[.int .u8 128] 5)) w2) :
    (convert 32 9 (.slice (some ⟨w1.heap.size, 0, none⟩) 1 1)).run Try.prog w2 = .ok (.string ⟨#[128]⟩) w2 :=
  back_of_row (l := [128]) (heap_below (block_new w1 _) b2 (by simp)) 1 rfl

theorem pad_below1 {w w1 w2 : World} {o : Obj} (b1 : Below (w.alloc o).drew.heap.size (w.alloc o).drew w1) (b2 : Below w1.heap.size w1 w2) : Below w.heap.size w w2 := by
  have h0 : Below w.heap.size w (w.alloc o).drew := ((Below.refl _ w).alloc (Nat.le_refl _) _).drew
  have h1 := h0.trans (b1.mono h0.size)
  exact h1.trans (b2.mono h1.size)
theorem pad_below2 {w w1 w2 : World} {o : Obj} (b1 : Below w.drew.heap.size w.drew w1) (b2 : Below (w1.alloc o).heap.size (w1.alloc o) w2) : Below w.heap.size w w2 := by
  have h0 : Below w.heap.size w (w1.alloc o) := Below.alloc (show Below w.heap.size w w1 from ⟨b1.os, b1.tape, b1.output, b1.size, b1.block⟩) b1.size o
  exact h0.trans (b2.mono h0.size)
theorem pad_below3 {w w1 w2 : World} {o : Obj} (b1 : Below w.drew.heap.size w.drew w1) (b2 : Below w1.heap.size w1 w2) : Below w.heap.size w (w2.alloc o) := by
  have h0 : Below w.heap.size w w1 := ⟨b1.os, b1.tape, b1.output, b1.size, b1.block⟩
  have h1 := h0.trans (b2.mono h0.size)
  exact h1.alloc h1.size o
theorem pad_str (z : Nat) (r : List UInt8) : (⟨#[128]⟩ : ByteArray) ++ ⟨Array.replicate z 0⟩ ++ ⟨r.toArray⟩ = ⟨([128] ++ List.replicate z 0 ++ r).toArray⟩ := by
  apply ByteArray.ext
  simp

set_option maxRecDepth 100000 in
set_option maxHeartbeats 1000000 in
theorem padding_any (n : Nat) (hn : n < 576460752303423488) (w : World) :
    Calls Try.prog 33 #[.int .i64 (n : Int)] w fun e w' => e = .returned (.string ⟨(pad n).toArray⟩) ∧ Below w.heap.size w w' := by
  obtain ⟨z, hz⟩ : ∃ z, z = zeros n := ⟨_, rfl⟩
  obtain ⟨m, hm⟩ : ∃ m, m = 8 * n := ⟨_, rfl⟩
  have e2 : ((119 : Int) - (n : Int) % 64) % 64 = (z : Int) := by rw [hz]; unfold zeros; omega
  have ez : z ≤ 64 := by rw [hz]; unfold zeros; omega
  have ew : IntKind.i64.wrap (8 * (n : Int)) = (m : Int) := by rw [IntKind.wrap_i64]; omega
  have em : m < 9223372036854775808 := by omega
  have hcv : ∀ W : World, (convert 32 9 (.slice (some ⟨W.heap.size, 0, none⟩) 1 1)).run Try.prog (W.alloc (.cells #[.int .u8 128] 5)) = .ok (.string ⟨#[128]⟩) (W.alloc (.cells #[.int .u8 128] 5)) :=
    fun W => back_of_row (l := [128]) (block_new W _) 1 rfl
  have hcd : ∀ W : World, (convert 32 9 (.slice (some ⟨W.heap.size, 0, none⟩) 1 1)).run Try.prog (W.alloc (.cells #[.int .u8 128] 5)).drew = .ok (.string ⟨#[128]⟩) (W.alloc (.cells #[.int .u8 128] 5)).drew :=
    fun W => back_of_row (l := [128]) (w := (W.alloc (.cells #[.int .u8 128] 5)).drew) (block_new W _) 1 rfl
  have HP : Hid (pad n = [128] ++ List.replicate z 0 ++ be8 m) := by unfold Hid; rw [hz, hm]; rfl
  have f1 : 1 + z ≤ 9223372036854775807 := by omega
  have f2 : 1 + z + 8 ≤ 9223372036854775807 := by omega
  have f3 := be8_length m
  clear hz hm hn
  go_enter Try.func33, Try.ntmps33
  go_wp2
  go_region_with (first
    | (go_at_call 44; refine (repeat_any z ez _).mono ?_; rintro e w1 ⟨rfl, b1⟩; try (have cv := back_fresh b1))
    | (go_at_call 30; refine (number_any m em _).mono ?_; rintro e w2 ⟨rfl, b2⟩; try (first | (have cv2 := back_fresh2 b1 b2) | (have cv2 := back_fresh3 b2))))
  all_goals
    go_wp2
    go_ret
    refine ⟨(by rw [HP.out, ← pad_str]; rfl), ?_⟩
    first
      | exact pad_below1 b1 b2
      | exact pad_below2 b1 b2
      | exact pad_below3 b1 b2

/-- a state's first k numbers as bytes -/
def outK (s : St) (k : Nat) : List UInt8 := ((stL s).take k).flatMap four
theorem outK_length (s : St) : ∀ k, k ≤ 8 → (outK s k).length = 4 * k := by
  intro k hk
  match k, hk with
  | 0, _ => rfl
  | 1, _ => rfl
  | 2, _ => rfl
  | 3, _ => rfl
  | 4, _ => rfl
  | 5, _ => rfl
  | 6, _ => rfl
  | 7, _ => rfl
  | 8, _ => rfl
theorem outK_done (s : St) : outK s 8 = outs s := by simp [outK, outs, stL]
theorem outK_next (s : St) (k : Nat) (h : k < 8) : outK s (k + 1) = outK s k ++ four ((stL s).getD k 0) := by
  unfold outK
  have h' : k < (stL s).length := h
  rw [List.take_succ_eq_append_getElem h', List.flatMap_append]
  simp [List.getD, List.getElem?_eq_getElem h']

theorem Try.arr49 : Try.prog.underlying 49 = some (.array (Try.prog.arrayLen 49) (Try.prog.elem 49)) := by kernel_rfl
theorem Try.len49 : Try.prog.arrayLen 49 = 8 := by kernel_rfl
theorem Try.elem49 : Try.prog.elem 49 = 47 := by kernel_rfl
theorem Try.info47 : (Try.prog.info? 47).map (fun i => (i.zero, i.size)) = some (some (.int .u32 0), 1) := by kernel_rfl
theorem Try.info5 : (Try.prog.info? 5).map (fun i => (i.zero, i.size, i.bytes)) = some (some (.int .u8 0), 1, 1) := by kernel_rfl
theorem idx49 (s : St) (k : Nat) (hk : k < 8) (w : World) :
    (Instr.index 49 (.agg (wcells (stL s))) (.int .i64 (k : Int))).run Try.prog w = .ok (.int .u32 ((stL s).getD k 0 : Nat)) w := by
  have hu : Try.prog.underlying 49 = some (.array 8 47) := by kernel_rfl
  have hagg : (isAgg 47).run Try.prog w = .ok false w := by simp [isAgg, run_underlying Try.underlying47]
  have hc := wcells_at (stL s) k hk
  have hsz := size_of_info Try.info47 w
  simp only [Instr.index, asIntOf, Sem.run_bind, Sem.run_pure, Result.andThen_ok, run_underlying hu]
  rw [if_pos (by constructor <;> omega)]
  simp only [Sem.run_bind, hsz, Result.andThen_ok, part, hagg, Nat.mul_one, Int.toNat_natCast, hc]
  rfl
def ownLen (l : List UInt8) : List Value := l.map cellB
theorem four_cells (x : Nat) (hx : x < 4294967296) : [Value.int .u8 ((x : Int) / 16777216), Value.int .u8 ((x : Int) / 65536 % 256), Value.int .u8 ((x : Int) / 256 % 256), Value.int .u8 ((x : Int) % 256)] = (four x).map cellB := by
  simp only [four, List.map, cellB, UInt8.toNat_ofNat']
  rw [show ((x : Int) / 16777216) = ((x / 16777216 % 2 ^ 8 : Nat) : Int) by omega, show ((x : Int) / 65536 % 256) = ((x / 65536 % 2 ^ 8 : Nat) : Int) by omega, show ((x : Int) / 256 % 256) = ((x / 256 % 2 ^ 8 : Nat) : Int) by omega, show ((x : Int) % 256) = ((x % 2 ^ 8 : Nat) : Int) by omega]
theorem stL_lt (s : St) (hs : s.ok) (k : Nat) (hk : k < 8) : (stL s).getD k 0 < 4294967296 := by
  match k, hk with
  | 0, _ => exact hs.a
  | 1, _ => exact hs.b
  | 2, _ => exact hs.c
  | 3, _ => exact hs.d
  | 4, _ => exact hs.e
  | 5, _ => exact hs.f
  | 6, _ => exact hs.g
  | 7, _ => exact hs.h
theorem own_back {w : World} {B : Nat} {v : Value} {l : List UInt8} {n : Nat} (hn : l.length = n) (h : w.ownsRow B 5 1 v n (ownLen l)) (hne : v ≠ .slice none 0 0) :
    (convert 32 9 v).run Try.prog w = .ok (.string ⟨l.toArray⟩) w := by
  subst hn
  have h0 := h
  obtain ⟨_, h2⟩ := h
  rcases h2 with ⟨h2, _⟩ | ⟨g, cap, cur, hv, _⟩
  · exact absurd h2 hne
  · subst hv
    refine run_convert_bytes_back (P := Try.prog) w 32 9 5 ⟨g, 0, none⟩ cap l Try.underlying32 Try.underlying5 Try.underlying9 (fun i hi => ?_)
    rw [addr_at, Nat.zero_add, World.ownsRow.cellAt h0 i (by omega)]
    simp [ownLen, cellB, List.getElem?_eq_getElem hi]

set_option maxRecDepth 100000 in
set_option maxHeartbeats 1000000 in
theorem bytes_any (s : St) (hs : s.ok) (w : World) :
    Calls Try.prog 34 #[.agg (wcells (stL s))] w fun e w' => e = .returned (.string ⟨(outs s).toArray⟩) ∧ Below w.heap.size w w' := by
  obtain ⟨C, hC⟩ : ∃ C, C = wcells (stL s) := ⟨_, rfl⟩
  rw [← hC]
  obtain ⟨i0, hi, hz0, hz1, hz2⟩ := info_parts Try.info5
  obtain ⟨B, hB⟩ : ∃ B, B = (w.alloc (.cells C 49)).heap.size := ⟨_, rfl⟩
  have HB := Lib.hid hB
  obtain ⟨w0, hmk, hown0, hg0⟩ := run_make_own (P := Try.prog) (w.alloc (.cells C 49)) B 32 5 i0 _ 1 Try.underlying32 hi hz0 hz1 .i64 .i64 32 (by rw [hz2]; decide) (by decide) (by rw [hB]; exact Nat.le_refl _)
  rw [← hB, show ((32 : Nat) : Int) = 32 from rfl] at hmk
  rw [← hB] at hown0
  have hbB : w.heap.size < B := by rw [hB]; simp
  have hbox : w0.heap[w.heap.size]? = some (.cells C 49 (0, 0)) := by
    rw [hg0.block _ (by rw [← hB]; exact hbB) (by intro h; cases h)]
    exact block_new _ _
  have hbel0 : Below w.heap.size w w0 := ((Below.refl _ w).alloc (Nat.le_refl _) _).grown hg0 (by simp) (fun k hk => by cases hk)
  have hcs : C.size = 8 := by rw [hC, wcells_size]; rfl
  have HC := Lib.hid hC
  clear hB hC
  go_enter Try.func34, Try.ntmps34
  go_wp2_with (first
    | (refine wpList_load_row rfl 49 _ rfl w.heap.size rfl 49 _ (0, 0) _ hbox Try.underlying49 rfl (by rw [Try.size49, hcs]) ?_))
  go_loopw [3, 5, 8] (fun v _ i wr => ∃ k : Nat, k ≤ 8 ∧ i = .int .i64 k ∧ wr.ownsRow B 5 1 v (4 * k) (ownLen (outK s k)) ∧ v ≠ .slice none 0 0 ∧ Below w.heap.size w wr ∧ B ≤ wr.heap.size) (fun _ _ i _ => 8 - (intOf i).toNat)
  case atStart => exact ⟨0, by omega, rfl, hown0, by simp, hbel0, by have := hg0.size; rw [HB.out]; exact this⟩
  case round =>
    obtain ⟨k, hk, rfl, hown, hne, hbel, hBs⟩ := hrel
    by_cases hlt : k < 8
    · have hix := fun w => idx49 s k hlt w
      rw [← HC.out] at hix
      have hxx := stL_lt s hs k hlt
      have hnx := outK_next s k hlt
      generalize (stL s).getD k 0 = x at *
      have hfc := Lib.hid (four_cells x hxx)
      have HX := Lib.hid hnx
      clear hnx
      go_wp2_with (at_builtin; refine wpList_append_own _ rfl _ _ 32 rfl B 5 i0 (.int .u8 0) 1 1 Try.underlying32 hi hz0 hz1 hz2 rfl (by decide) _ _ _ rfl (hown.alloc _) ⟨wr.heap.size, 0, none⟩ 4 4 [Value.int .u8 ((x : Int) / 16777216), Value.int .u8 ((x : Int) / 65536 % 256), Value.int .u8 ((x : Int) / 256 % 256), Value.int .u8 ((x : Int) % 256)] rfl rfl ?c1 ?c2 ?c3 ?c4 ?c5 ?_)
      case c1 =>
        intro j u hj
        match j, hj with
        | 0, hj => simp at hj; subst hj; simp [Addr.add]
        | 1, hj => simp at hj; subst hj; simp [Addr.add]
        | 2, hj => simp at hj; subst hj; simp [Addr.add]
        | 3, hj => simp at hj; subst hj; simp [Addr.add]
      case c2 => intro u hu; simp at hu; rcases hu with rfl | rfl | rfl | rfl <;> rfl
      case c3 => unfold maxLen; omega
      case c4 => omega
      case c5 => simp; omega
      · intro v' w1 hown' hgrow hnil
        have hv : v' ≠ .slice none 0 0 := hnil
        have hbel' : Below w.heap.size w w1 := (hbel.alloc hbel.size _).grown hgrow (by have := hbel.size; simp; omega) (fun g hg => by have := (hown.lt g hg).1; omega)
        have hBs' : B ≤ w1.heap.size := by have := hgrow.size; simp at this; omega
        rw [hfc.out] at hown'
        have hown2 : w1.ownsRow B 5 1 v' (4 * (k + 1)) (ownLen (outK s (k + 1))) := by
          rw [HX.out]; unfold ownLen; rw [List.map_append]; exact hown'
        clear hnil hgrow hown hbel hne hown' hfc
        go_wp2
        go_roundw
        case rel => exact ⟨k + 1, by omega, by go_num, hown2, hv, hbel', hBs'⟩
        case measure => simp [intOf]; omega
    · have hk8 : k = 8 := by omega
      subst hk8
      rw [outK_done] at hown
      have hcv := own_back (outs_length s) hown hne
      clear hown
      go_wp2
      go_ret
      exact ⟨rfl, hbel⟩
end Go.Proofs.Ytdkhnklggidfpaa
