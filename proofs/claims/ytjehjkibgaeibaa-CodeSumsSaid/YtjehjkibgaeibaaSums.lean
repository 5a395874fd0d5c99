/- The sum of bytes turns with each single bit of them, and with each two bits that stand within 32 of one another; the arguments read behind the call as before. No conditions. -/
import Derived.Test.YtjehjkibgaeibaaFixd
import Derived.Test.YtjehjkibgaeibaaMatc
import Derived.ProofKit
import Derived.OpenShut
import Derived.ShutString
import Derived.ChangeOld
import Derived.SizedLaws
namespace Go.Proofs.Ytjehjkibgaeibaa.CodeSums
open Go.ChangeShapes Go.WideShapes Go.ChangeAt Go.RowKit
open Go.ChangeMaps (open_string shut_string)
set_option linter.unusedVariables false

set_option maxHeartbeats 1000000 in
theorem walk_out (s : ByteArray) (a n : Int) (hs : s.size ≤ 140737488351232) (w : World) (h : a < 0 ∨ 8 * (s.size : Int) ≤ a ∨ n < 0 ∨ 31 < n ∨ 8 * (s.size : Int) ≤ a + n) :
    Calls Try.prog 7 #[.string s, .int .i64 a, .int .i64 n] w fun e w' => e = .returned (.bool true) ∧ Below w.heap.size w w' := by
  by_cases h1 : a < 0
  · clear h
    go_enter Try.func7, Try.ntmps7
    go_wp2_with (go_at_call 12; refine (fixed_any _).mono ?_; rintro x w3 ⟨rfl, b3⟩)
    go_ret
    exact ⟨rfl, b3⟩
  · by_cases h2 : 8 * (s.size : Int) ≤ a
    · clear h
      go_enter Try.func7, Try.ntmps7
      go_wp2_with (go_at_call 12; refine (fixed_any _).mono ?_; rintro x w3 ⟨rfl, b3⟩)
      go_ret
      exact ⟨rfl, b3⟩
    · by_cases h3 : n < 0
      · clear h
        go_enter Try.func7, Try.ntmps7
        go_wp2_with (go_at_call 12; refine (fixed_any _).mono ?_; rintro x w3 ⟨rfl, b3⟩)
        go_ret
        exact ⟨rfl, b3⟩
      · by_cases h4 : 31 < n
        · clear h
          go_enter Try.func7, Try.ntmps7
          go_wp2_with (go_at_call 12; refine (fixed_any _).mono ?_; rintro x w3 ⟨rfl, b3⟩)
          go_ret
          exact ⟨rfl, b3⟩
        · have h5 : 8 * (s.size : Int) ≤ a + n := by omega
          clear h
          go_enter Try.func7, Try.ntmps7
          go_wp2_with (go_at_call 12; refine (fixed_any _).mono ?_; rintro x w3 ⟨rfl, b3⟩)
          go_ret
          exact ⟨rfl, b3⟩

/-- bytes in a row of their own -/
def Lies (W : World) (B : Nat) (l : List UInt8) : Prop := ∃ C : Array Value, W.heap[B]? = some (.cells C 5 (C.size, C.size + 1)) ∧ l.length ≤ C.size ∧ ∀ i (h : i < l.length), C[i]? = some (cellU l[i])
theorem Lies.cell {W : World} {B : Nat} {l : List UInt8} (h : Lies W B l) (i : Nat) (hi : i < l.length) : W.cell? ⟨B, i, none⟩ = some (.int .u8 (l[i].toNat : Int)) := by
  obtain ⟨C, hC, _, hc⟩ := h
  rw [cell_of_row W B i _ _ _ hC]; exact hc i hi
theorem Lies.free {W : World} {B : Nat} {l : List UInt8} (h : Lies W B l) (i : Nat) (hi : i < l.length) : W.frozen? ⟨B, i, none⟩ = false := by
  obtain ⟨C, hC, hl, _⟩ := h
  simp only [World.frozen?, hC]
  simp; omega
theorem Lies.set {W : World} {B : Nat} {l : List UInt8} (h : Lies W B l) (i : Nat) (c : UInt8) : Lies (W.setCell ⟨B, i, none⟩ (.int .u8 (c.toNat : Int))) B (l.set i c) := by
  obtain ⟨C, hC, hl, hc⟩ := h
  refine ⟨C.setIfInBounds i (cellU c), ?_, by simpa using hl, ?_⟩
  · rw [block_setCell hC]; simp [cellU]
  · intro j hj
    have hj' : j < l.length := by simpa using hj
    rw [Array.getElem?_setIfInBounds, List.getElem_set]
    by_cases e : i = j
    · subst e; rw [if_pos rfl, if_pos (by omega), if_pos rfl]
    · rw [if_neg e, if_neg e]; exact hc j hj'
theorem Lies.drew {W : World} {B : Nat} {l : List UInt8} (h : Lies W B l) : Lies W.drew B l := h
theorem bytes_run (s : ByteArray) (w : World) : ∃ cap W, (convert 9 46 (.string s)).run Try.prog w = .ok (.slice (some ⟨w.heap.size, 0, none⟩) s.size cap) W ∧ Lies W w.heap.size s.data.toList ∧ Below w.heap.size w W := by
  refine ⟨_, _, run_bytes_of_string (P := Try.prog) w 9 46 5 s Try.underlying9 Try.underlying46 Try.underlying5, ⟨_, block_new w.drew _, ?_, ?_⟩, ((Below.refl _ w).drew).alloc (Nat.le_refl _) _⟩
  · unfold bytesRow; simp
  · intro i hi
    have hi' : i < s.data.size := by simpa using hi
    unfold bytesRow
    rw [Array.getElem?_append_left (by simpa using hi')]
    simp only [Array.getElem?_map, cellU, Option.map_eq_some_iff]
    exact ⟨s.data[i], by simp, by simp⟩

/-- the byte with a bit turned -/
def turned (l : List UInt8) (k : Nat) : UInt8 := UInt8.ofNat ((l.getD (k / 8) 0).toNat ^^^ 2 ^ (k % 8))
theorem flip_eq (l : List UInt8) (k : Nat) : flip l k = l.set (k / 8) (turned l k) := rfl
theorem turned_eq (l : List UInt8) (k : Nat) (h : k / 8 < l.length) : bits BinOp.xor IntKind.u8 ((l[k / 8]).toNat : Int) (2 ^ (k % 8) % 256) = ((turned l k).toNat : Int) := by
  have e : l.getD (k / 8) 0 = l[k / 8] := by simp [List.getD, List.getElem?_eq_getElem h]
  unfold turned
  rw [e, UInt8.toNat_ofNat', Nat.mod_eq_of_lt (xor_lt _ _)]
  have h2 : ((2 : Int) ^ (k % 8) % 256) = ((2 ^ (k % 8) : Nat) : Int) := by
    have := pow_lt k
    have h3 : ((2 ^ (k % 8) : Nat) : Int) = (2 : Int) ^ (k % 8) := by simp
    rw [← h3]; generalize 2 ^ (k % 8) = y at *; omega
  rw [h2]
  exact u8_xor_nat _ _ (l[k / 8]).toNat_lt (pow_lt k)
theorem back_run {W : World} {B cap m : Nat} {l : List UInt8} (h : Lies W B l) (hm : l.length = m) : (convert 46 9 (.slice (some ⟨B, 0, none⟩) m cap)).run Try.prog W = .ok (.string ⟨l.toArray⟩) W := by
  subst hm
  exact run_convert_bytes_back (P := Try.prog) W 46 9 5 ⟨B, 0, none⟩ cap l Try.underlying46 Try.underlying5 Try.underlying9 (fun i hi => by rw [addr_add]; exact h.cell i hi)
theorem ne_crc {a b : Nat} (h : a ≠ b) : ((a : Int) != (b : Int)) = true := by rw [bne_iff_ne]; omega

set_option maxHeartbeats 1000000 in
theorem walk_one (s : ByteArray) (k : Nat) (hs : s.size ≤ 140737488351232) (w : World) (h : k < 8 * s.size) :
    Calls Try.prog 7 #[.string s, .int .i64 (k : Int), .int .i64 0] w fun e w' => e = .returned (.bool true) ∧ Below w.heap.size w w' := by
  have hk8 : (k : Int) / 8 < (s.size : Int) := by omega
  have hk80 : 0 ≤ (k : Int) / 8 := by omega
  have hkl : k / 8 < s.data.toList.length := by simp; omega
  have hl : s.data.toList.length = s.size := by simp
  have HL := Lib.hid hl
  have HT := Lib.hid (turned_eq s.data.toList k hkl)
  have HN := Lib.hid (ne_crc (crc_flip s.data.toList k (by omega)))
  have hlm : (⟨(flip s.data.toList k).toArray⟩ : ByteArray).size ≤ maxLen := by
    show (flip s.data.toList k).toArray.size ≤ _
    rw [List.size_toArray, flip_length, hl]; unfold maxLen; omega
  clear hl
  go_enter Try.func7, Try.ntmps7
  go_wp2_with (go_at_call 12; refine (fixed_any _).mono ?_; rintro x w3 ⟨rfl, b3⟩; obtain ⟨cap, W1, hrun, hlies, hb1⟩ := bytes_run s w3; have c1 := hlies.cell (k / 8) (by rw [HL.out]; omega); have f1 := hlies.free (k / 8) (by rw [HL.out]; omega))
  go_region
  have e1 : bits BinOp.xor IntKind.u8 (s.data[k / 8].toNat : Int) (2 ^ (k % 8) % 256) = ((turned s.data.toList k).toNat : Int) := HT.out
  rw [e1]
  have L2 : Lies (W1.setCell ⟨w3.heap.size, k / 8, none⟩ (.int .u8 ((turned s.data.toList k).toNat : Int))).drew w3.heap.size (flip s.data.toList k) := by rw [flip_eq]; exact (hlies.set _ _).drew
  have B2 : Below w.heap.size w (W1.setCell ⟨w3.heap.size, k / 8, none⟩ (.int .u8 ((turned s.data.toList k).toNat : Int))).drew := ((below_trans b3 hb1).setCell (by exact b3.size) _).drew
  generalize (W1.setCell ⟨w3.heap.size, k / 8, none⟩ (.int .u8 ((turned s.data.toList k).toNat : Int))).drew = W2 at *
  have hback := back_run (cap := cap) L2 (by rw [flip_length, HL.out])
  clear e1 hrun hlies c1 f1 L2
  generalize flip s.data.toList k = l2 at *
  go_wp2_with fail
  refine (sum32_any _ _ hlm).mono ?_
  rintro x w6 ⟨rfl, rfl⟩
  go_wp2_with fail
  refine (sum32_any _ _ (by unfold maxLen; omega)).mono ?_
  rintro x w7 ⟨rfl, rfl⟩
  go_wp2_with fail
  go_ret
  exact ⟨ret_bool HN.out, B2⟩

set_option maxHeartbeats 1000000 in
theorem walk_two (s : ByteArray) (k n : Nat) (hs : s.size ≤ 140737488351232) (w : World) (h0 : 0 < n) (hn : n ≤ 31) (h : k + n < 8 * s.size) :
    Calls Try.prog 7 #[.string s, .int .i64 (k : Int), .int .i64 (n : Int)] w fun e w' => e = .returned (.bool true) ∧ Below w.heap.size w w' := by
  have hk8 : (k : Int) / 8 < (s.size : Int) := by omega
  have hk80 : 0 ≤ (k : Int) / 8 := by omega
  have hm8 : ((k : Int) + n) / 8 < (s.size : Int) := by omega
  have hm80 : 0 ≤ ((k : Int) + n) / 8 := by omega
  have hkl : k / 8 < s.data.toList.length := by simp; omega
  have hl : s.data.toList.length = s.size := by simp
  have HL := Lib.hid hl
  have HT := Lib.hid (turned_eq s.data.toList k hkl)
  have HN := Lib.hid (ne_crc (crc_flip2 s.data.toList k n h0 hn (by omega)))
  have hlm : (⟨(flip (flip s.data.toList k) (k + n)).toArray⟩ : ByteArray).size ≤ maxLen := by
    show (flip (flip s.data.toList k) (k + n)).toArray.size ≤ _
    rw [List.size_toArray, flip_length, flip_length, hl]; unfold maxLen; omega
  clear hl
  go_enter Try.func7, Try.ntmps7
  go_wp2_with (go_at_call 12; refine (fixed_any _).mono ?_; rintro x w3 ⟨rfl, b3⟩; obtain ⟨cap, W1, hrun, hlies, hb1⟩ := bytes_run s w3; have c1 := hlies.cell (k / 8) (by rw [HL.out]; omega); have f1 := hlies.free (k / 8) (by rw [HL.out]; omega))
  go_region
  have e1 : bits BinOp.xor IntKind.u8 (s.data[k / 8].toNat : Int) (2 ^ (k % 8) % 256) = ((turned s.data.toList k).toNat : Int) := HT.out
  rw [e1]
  have L2 : Lies (W1.setCell ⟨w3.heap.size, k / 8, none⟩ (.int .u8 ((turned s.data.toList k).toNat : Int))).drew w3.heap.size (flip s.data.toList k) := by rw [flip_eq]; exact (hlies.set _ _).drew
  have B2 : Below w.heap.size w (W1.setCell ⟨w3.heap.size, k / 8, none⟩ (.int .u8 ((turned s.data.toList k).toNat : Int))).drew := ((below_trans b3 hb1).setCell (by exact b3.size) _).drew
  generalize (W1.setCell ⟨w3.heap.size, k / 8, none⟩ (.int .u8 ((turned s.data.toList k).toNat : Int))).drew = W2 at *
  clear e1 hrun hlies c1 f1
  have hl2 : (flip s.data.toList k).length = s.size := by rw [flip_length, HL.out]
  generalize flip s.data.toList k = l2 at *
  have hk2 : (k + n) / 8 < l2.length := by omega
  have HL2 := Lib.hid hl2
  have HT2 := Lib.hid (turned_eq l2 (k + n) hk2)
  have c2 := L2.cell ((k + n) / 8) (by omega)
  have f2 := L2.free ((k + n) / 8) (by omega)
  clear hl2
  go_wp2_with fail
  go_region
  rw [HT2.out]
  have L3 : Lies (W2.setCell ⟨w3.heap.size, (k + n) / 8, none⟩ (.int .u8 ((turned l2 (k + n)).toNat : Int))).drew w3.heap.size (flip l2 (k + n)) := by rw [flip_eq]; exact (L2.set _ _).drew
  have B3 : Below w.heap.size w (W2.setCell ⟨w3.heap.size, (k + n) / 8, none⟩ (.int .u8 ((turned l2 (k + n)).toNat : Int))).drew := (B2.setCell (by exact b3.size) _).drew
  generalize (W2.setCell ⟨w3.heap.size, (k + n) / 8, none⟩ (.int .u8 ((turned l2 (k + n)).toNat : Int))).drew = W3 at *
  have hback := back_run (cap := cap) L3 (by rw [flip_length, HL2.out])
  clear c2 f2 L3 L2
  generalize flip l2 (k + n) = l3 at *
  go_wp2_with fail
  refine (sum32_any _ _ hlm).mono ?_
  rintro x w6 ⟨rfl, rfl⟩
  go_wp2_with fail
  refine (sum32_any _ _ (by unfold maxLen; omega)).mono ?_
  rintro x w7 ⟨rfl, rfl⟩
  go_wp2_with fail
  go_ret
  exact ⟨ret_bool HN.out, B3⟩

theorem walk (s : ByteArray) (a n : Int) (hs : s.size ≤ 140737488351232) (w : World) :
    Calls Try.prog 7 #[.string s, .int .i64 a, .int .i64 n] w fun e w' => e = .returned (.bool true) ∧ Below w.heap.size w w' := by
  by_cases h : a < 0 ∨ 8 * (s.size : Int) ≤ a ∨ n < 0 ∨ 31 < n ∨ 8 * (s.size : Int) ≤ a + n
  · exact walk_out s a n hs w h
  · obtain ⟨k, rfl⟩ := Int.eq_ofNat_of_zero_le (show 0 ≤ a by omega)
    obtain ⟨m, rfl⟩ := Int.eq_ofNat_of_zero_le (show 0 ≤ n by omega)
    by_cases h0 : m = 0
    · subst h0
      exact walk_one s k hs w (by omega)
    · exact walk_two s k m hs w (by omega) (by omega) (by omega)

theorem own : ownKnob Try.prog.godebug = none := by kernel_rfl

set_option maxRecDepth 100000 in
theorem lifted (os : Os) (started : os.Started) (H : Type) (enc : TypeId × Value → H) :
    ReturnsInHanded {} Try.checked os 7 .any (Rows.codeSumsSpec.pre6 enc Try.prog Try.f7 Rows.codeSumsRow.domain false) (Rows.codeSumsSpec.post enc Try.prog Try.f7 false true false false) := by
  refine returnsInHanded_of_change_sized (C := Try.checked) own started (by kernel_rfl) Try.func7
    (ChangeSpec.witness6 (enc := enc) (C := Try.checked) false ⟨#[], #[.string ByteArray.empty, .int .i64 0, .int .i64 0], []⟩ 8 (by kernel_rfl) (by kernel_rfl) (by kernel_rfl) (by kernel_rfl)) ?_
  intro W base args ds gs before hval0 hW hcnd hsz0 _
  have hval : ∀ (j : Nat) t v, Try.f7.params[j]? = some t → args[j]? = some v → Value.okWide Try.prog W .any base t v := hval0
  have hsz : (DataW.weightsEach Try.prog (Try.f7.params.toList ++ Rows.codeSumsSpec.plain.varTypes Try.prog) (ds ++ gs)).all (· ≤ reachBytes) = true := hsz0
  clear hsz0
  have hW' := hW
  obtain ⟨p, q, hA0, hV, rfl, hfz, hnd⟩ := hW
  have hA : DataW.TrodAll enc Try.prog W 0 (fun _ => true) true Try.f7.params.toList args.toList ds p := hA0
  rw [Try.params7] at hA hval hsz
  obtain ⟨v0, vs0, d0, ds0, p0, q0, hargs, rfl, rfl, h0, r0⟩ := trodAll_cons hA
  obtain ⟨v1, vs1, d1, ds1, p1, q1, rfl, rfl, rfl, h1, r1⟩ := trodAll_cons r0
  obtain ⟨v2, vs2, d2, ds2, p2, q2, rfl, rfl, rfl, h2, r2⟩ := trodAll_cons r1
  obtain ⟨rfl, rfl, rfl⟩ := trodAll_nil r2
  obtain rfl : args = #[v0, v1, v2] := by cases args; simp_all
  obtain ⟨rfl, rfl⟩ := trodVars_none hV
  obtain ⟨a0, rfl, rfl, rfl, w0⟩ := open_string Try.underlying9 (hval 0 9 v0 rfl rfl) h0
  obtain ⟨a1, rfl, rfl, rfl, w1⟩ := open_int Try.underlying3 (hval 1 3 v1 rfl rfl) h1
  obtain ⟨a2, rfl, rfl, rfl, w2⟩ := open_int Try.underlying3 (hval 2 3 v2 rfl rfl) h2
  clear hA0 hval0
  simp only [List.append_nil] at hW'
  have hs := sized_string hsz (j := 0) (t := 9) rfl rfl
  have hs : a0.size ≤ 140737488351232 := by simpa [reachBytes] using hs
  refine (walk a0 a1 a2 hs W).mono fun e W' ⟨he, bel⟩ => ?_
  subst he
  exact ⟨_, rfl, _, _, _, [], _, [], hW', trodAll_mk1 (shut_bool Try.underlying4 _), (trodAll_cons_mk (shut_string Try.underlying9 w0) (trodAll_cons_mk (shut_int Try.underlying3 w1) (trodAll_cons_mk (shut_int Try.underlying3 w2) trodAll_mk0))), rfl, bel.frame _, fun h => by cases h⟩

theorem over : Rows.codeSumsRow.holds Try.pinned (OpenSpec.ofChange Rows.codeSumsSpec) :=
  OpenClaim.holds_of_wide 7 Try.f7 rfl rfl rfl rfl rfl rfl rfl ⟨rfl, rfl, rfl, rfl, rfl⟩ rfl rfl rfl rfl rfl (by kernel_rfl) Try.func7 (by kernel_rfl)
    (of_decide_eq_true (by kernel_rfl)) (by unfold Func.isWrapper; first | (rw [if_pos (by decide +kernel)]; kernel_rfl) | (rw [if_neg (by decide +kernel)]; exact ⟨rfl, rfl⟩))
    (fun os started H enc _ => lifted os started H enc)

end Go.Proofs.Ytjehjkibgaeibaa.CodeSums

namespace Go.Proofs.Ytjehjkibgaeibaa
/-- THE STATEMENT -/
theorem codeSums_holds : Rows.CodeSumsSaid := CodeSums.over
end Go.Proofs.Ytjehjkibgaeibaa
