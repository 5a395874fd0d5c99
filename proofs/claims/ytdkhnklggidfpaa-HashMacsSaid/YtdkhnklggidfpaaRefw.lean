/- The sum and the mac by the document: the sum of any bytes and the mac of any key and bytes are those; the walks. Conditions: the bytes are within reach. -/
import Derived.Test.YtdkhnklggidfpaaRefs
import Derived.Test.YtdkhnklggidfpaaFix
import Derived.Test.YtdkhnklggidfpaaOwm
namespace Go.Proofs.Ytdkhnklggidfpaa
open Go.RowKit
set_option linter.unusedVariables false

set_option maxHeartbeats 1000000 in
theorem rSum_any (s : ByteArray) (w : World) (hs : s.size ≤ 140737488351232 + 64) :
    Calls Try.prog 13 #[.string s] w fun e w' => e = .returned (.string ⟨(sumL s.data.toList).toArray⟩) ∧ Below w.heap.size w w' := by
  go_enter Try.func13, Try.ntmps13
  go_wp2_with fail
  refine (rkeys_any _).mono ?_
  rintro e w1 ⟨gk, ck, rfl, hk, b1⟩
  go_wp2_with fail
  refine (rsum_any s gk ck _ hs hk).mono ?_
  rintro e w2 ⟨rfl, b2⟩
  go_wp2_with fail
  go_ret
  exact ⟨rfl, below_trans b1 b2⟩
set_option maxHeartbeats 1000000 in
theorem sums_walk (s : ByteArray) (w : World) (hs : s.size ≤ 140737488351232) :
    Calls Try.prog 3 #[.string s] w fun e w' => e = .returned (.bool true) ∧ Below w.heap.size w w' := by
  go_enter Try.func3, Try.ntmps3
  go_wp2_with fail
  refine (fixed_any _).mono ?_
  rintro e w1 ⟨rfl, b1⟩
  go_wp2_with fail
  refine (sum_any s _ (by omega)).mono ?_
  rintro e w2 ⟨rfl, b2⟩
  go_wp2_with fail
  refine (rSum_any s _ (by omega)).mono ?_
  rintro e w3 ⟨rfl, b3⟩
  go_wp2_with fail
  go_ret
  exact ⟨rfl, below_trans (below_trans b1 b2) b3⟩

/-- the row's cells behind k stores -/
def MaskRow (w : World) (g cap : Nat) (l : List UInt8) : Prop := ∃ (cur : Array Value) (fr : Nat × Nat), w.heap[g]? = some (.cells cur 5 fr) ∧ Past cur fr ∧ cur.size = cap ∧ cur.toList.take 64 = l.map cellB
theorem OwnM.mask {w : World} {B : Nat} {v : Value} {l : List UInt8} (h : OwnM w B v l) (hl : l.length = 64) : ∃ g cap, v = .slice (some ⟨g, 0, none⟩) 64 cap ∧ B ≤ g ∧ 64 ≤ cap ∧ MaskRow w g cap l := by
  obtain ⟨g, cap, cur, fr, rfl, h2, h3, h4, h5, h6, h7, h8⟩ := h
  rw [hl] at h5 h8
  exact ⟨g, cap, by rw [hl], h2, h5, cur, fr, h3, h4, h7, h8⟩
theorem MaskRow.at_ {w : World} {g cap : Nat} {l : List UInt8} (h : MaskRow w g cap l) (hc : 64 ≤ cap) (i : Nat) (hi : i < 64) (hl : l.length = 64) : w.cell? ⟨g, i, none⟩ = some (.int .u8 ((l.getD i 0).toNat : Int)) ∧ w.frozen? ⟨g, i, none⟩ = false := by
  obtain ⟨cur, fr, h1, h2, h3, h4⟩ := h
  refine ⟨?_, h2.free h1 i (by rw [h3]; omega)⟩
  rw [cell_of_row w g i cur 5 fr h1]
  have h9 : (cur.toList.take 64)[i]? = (l.map cellB)[i]? := by rw [h4]
  rw [List.getElem?_take, if_pos hi, List.getElem?_map, List.getElem?_eq_getElem (show i < l.length by omega)] at h9
  rw [← Array.getElem?_toList, h9]
  simp [cellB, List.getD, List.getElem?_eq_getElem (show i < l.length by omega)]
theorem MaskRow.set_ {w : World} {g cap : Nat} {l : List UInt8} (h : MaskRow w g cap l) (i : Nat) (c : UInt8) : MaskRow (w.setCell ⟨g, i, none⟩ (.int .u8 (c.toNat : Int))) g cap (l.set i c) := by
  obtain ⟨cur, fr, h1, h2, h3, h4⟩ := h
  refine ⟨_, fr, block_setCell h1, ?_, ?_, ?_⟩
  · unfold Past at *; simpa using h2
  · simpa using h3
  · rw [Array.toList_setIfInBounds, List.take_set, h4, List.map_set]; rfl
theorem MaskRow.back {w : World} {g cap : Nat} {l : List UInt8} (h : MaskRow w g cap l) (hc : 64 ≤ cap) (hl : l.length = 64) : (convert 32 9 (.slice (some ⟨g, 0, none⟩) 64 cap)).run Try.prog w = .ok (.string ⟨l.toArray⟩) w := by
  have hr := run_convert_bytes_back (P := Try.prog) w 32 9 5 ⟨g, 0, none⟩ cap l Try.underlying32 Try.underlying5 Try.underlying9 (fun i hi => by
    rw [addr_at, Nat.zero_add, (h.at_ hc i (by omega) hl).1]
    simp [List.getD, List.getElem?_eq_getElem hi])
  rw [hl] at hr
  exact hr

set_option maxRecDepth 100000 in
set_option maxHeartbeats 4000000 in
theorem padded_short (key : ByteArray) (x : UInt8) (gk ck : Nat) (w : World) (hk : key.size ≤ 64) :
    Calls Try.prog 39 #[.string key, .int .u8 (x.toNat : Int), .slice (some ⟨gk, 0, none⟩) 64 ck] w fun e w' => e = .returned (.string ⟨(maskL key.data.toList x).toArray⟩) ∧ Below w.heap.size w w' := by
  obtain ⟨D, hD⟩ : ∃ D, D = w.heap.size := ⟨_, rfl⟩
  obtain ⟨w0, hcv, ow0, b0⟩ := OwnM.made w key D (by omega) (by omega)
  have OW0 := Lib.hid ow0
  have HD := Lib.hid hD
  have h0s : D ≤ w0.heap.size := by rw [hD]; exact b0.size
  have HL := Lib.hid (baList key)
  generalize Value.slice (some ⟨w.heap.size, 0, none⟩) key.size (grownCap w key.size 0 5) = v0 at *
  clear ow0 hD
  go_enter Try.func39, Try.ntmps39
  go_wp2_with fail
  clear hcv
  go_loopw [7] (fun v wr => ∃ k : Nat, key.size + k ≤ 64 ∧ OwnM wr D v (key.data.toList ++ List.replicate k 0) ∧ Below D w wr ∧ D ≤ wr.heap.size) (fun v _ => 65 - (match v with | .slice _ n _ => n | _ => 0))
  case atStart => exact ⟨0, by omega, by rw [List.replicate_zero, List.append_nil]; exact OW0.out, b0, h0s⟩
  case round =>
    obtain ⟨k, hk2, ow, hb, hbs⟩ := hrel
    clear OW0 b0 h0s
    obtain ⟨g, cap, rfl, hg, hgl, hcl⟩ := ow.slice
    clear hcl
    have hLl : (key.data.toList ++ List.replicate k 0).length = key.size + k := by simp
    obtain ⟨M, hM⟩ : ∃ M, M = key.size + k := ⟨_, rfl⟩
    rw [← hM] at hLl hk2
    rw [hLl]
    rw [hLl] at ow
    have HLl := Lib.hid hLl
    have OW := Lib.hid ow
    have HM := Lib.hid hM
    clear hLl ow hM
    by_cases hm : M < 64
    · go_wp2_with (at_builtin; refine wpList_appendM rfl (.tmp 20) (.tmp 21) rfl D _ (key.data.toList ++ List.replicate k 0) rfl (OW.out.alloc _) ⟨wr.heap.size, 0, none⟩ 1 1 [0] rfl rfl (by decide) (newsB wr 0) (by rw [HLl.out]; omega) (by simp; omega) ?_; intro v2 w2 ow2 bb2)
      have ow3 : OwnM w2 D v2 (key.data.toList ++ List.replicate (k + 1) 0) := by
        rw [List.replicate_succ', ← List.append_assoc]; exact ow2
      have B2 : Below D w w2 := (hb.alloc hbs _).trans bb2
      have hD2 : D ≤ w2.heap.size := Nat.le_trans (by simp; omega) bb2.size
      obtain ⟨g2, cap2, rfl, _⟩ := ow3.slice
      have hl3 : (key.data.toList ++ List.replicate (k + 1) 0).length = M + 1 := by have := HM.out; simp; omega
      rw [hl3] at ow3
      rw [hl3]
      have HO3 := Lib.hid ow3
      clear ow2 bb2 ow3 hl3
      go_roundw
      case rel => exact ⟨k + 1, by have := HM.out; omega, HO3.out, B2, hD2⟩
      case measure => simp; omega
    · have hM64 : M = 64 := by omega
      subst hM64
      obtain ⟨g3, cap3, hv, hg3, hc3, hmr⟩ := OW.out.mask HLl.out
      have hml : (key.data.toList ++ List.replicate k 0).length = 64 := HLl.out
      have hpe : Hid (maskL key.data.toList x = (key.data.toList ++ List.replicate k 0).map (· ^^^ x)) := by
        unfold Hid maskL; rw [HL.out, show 64 - key.size = k by have := HM.out; omega]
      generalize key.data.toList ++ List.replicate k 0 = p at *
      have HP := Lib.hid hml
      injection hv with hv1 hv2 hv3
      injection hv1 with hv1
      injection hv1 with hv1
      subst hv1; subst hv3
      have hmr0 : MaskRow wr g cap (rowM p x 0) := by simpa [rowM] using hmr
      clear hv2 hmr OW HLl hml
      go_wp2_with fail
      go_loopw [8] (fun i wr => ∃ j : Nat, j ≤ 64 ∧ i = .int .i64 j ∧ MaskRow wr g cap (rowM p x j) ∧ Below D w wr) (fun i _ => 64 - (intOf i).toNat)
      case atStart => exact ⟨0, by omega, rfl, hmr0, hb⟩
      case round =>
        obtain ⟨j, hj, rfl, hmj, hbj⟩ := hrel
        clear hmr0 hb hbs
        have hrl : (rowM p x j).length = 64 := by rw [rowM_length _ _ _ (by rw [HP.out]; exact hj), HP.out]
        by_cases hlj : j < 64
        · have hpj : j < p.length := by rw [HP.out]; exact hlj
          obtain ⟨hc, hf⟩ := hmj.at_ hc3 j hlj hrl
          rw [rowM_at p x j hpj] at hc
          have hset := Lib.hid (rowM_set p x j hpj)
          have HMJ := Lib.hid hmj
          have hx8 := Lib.hid (xor8 p[j] x)
          generalize p[j] = c at *
          have hji : (j : Int) < 64 := by omega
          clear hmj hrl hpj
          go_wp2
          go_roundw
          case rel =>
            refine ⟨j + 1, by omega, by go_num, ?_, hbj.setCell (by exact hg) _⟩
            rw [hx8.out, ← hset.out]
            exact HMJ.out.set_ j _
          case measure => simp [intOf]; omega
        · have hj64 : j = 64 := by omega
          subst hj64
          have hdone : rowM p x 64 = p.map (· ^^^ x) := by
            unfold rowM
            rw [List.take_of_length_le (by rw [HP.out]; exact Nat.le_refl _), List.drop_of_length_le (by rw [HP.out]; exact Nat.le_refl _), List.append_nil]
          rw [hdone, ← hpe.out] at hmj
          rw [hdone, ← hpe.out] at hrl
          have hbk := hmj.back hc3 hrl
          clear hmj hrl hdone
          go_wp2
          go_ret
          exact ⟨rfl, by rw [← HD.out]; exact hbj⟩

set_option maxRecDepth 100000 in
set_option maxHeartbeats 4000000 in
theorem padded_long (key : ByteArray) (x : UInt8) (gk ck : Nat) (w : World) (hk : ¬ key.size ≤ 64) (hk2 : key.size ≤ 140737488351232) (hK : RowW w gk keys) :
    Calls Try.prog 39 #[.string key, .int .u8 (x.toNat : Int), .slice (some ⟨gk, 0, none⟩) 64 ck] w fun e w' => e = .returned (.string ⟨(maskL (sumL key.data.toList) x).toArray⟩) ∧ Below w.heap.size w w' := by
  have hk' : 64 < key.size := by omega
  go_enter Try.func39, Try.ntmps39
  go_wp2_with fail
  refine (rsum_any key gk ck _ (by omega) hK).mono ?_
  rintro e w1 ⟨rfl, b1⟩
  have hKK : (⟨(sumL key.data.toList).toArray⟩ : ByteArray).size ≤ 64 := by rw [baSize, sumL_length]; decide
  have HKL : Hid ((⟨(sumL key.data.toList).toArray⟩ : ByteArray).data.toList = sumL key.data.toList) := baOf _
  generalize (⟨(sumL key.data.toList).toArray⟩ : ByteArray) = K at *
  clear hk hk' hK
  obtain ⟨D, hD⟩ : ∃ D, D = w1.heap.size := ⟨_, rfl⟩
  obtain ⟨w0, hcv, ow0, b0⟩ := OwnM.made w1 K D (by omega) (by omega)
  have OW0 := Lib.hid ow0
  have HD := Lib.hid hD
  have h0s : D ≤ w0.heap.size := by rw [hD]; exact b0.size
  have HL := Lib.hid (baList K)
  generalize Value.slice (some ⟨w1.heap.size, 0, none⟩) K.size (grownCap w1 K.size 0 5) = v0 at *
  clear ow0 hD
  go_wp2_with fail
  clear hcv
  go_loopw [7] (fun v wr => ∃ k : Nat, K.size + k ≤ 64 ∧ OwnM wr D v (K.data.toList ++ List.replicate k 0) ∧ Below D w1 wr ∧ D ≤ wr.heap.size) (fun v _ => 65 - (match v with | .slice _ n _ => n | _ => 0))
  case atStart => exact ⟨0, by omega, by rw [List.replicate_zero, List.append_nil]; exact OW0.out, b0, h0s⟩
  case round =>
    obtain ⟨k, hk2, ow, hb, hbs⟩ := hrel
    clear OW0 b0 h0s
    obtain ⟨g, cap, rfl, hg, hgl, hcl⟩ := ow.slice
    clear hcl
    have hLl : (K.data.toList ++ List.replicate k 0).length = K.size + k := by simp
    obtain ⟨M, hM⟩ : ∃ M, M = K.size + k := ⟨_, rfl⟩
    rw [← hM] at hLl hk2
    rw [hLl]
    rw [hLl] at ow
    have HLl := Lib.hid hLl
    have OW := Lib.hid ow
    have HM := Lib.hid hM
    clear hLl ow hM
    by_cases hm : M < 64
    · go_wp2_with (at_builtin; refine wpList_appendM rfl (.tmp 20) (.tmp 21) rfl D _ (K.data.toList ++ List.replicate k 0) rfl (OW.out.alloc _) ⟨wr.heap.size, 0, none⟩ 1 1 [0] rfl rfl (by decide) (newsB wr 0) (by rw [HLl.out]; omega) (by simp; omega) ?_; intro v2 w2 ow2 bb2)
      have ow3 : OwnM w2 D v2 (K.data.toList ++ List.replicate (k + 1) 0) := by
        rw [List.replicate_succ', ← List.append_assoc]; exact ow2
      have B2 : Below D w1 w2 := (hb.alloc hbs _).trans bb2
      have hD2 : D ≤ w2.heap.size := Nat.le_trans (by simp; omega) bb2.size
      obtain ⟨g2, cap2, rfl, _⟩ := ow3.slice
      have hl3 : (K.data.toList ++ List.replicate (k + 1) 0).length = M + 1 := by have := HM.out; simp; omega
      rw [hl3] at ow3
      rw [hl3]
      have HO3 := Lib.hid ow3
      clear ow2 bb2 ow3 hl3
      go_roundw
      case rel => exact ⟨k + 1, by have := HM.out; omega, HO3.out, B2, hD2⟩
      case measure => simp; omega
    · have hM64 : M = 64 := by omega
      subst hM64
      obtain ⟨g3, cap3, hv, hg3, hc3, hmr⟩ := OW.out.mask HLl.out
      have hml : (K.data.toList ++ List.replicate k 0).length = 64 := HLl.out
      have hpe : Hid (maskL K.data.toList x = (K.data.toList ++ List.replicate k 0).map (· ^^^ x)) := by
        unfold Hid maskL; rw [HL.out, show 64 - K.size = k by have := HM.out; omega]
      generalize K.data.toList ++ List.replicate k 0 = p at *
      have HP := Lib.hid hml
      injection hv with hv1 hv2 hv3
      injection hv1 with hv1
      injection hv1 with hv1
      subst hv1; subst hv3
      have hmr0 : MaskRow wr g cap (rowM p x 0) := by simpa [rowM] using hmr
      clear hv2 hmr OW HLl hml
      go_wp2_with fail
      go_loopw [8] (fun i wr => ∃ j : Nat, j ≤ 64 ∧ i = .int .i64 j ∧ MaskRow wr g cap (rowM p x j) ∧ Below D w1 wr) (fun i _ => 64 - (intOf i).toNat)
      case atStart => exact ⟨0, by omega, rfl, hmr0, hb⟩
      case round =>
        obtain ⟨j, hj, rfl, hmj, hbj⟩ := hrel
        clear hmr0 hb hbs
        have hrl : (rowM p x j).length = 64 := by rw [rowM_length _ _ _ (by rw [HP.out]; exact hj), HP.out]
        by_cases hlj : j < 64
        · have hpj : j < p.length := by rw [HP.out]; exact hlj
          obtain ⟨hc, hf⟩ := hmj.at_ hc3 j hlj hrl
          rw [rowM_at p x j hpj] at hc
          have hset := Lib.hid (rowM_set p x j hpj)
          have HMJ := Lib.hid hmj
          have hx8 := Lib.hid (xor8 p[j] x)
          generalize p[j] = c at *
          have hji : (j : Int) < 64 := by omega
          clear hmj hrl hpj
          go_wp2
          go_roundw
          case rel =>
            refine ⟨j + 1, by omega, by go_num, ?_, hbj.setCell (by exact hg) _⟩
            rw [hx8.out, ← hset.out]
            exact HMJ.out.set_ j _
          case measure => simp [intOf]; omega
        · have hj64 : j = 64 := by omega
          subst hj64
          have hdone : rowM p x 64 = p.map (· ^^^ x) := by
            unfold rowM
            rw [List.take_of_length_le (by rw [HP.out]; exact Nat.le_refl _), List.drop_of_length_le (by rw [HP.out]; exact Nat.le_refl _), List.append_nil]
          rw [hdone, ← hpe.out] at hmj
          rw [hdone, ← hpe.out] at hrl
          have hbk := hmj.back hc3 hrl
          clear hmj hrl hdone
          go_wp2
          go_ret
          exact ⟨by rw [← HKL.out]; rfl, below_trans b1 (by rw [← HD.out]; exact hbj)⟩

set_option maxRecDepth 100000 in
set_option maxHeartbeats 1000000 in
theorem padded_any (key : ByteArray) (x : UInt8) (gk ck : Nat) (w : World) (hk : key.size ≤ 140737488351232) (hK : RowW w gk keys) :
    Calls Try.prog 39 #[.string key, .int .u8 (x.toNat : Int), .slice (some ⟨gk, 0, none⟩) 64 ck] w fun e w' => e = .returned (.string ⟨(maskL (keyL key.data.toList) x).toArray⟩) ∧ Below w.heap.size w w' := by
  by_cases h : key.size ≤ 64
  · have e : keyL key.data.toList = key.data.toList := by unfold keyL; rw [if_neg (by rw [baList]; omega)]
    rw [e]
    exact padded_short key x gk ck w h
  · have e : keyL key.data.toList = sumL key.data.toList := by unfold keyL; rw [if_pos (by rw [baList]; omega)]
    rw [e]
    exact padded_long key x gk ck w h hk hK
/-- what the document's mac is -/
theorem rmac_any (key s : ByteArray) (gk ck : Nat) (w : World) (hk : key.size ≤ 140737488351232) (hs : s.size ≤ 140737488351232) (hK : RowW w gk keys) :
    Calls Try.prog 28 #[.string key, .string s, .slice (some ⟨gk, 0, none⟩) 64 ck] w fun e w' => e = .returned (.string ⟨(macL key.data.toList s.data.toList).toArray⟩) ∧ Below w.heap.size w w' := by
  have P92 := Lib.hid (fun w (h : RowW w gk keys) => padded_any key 92 gk ck w hk h)
  have P54 := Lib.hid (fun w (h : RowW w gk keys) => padded_any key 54 gk ck w hk h)
  have hml : ∀ m, (maskL (keyL key.data.toList) m).length = 64 := fun m => maskL_length _ _ (keyL_length _)
  have HS1 : Hid (∀ w, RowW w gk keys → Calls Try.prog 25 #[.string (⟨(maskL (keyL key.data.toList) 54).toArray⟩ ++ s), .slice (some ⟨gk, 0, none⟩) 64 ck] w fun e w' => e = .returned (.string ⟨(sumL (maskL (keyL key.data.toList) 54 ++ s.data.toList)).toArray⟩) ∧ Below w.heap.size w w') := by
    unfold Hid
    intro w h
    have := rsum_any (⟨(maskL (keyL key.data.toList) 54).toArray⟩ ++ s) gk ck w (by rw [ByteArray.size_append, baSize, hml]; omega) h
    rw [show (⟨(maskL (keyL key.data.toList) 54).toArray⟩ ++ s : ByteArray).data.toList = maskL (keyL key.data.toList) 54 ++ s.data.toList by simp] at this
    exact this
  have HS2 : Hid (∀ w, RowW w gk keys → Calls Try.prog 25 #[.string (⟨(maskL (keyL key.data.toList) 92).toArray⟩ ++ ⟨(sumL (maskL (keyL key.data.toList) 54 ++ s.data.toList)).toArray⟩), .slice (some ⟨gk, 0, none⟩) 64 ck] w fun e w' => e = .returned (.string ⟨(macL key.data.toList s.data.toList).toArray⟩) ∧ Below w.heap.size w w') := by
    unfold Hid
    intro w h
    have := rsum_any (⟨(maskL (keyL key.data.toList) 92).toArray⟩ ++ ⟨(sumL (maskL (keyL key.data.toList) 54 ++ s.data.toList)).toArray⟩) gk ck w (by rw [ByteArray.size_append, baSize, baSize, hml, sumL_length]; decide) h
    rw [show (⟨(maskL (keyL key.data.toList) 92).toArray⟩ ++ ⟨(sumL (maskL (keyL key.data.toList) 54 ++ s.data.toList)).toArray⟩ : ByteArray).data.toList = maskL (keyL key.data.toList) 92 ++ sumL (maskL (keyL key.data.toList) 54 ++ s.data.toList) by simp] at this
    exact this
  have f1 : (maskL (keyL key.data.toList) 54).length + s.size ≤ 9223372036854775807 := by rw [hml]; omega
  have f2 : (maskL (keyL key.data.toList) 92).length + 32 ≤ 9223372036854775807 := by rw [hml]; decide
  have f3 : (sumL (maskL (keyL key.data.toList) 54 ++ s.data.toList)).length = 32 := sumL_length _
  have HK := Lib.hid hK
  clear hml hK
  generalize maskL (keyL key.data.toList) 54 = M5 at *
  generalize maskL (keyL key.data.toList) 92 = M9 at *
  generalize sumL (M5 ++ s.data.toList) = U at *
  generalize macL key.data.toList s.data.toList = V at *
  go_enter Try.func28, Try.ntmps28
  go_wp2_with fail
  refine (P92.out _ HK.out).mono ?_
  rintro e w1 ⟨rfl, b1⟩
  have h1 := Lib.hid (HK.out.below b1 HK.out.1)
  go_wp2_with fail
  refine (P54.out _ h1.out).mono ?_
  rintro e w2 ⟨rfl, b2⟩
  have h2 := Lib.hid (h1.out.below b2 h1.out.1)
  go_wp2_with fail
  refine (HS1.out _ h2.out).mono ?_
  rintro e w3 ⟨rfl, b3⟩
  have h3 := Lib.hid (h2.out.below b3 h2.out.1)
  go_wp2_with fail
  refine (HS2.out _ h3.out).mono ?_
  rintro e w4 ⟨rfl, b4⟩
  go_wp2_with fail
  go_ret
  exact ⟨rfl, below_trans (below_trans (below_trans b1 b2) b3) b4⟩
set_option maxHeartbeats 1000000 in
theorem rMac_any (key s : ByteArray) (w : World) (hk : key.size ≤ 140737488351232) (hs : s.size ≤ 140737488351232) :
    Calls Try.prog 15 #[.string key, .string s] w fun e w' => e = .returned (.string ⟨(macL key.data.toList s.data.toList).toArray⟩) ∧ Below w.heap.size w w' := by
  go_enter Try.func15, Try.ntmps15
  go_wp2_with fail
  refine (rkeys_any _).mono ?_
  rintro e w1 ⟨gk, ck, rfl, hK, b1⟩
  go_wp2_with fail
  refine (rmac_any key s gk ck _ hk hs hK).mono ?_
  rintro e w2 ⟨rfl, b2⟩
  go_wp2_with fail
  go_ret
  exact ⟨rfl, below_trans b1 b2⟩
set_option maxHeartbeats 1000000 in
theorem macs_walk (key s : ByteArray) (w : World) (hk : key.size ≤ 140737488351232) (hs : s.size ≤ 140737488351232) :
    Calls Try.prog 4 #[.string key, .string s] w fun e w' => e = .returned (.bool true) ∧ Below w.heap.size w w' := by
  go_enter Try.func4, Try.ntmps4
  go_wp2_with fail
  refine (fixed_any _).mono ?_
  rintro e w1 ⟨rfl, b1⟩
  go_wp2_with fail
  refine (mac_any key s _ (by omega) (by omega)).mono ?_
  rintro e w2 ⟨rfl, b2⟩
  go_wp2_with fail
  refine (rMac_any key s _ hk hs).mono ?_
  rintro e w3 ⟨rfl, b3⟩
  go_wp2_with fail
  go_ret
  exact ⟨rfl, below_trans (below_trans b1 b2) b3⟩
end Go.Proofs.Ytdkhnklggidfpaa
