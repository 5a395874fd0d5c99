/- A mac is two sums over the padded key; a key that is too long is as good as its sum, one with bytes 0 behind it as good as it without them: the walk. Conditions: the bytes are few enough for a machine. -/
import Derived.Test.YtdkhnklggidfpaaArgs
import Derived.Laws.AppendOwn
import Derived.Maps.AppendAt
import Derived.Lib.AppendStr
import Derived.Deep.RegionWith
import Derived.Deep.DrawnRows
namespace Go.Proofs.Ytdkhnklggidfpaa
open Go.RowKit
set_option linter.unusedVariables false
attribute [local go_sem ↓] Go.wp_at_zero Go.wp_at_succ


/-- the bytes so far, in a row of their own -/
def OwnK (w : World) (base : Nat) (v : Value) (l : List UInt8) : Prop := w.ownsRow base 5 1 v l.length (ownLen l) ∧ v ≠ .slice none 0 0
theorem OwnK.back {w : World} {B : Nat} {v : Value} {l : List UInt8} (h : OwnK w B v l) : (convert 32 9 v).run Try.prog w = .ok (.string ⟨l.toArray⟩) w := own_back rfl h.1 h.2
theorem OwnK.below {w w' : World} {B : Nat} {v : Value} {l : List UInt8} (h : OwnK w B v l) (hb : Below w.heap.size w w') : OwnK w' B v l := by
  obtain ⟨⟨hl, h2⟩, hne⟩ := h
  refine ⟨⟨hl, ?_⟩, hne⟩
  rcases h2 with h2 | ⟨g, cap, cur, hv, hg, hrow, hr⟩
  · exact .inl h2
  · exact .inr ⟨g, cap, cur, hv, hg, heap_below hrow hb (block_lt hrow), hr⟩
theorem OwnK.slice {w : World} {B : Nat} {v : Value} {l : List UInt8} (h : OwnK w B v l) : ∃ g cap, v = .slice (some ⟨g, 0, none⟩) l.length cap ∧ B ≤ g ∧ g < w.heap.size := by
  obtain ⟨⟨hl, h2⟩, hne⟩ := h
  rcases h2 with h2 | ⟨g, cap, cur, hv, hg, hrow, _⟩
  · exact absurd h2.1 hne
  · exact ⟨g, cap, hv, hg, block_lt hrow⟩
theorem OwnK.more {w' : World} {B : Nat} {v' : Value} {l : List UInt8} {x : UInt8} {y : Int} (hy : y = (x.toNat : Int)) (h : w'.ownsRow B 5 1 v' (l.length + 1) (ownLen l ++ [.int .u8 y])) (hne : v' ≠ .slice none 0 0) : OwnK w' B v' (l ++ [x]) := by
  subst hy
  refine ⟨?_, hne⟩
  have e1 : (l ++ [x]).length = l.length + 1 := by rw [List.length_append]; rfl
  have e2 : ownLen (l ++ [x]) = ownLen l ++ [.int .u8 (x.toNat : Int)] := by unfold ownLen; rw [List.map_append]; rfl
  rw [e1, e2]; exact h
theorem OwnK.kept {w w' : World} {B : Nat} {v : Value} {row : Option Nat} {l : List UInt8} (h : OwnK w B v l) (hg : w.grownBy w' row) (hne : v.ownBlock ≠ row) : OwnK w' B v l := ⟨h.1.kept hg (.inr hne), h.2⟩

theorem OwnK.alloc {w : World} {B : Nat} {v : Value} {l : List UInt8} (h : OwnK w B v l) (o : Obj) : OwnK (w.alloc o) B v l := ⟨h.1.alloc o, h.2⟩
theorem news1 (w : World) (x : Value) : ∀ j u, [x][j]? = some u → (w.alloc (.cells #[x] 5)).cell? ((⟨w.heap.size, 0, none⟩ : Addr).add j) = some u := by
  intro j u hj
  match j, hj with
  | 0, hj => simp at hj; subst hj; simp [Addr.add]
theorem one1 (y : Int) : ∀ u ∈ [Value.int .u8 y], u.oneCell' = true := by intro u hu; simp at hu; subst hu; rfl
theorem keyL_short (key : List UInt8) (h : key.length ≤ 64) : keyL key = key := by unfold keyL; rw [if_neg (by omega)]
theorem maskL_more (key : List UInt8) (m : UInt8) (n : Nat) (h : key.length + n ≤ 64) : maskL (key ++ List.replicate n 0) m = maskL key m := by
  unfold maskL
  rw [List.append_assoc, List.replicate_append_replicate, List.length_append, List.length_replicate]
  congr 3; omega
theorem macL_more (key s : List UInt8) (n : Nat) (h : key.length + n ≤ 64) : macL (key ++ List.replicate n 0) s = macL key s := by
  unfold macL
  rw [keyL_short _ (by rw [List.length_append, List.length_replicate]; exact h), keyL_short key (by omega), maskL_more _ _ _ h, maskL_more _ _ _ h]
theorem maskL_at (key : List UInt8) (m : UInt8) (k : Nat) (hk : k < 64) (hl : key.length ≤ 64) : (maskL key m)[k]? = some ((key.getD k 0) ^^^ m) := by
  unfold maskL
  rw [List.getElem?_map]
  by_cases h : k < key.length
  · rw [List.getElem?_append_left h]; simp [List.getElem?_eq_getElem h]
  · rw [List.getElem?_append_right (by omega), List.getElem?_replicate, if_pos (by omega)]
    simp [List.getElem?_eq_none (show key.length ≤ k by omega)]
theorem maskL_snoc (key : List UInt8) (m : UInt8) (k : Nat) (hk : k < 64) (hl : key.length ≤ 64) : (maskL key m).take (k + 1) = (maskL key m).take k ++ [(key.getD k 0) ^^^ m] := by
  have h := maskL_at key m k hk hl
  rw [List.take_add_one, h]; rfl
theorem catS (l : List UInt8) (s : ByteArray) : (⟨l.toArray⟩ : ByteArray) ++ s = ⟨(l ++ s.data.toList).toArray⟩ := by
  apply ByteArray.ext
  simp
theorem catL (l m : List UInt8) : (⟨l.toArray⟩ : ByteArray) ++ ⟨m.toArray⟩ = ⟨(l ++ m).toArray⟩ := by
  apply ByteArray.ext
  simp
/-- a key with bytes 0 behind it -/
def keyZ (key : ByteArray) (n : Nat) : ByteArray := ⟨(key.data.toList ++ List.replicate n 0).toArray⟩
theorem keyZ_zero (key : ByteArray) : keyZ key 0 = key := by apply ByteArray.ext; simp [keyZ]
theorem keyZ_size (key : ByteArray) (n : Nat) : (keyZ key n).size = key.size + n := by unfold keyZ; rw [baSize]; simp
theorem keyZ_next (key : ByteArray) (n : Nat) : keyZ key n ++ ⟨#[0]⟩ = keyZ key (n + 1) := by
  unfold keyZ
  rw [show (⟨#[0]⟩ : ByteArray) = ⟨([0] : List UInt8).toArray⟩ from rfl, catL, List.append_assoc, ← List.replicate_succ']

theorem sum_cat (l : List UInt8) (s : ByteArray) (w : World) (h : l.length + s.size < 576460752303423488) :
    Calls Try.prog 12 #[.string (⟨l.toArray⟩ ++ s)] w fun e w' => e = .returned (.string ⟨(sumL (l ++ s.data.toList)).toArray⟩) ∧ Below w.heap.size w w' := by
  rw [catS]
  have := sum_any ⟨(l ++ s.data.toList).toArray⟩ w (by rw [baSize, List.length_append, baList]; exact h)
  rw [baOf] at this
  exact this

set_option maxRecDepth 100000 in
set_option maxHeartbeats 1000000 in
theorem keys_long (key s : ByteArray) (n : Int) (w : World) (hk : 64 < key.size) (hk2 : key.size < 288230376151711744) (hs : s.size < 288230376151711744) :
    Calls Try.prog 7 #[.string key, .string s, .int .i64 n] w fun e w' => e = .returned (.bool true) ∧ Below w.heap.size w w' := by
  have B0 := Below.refl w.heap.size w
  have l1 : (⟨(macL key.data.toList s.data.toList).toArray⟩ : ByteArray).size = 32 := by rw [baSize]; rfl
  have l2 : (⟨(sumL s.data.toList).toArray⟩ : ByteArray).size = 32 := by rw [baSize]; rfl
  have heq : (⟨(macL (⟨(sumL key.data.toList).toArray⟩ : ByteArray).data.toList s.data.toList).toArray⟩ : ByteArray) = ⟨(macL key.data.toList s.data.toList).toArray⟩ := by
    rw [baOf]
    unfold macL
    have e1 : keyL (sumL key.data.toList) = sumL key.data.toList := by unfold keyL; rw [if_neg (by rw [sumL_length]; decide)]
    have e2 : keyL key.data.toList = sumL key.data.toList := by unfold keyL; rw [if_pos (by rw [baList]; exact hk)]
    rw [e1, e2]
  have A1 := fun w => mac_any key s w hk2 hs
  have A2 := fun w => sum_any s w (by omega)
  have A3 := fun w => mac_any ⟨(sumL key.data.toList).toArray⟩ s w (by rw [baSize, sumL_length]; decide) hs
  rw [heq] at A3
  generalize (⟨(macL key.data.toList s.data.toList).toArray⟩ : ByteArray) = X at *
  generalize (⟨(sumL s.data.toList).toArray⟩ : ByteArray) = Y at *
  clear heq
  go_enter Try.func7, Try.ntmps7
  go_wp2_with fail
  refine (fixed_any _).mono ?_
  rintro e w1 ⟨rfl, b1⟩
  have B1 := B0.trans (b1.mono B0.size)
  go_wp2_with fail
  refine (A1 _).mono ?_
  rintro e w2 ⟨rfl, b2⟩
  have B2 := B1.trans (b2.mono B1.size)
  go_wp2_with fail
  refine (A2 _).mono ?_
  rintro e w3 ⟨rfl, b3⟩
  have B3 := B2.trans (b3.mono B2.size)
  go_wp2_with fail
  refine (sum_any key _ (by omega)).mono ?_
  rintro e w4 ⟨rfl, b4⟩
  have B4 := B3.trans (b4.mono B3.size)
  go_wp2_with fail
  refine (A3 _).mono ?_
  rintro e w5 ⟨rfl, b5⟩
  go_wp2_with fail
  go_ret
  exact ⟨rfl, B4.trans (b5.mono B4.size)⟩

set_option maxRecDepth 100000 in
set_option maxHeartbeats 4000000 in
theorem keys_short (key s : ByteArray) (n : Int) (w : World) (hk : key.size ≤ 64) (hs : s.size ≤ 140737488351232) :
    Calls Try.prog 7 #[.string key, .string s, .int .i64 n] w fun e w' => e = .returned (.bool true) ∧ Below w.heap.size w w' := by
  have B0 := Below.refl w.heap.size w
  have hkl : key.data.toList.length ≤ 64 := by rw [baList]; exact hk
  have l1 : (⟨(macL key.data.toList s.data.toList).toArray⟩ : ByteArray).size = 32 := by rw [baSize]; rfl
  have l2 : (⟨(sumL s.data.toList).toArray⟩ : ByteArray).size = 32 := by rw [baSize]; rfl
  have A1 := fun w => mac_any key s w (by omega) (by omega)
  have A2 := fun w => sum_any s w (by omega)
  have A3 : ∀ (m : Nat) (w : World), key.size + m ≤ 64 → Calls Try.prog 14 #[.string (keyZ key m), .string s] w fun e w' => e = .returned (.string ⟨(macL key.data.toList s.data.toList).toArray⟩) ∧ Below w.heap.size w w' := fun m w hm => by
    have := mac_any (keyZ key m) s w (by rw [keyZ_size]; omega) (by omega)
    rw [show (keyZ key m).data.toList = key.data.toList ++ List.replicate m 0 from baOf _, macL_more _ _ _ (by rw [baList]; exact hm)] at this
    exact this
  have HM : Hid (macL key.data.toList s.data.toList = sumL (maskL key.data.toList 92 ++ sumL (maskL key.data.toList 54 ++ s.data.toList))) := by
    unfold Hid macL; rw [keyL_short _ hkl]
  have A4 := fun w => sum_cat (maskL key.data.toList 54) s w (by rw [maskL_length _ _ hkl]; omega)
  have A5 := fun w => sum_cat (maskL key.data.toList 92) ⟨(sumL (maskL key.data.toList 54 ++ s.data.toList)).toArray⟩ w (by rw [maskL_length _ _ hkl, baSize, sumL_length]; decide)
  rw [baOf, ← HM.out] at A5
  have n5 : (⟨(sumL (maskL key.data.toList 54 ++ s.data.toList)).toArray⟩ : ByteArray).size = 32 := by rw [baSize]; rfl
  obtain ⟨M5, hM5⟩ : ∃ M5, M5 = maskL key.data.toList 54 := ⟨_, rfl⟩
  obtain ⟨M9, hM9⟩ : ∃ M9, M9 = maskL key.data.toList 92 := ⟨_, rfl⟩
  rw [← hM5] at A4 A5 n5
  rw [← hM9] at A5
  have L5 : M5.length = 64 := by rw [hM5, maskL_length _ _ hkl]
  have L9 : M9.length = 64 := by rw [hM9, maskL_length _ _ hkl]
  have T5 : Hid (∀ k, k < 64 → M5.take (k + 1) = M5.take k ++ [(key.data.toList.getD k 0) ^^^ 54]) := by unfold Hid; rw [hM5]; exact fun k h => maskL_snoc _ _ k h hkl
  have T9 : Hid (∀ k, k < 64 → M9.take (k + 1) = M9.take k ++ [(key.data.toList.getD k 0) ^^^ 92]) := by unfold Hid; rw [hM9]; exact fun k h => maskL_snoc _ _ k h hkl
  clear hM5 hM9 HM
  have HL5 := Lib.hid L5
  have HL9 := Lib.hid L9
  clear L5 L9
  generalize (⟨(macL key.data.toList s.data.toList).toArray⟩ : ByteArray) = X at *
  generalize (⟨(sumL s.data.toList).toArray⟩ : ByteArray) = Y at *
  generalize (⟨(sumL (M5 ++ s.data.toList)).toArray⟩ : ByteArray) = U at *
  have HKl := Lib.hid hkl
  clear hkl
  have A1h := Lib.hid A1
  have A2h := Lib.hid A2
  have A3h := Lib.hid A3
  have A4h := Lib.hid A4
  have A5h := Lib.hid A5
  clear A1 A2 A3 A4 A5
  obtain ⟨i0, hi, hz0, hz1, hz2⟩ := info_parts Try.info5
  have HI := Lib.hid (And.intro hi (And.intro hz0 (And.intro hz1 hz2)))
  clear hi hz0 hz1 hz2
  go_enter Try.func7, Try.ntmps7
  go_wp2_with fail
  refine (fixed_any _).mono ?_
  rintro e w1 ⟨rfl, b1⟩
  have B1 := B0.trans (b1.mono B0.size)
  go_wp2_with fail
  refine (A1h.out _).mono ?_
  rintro e w2 ⟨rfl, b2⟩
  have B2 := B1.trans (b2.mono B1.size)
  go_wp2_with fail
  refine (A2h.out _).mono ?_
  rintro e w3 ⟨rfl, b3⟩
  have B3 := B2.trans (b3.mono B2.size)
  clear b1 b2 b3 B0 B1 B2
  obtain ⟨D, hD⟩ : ∃ D, D = w3.heap.size := ⟨_, rfl⟩
  have hwD : w.heap.size ≤ D := by rw [hD]; exact B3.size
  have own0 : OwnK ((w3.alloc (.cells #[] 5)).alloc (.cells #[] 5)) D (.slice (some ⟨D, 0, none⟩) 0 0) [] := by
    rw [hD]
    exact ⟨(World.ownsRow_made w3 #[] 0 (Nat.le_refl _) (by decide) rfl).alloc _, by simp⟩
  have own1 : OwnK ((w3.alloc (.cells #[] 5)).alloc (.cells #[] 5)) D (.slice (some ⟨D + 1, 0, none⟩) 0 0) [] := by
    have h := World.ownsRow_made (base := D) (e := 5) (size := 1) (w3.alloc (.cells #[] 5)) #[] 0 (by rw [hD]; simp) (by decide) rfl
    rw [show (w3.alloc (.cells #[] 5)).heap.size = D + 1 by rw [hD]; simp] at h
    exact ⟨h, by simp⟩
  have B5 : Below w.heap.size w ((w3.alloc (.cells #[] 5)).alloc (.cells #[] 5)) := (B3.alloc B3.size _).alloc (by have := B3.size; simp; omega) _
  have hDs : D ≤ ((w3.alloc (.cells #[] 5)).alloc (.cells #[] 5)).heap.size := by rw [hD]; simp; omega
  have HD := Lib.hid hD
  clear hD B3
  go_wp2_with fail
  rw [← HD.out]
  go_loopw [8, 9, 10, 11] (fun va vb j _ wr => ∃ k : Nat, k ≤ 64 ∧ j = .int .i64 k ∧ OwnK wr D va (M9.take k) ∧ OwnK wr D vb (M5.take k) ∧ va.ownBlock ≠ vb.ownBlock ∧ Below w.heap.size w wr ∧ D ≤ wr.heap.size) (fun _ _ j _ _ => 64 - (intOf j).toNat)
  case atStart => exact ⟨0, by omega, rfl, own0, own1, by simp [Value.ownBlock], B5, hDs⟩
  case round =>
    obtain ⟨k, hkk, rfl, oa, ob, hab, hbel, hDw⟩ := hrel
    clear own0 own1 B5 hDs
    by_cases hlt : k < 64
    · have t9 := T9.out k hlt
      have t5 := T5.out k hlt
      have HT := Lib.hid (And.intro t9 t5)
      clear t9 t5
      have hl9 : (M9.take k).length = k := by rw [List.length_take, HL9.out]; omega
      have hl5 : (M5.take k).length = k := by rw [List.length_take, HL5.out]; omega
      generalize M9.take k = P9 at *
      generalize M5.take k = P5 at *
      by_cases hin : k < key.size
      · have hg : key.data.toList.getD k 0 = key[k] := by
          rw [List.getD_eq_getElem?_getD, List.getElem?_eq_getElem (by rw [baList]; exact hin)]; rfl
        rw [hg] at HT
        have y9 : bits BinOp.xor IntKind.u8 (key[k].toNat : Int) 92 = ((key[k] ^^^ 92 : UInt8).toNat : Int) := xor8 key[k] 92
        have y5 : bits BinOp.xor IntKind.u8 (key[k].toNat : Int) 54 = ((key[k] ^^^ 54 : UInt8).toNat : Int) := xor8 key[k] 54
        have HY := Lib.hid (And.intro y9 y5)
        clear hg y9 y5
        have HI1 := HI.out.1
        have HI2 := HI.out.2.1
        have HI3 := HI.out.2.2.1
        have HI4 := HI.out.2.2.2
        have HJ := Lib.hid (And.intro HI1 (And.intro HI2 (And.intro HI3 HI4)))
        clear HI1 HI2 HI3 HI4
        have ob' := ob.1.alloc (.cells #[Value.int .u8 (bits BinOp.xor IntKind.u8 (key[k].toNat : Int) 92)] 5)
        have HOB := Lib.hid ob
        have HOA := Lib.hid oa
        have HAB := Lib.hid hab
        clear oa ob hab ob'
        go_wp2_with (first
          | (at_builtin; refine wpList_append_own_at _ rfl (.tmp 50) (.tmp 53) 32 rfl D 5 i0 (.int .u8 0) 1 1 Try.underlying32 HJ.out.1 HJ.out.2.1 HJ.out.2.2.1 HJ.out.2.2.2 rfl (by decide) _ _ _ rfl (HOA.out.1.alloc _) ⟨wr.heap.size, 0, none⟩ 1 1 [Value.int .u8 (bits BinOp.xor IntKind.u8 (key[k].toNat : Int) 92)] rfl rfl (news1 _ _) (one1 _) (by rw [hl9]; unfold maxLen; omega) (by rw [hl9]; omega) (by simp; omega) ?_; intro va' v1 oa1 gr1 nil1 at1; have OA1 := Lib.hid (And.intro oa1 (And.intro gr1 (And.intro nil1 at1))); clear oa1 gr1 nil1 at1; have ob1 := (OwnK.alloc HOB.out (.cells #[Value.int .u8 (bits BinOp.xor IntKind.u8 (key[k].toNat : Int) 92)] 5)).kept OA1.out.2.1 (Ne.symm HAB.out); have OB1 := Lib.hid ob1; clear ob1; have hDv : D ≤ v1.heap.size := Nat.le_trans (by simp; omega) OA1.out.2.1.size)
          | (at_builtin; refine wpList_append_own_at _ rfl (.tmp 55) (.tmp 58) 32 rfl D 5 i0 (.int .u8 0) 1 1 Try.underlying32 HJ.out.1 HJ.out.2.1 HJ.out.2.2.1 HJ.out.2.2.2 rfl (by decide) _ _ _ rfl (OB1.out.1.alloc _) ⟨v1.heap.size, 0, none⟩ 1 1 [Value.int .u8 (bits BinOp.xor IntKind.u8 (key[k].toNat : Int) 54)] rfl rfl (news1 _ _) (one1 _) (by rw [hl5]; unfold maxLen; omega) (by rw [hl5]; omega) (by simp; omega) ?_; intro vb' v2 ob2 gr2 nil2 at2; have OB2 := Lib.hid (And.intro ob2 (And.intro gr2 (And.intro nil2 at2))); clear ob2 gr2 nil2 at2))
        have na : va' ≠ .slice none 0 0 := fun h => HOA.out.2 (OA1.out.2.2.1.1 h).1
        have nb : vb' ≠ .slice none 0 0 := fun h => HOB.out.2 (OB2.out.2.2.1.1 h).1
        obtain ⟨ga, ca, hga, hDa, hlta⟩ := HOA.out.slice
        obtain ⟨gb, cb, hgb, hDb, hltb⟩ := HOB.out.slice
        have hz1 : wr.heap.size + 1 ≤ v1.heap.size := by have := OA1.out.2.1.size; simpa using this
        have e1 : va'.ownBlock ≠ u9.ownBlock := by
          rcases OA1.out.2.2.2 with h | h
          · rw [h]; exact HAB.out
          · rw [h, hgb]; simp [Value.ownBlock]; omega
        have e2 : va'.ownBlock ≠ vb'.ownBlock := by
          rcases OB2.out.2.2.2 with h | h
          · rw [h]; exact e1
          · rw [h]
            intro hh
            have h4 := (OA1.out.1.lt _ hh).2
            have h5 : ∀ o, v1.heap.size ≤ (v1.alloc o).heap.size := fun o => by simp
            exact absurd h4 (Nat.not_lt.2 (h5 _))
        have fa : OwnK v2 D va' (P9 ++ [key[k] ^^^ 92]) := ((OwnK.more HY.out.1 OA1.out.1 na).alloc _).kept OB2.out.2.1 e1
        have fb : OwnK v2 D vb' (P5 ++ [key[k] ^^^ 54]) := OwnK.more HY.out.2 (by rw [hl5] at *; exact OB2.out.1) nb
        have G1 : Below w.heap.size w v1 := (hbel.alloc hbel.size _).grown OA1.out.2.1 (by have := hbel.size; simp; omega) (fun g hg => by have := (HOA.out.1.lt g hg).1; omega)
        have G2 : Below w.heap.size w v2 := (G1.alloc G1.size _).grown OB2.out.2.1 (by have := G1.size; simp; omega) (fun g hg => by have := (OB1.out.1.lt g hg).1; omega)
        have hDv2 : D ≤ v2.heap.size := Nat.le_trans (by simp; omega) OB2.out.2.1.size
        rw [← HT.out.1] at fa
        rw [← HT.out.2] at fb
        clear G1 e1 hz1 hgb hga na nb
        go_roundw
        case rel => exact ⟨k + 1, by omega, by go_num, fa, fb, e2, G2, hDv2⟩
        case measure => simp [intOf]; omega
      · have hg : key.data.toList.getD k 0 = 0 := by
          rw [List.getD_eq_getElem?_getD, List.getElem?_eq_none (by rw [baList]; omega)]; rfl
        rw [hg] at HT
        have hin' : decide (k < key.size) = false := by simp; omega
        clear hg
        have HY : Hid (((bits BinOp.xor IntKind.u8 (0 : Int) 92) = (((0 : UInt8) ^^^ 92 : UInt8).toNat : Int)) ∧ (bits BinOp.xor IntKind.u8 (0 : Int) 54 = (((0 : UInt8) ^^^ 54 : UInt8).toNat : Int))) := ⟨xor8 0 92, xor8 0 54⟩
        have HI1 := HI.out.1
        have HI2 := HI.out.2.1
        have HI3 := HI.out.2.2.1
        have HI4 := HI.out.2.2.2
        have HJ := Lib.hid (And.intro HI1 (And.intro HI2 (And.intro HI3 HI4)))
        clear HI1 HI2 HI3 HI4
        have ob' := ob.1.alloc (.cells #[Value.int .u8 92] 5)
        have HOB := Lib.hid ob
        have HOA := Lib.hid oa
        have HAB := Lib.hid hab
        clear oa ob hab ob'
        go_wp2_with (first
          | (at_builtin; refine wpList_append_own_at _ rfl (.tmp 50) (.tmp 53) 32 rfl D 5 i0 (.int .u8 0) 1 1 Try.underlying32 HJ.out.1 HJ.out.2.1 HJ.out.2.2.1 HJ.out.2.2.2 rfl (by decide) _ _ _ rfl (HOA.out.1.alloc _) ⟨wr.heap.size, 0, none⟩ 1 1 [Value.int .u8 92] rfl rfl (news1 _ _) (one1 _) (by rw [hl9]; unfold maxLen; omega) (by rw [hl9]; omega) (by simp; omega) ?_; intro va' v1 oa1 gr1 nil1 at1; have OA1 := Lib.hid (And.intro oa1 (And.intro gr1 (And.intro nil1 at1))); clear oa1 gr1 nil1 at1; have ob1 := (OwnK.alloc HOB.out (.cells #[Value.int .u8 92] 5)).kept OA1.out.2.1 (Ne.symm HAB.out); have OB1 := Lib.hid ob1; clear ob1; have hDv : D ≤ v1.heap.size := Nat.le_trans (by simp; omega) OA1.out.2.1.size)
          | (at_builtin; refine wpList_append_own_at _ rfl (.tmp 55) (.tmp 58) 32 rfl D 5 i0 (.int .u8 0) 1 1 Try.underlying32 HJ.out.1 HJ.out.2.1 HJ.out.2.2.1 HJ.out.2.2.2 rfl (by decide) _ _ _ rfl (OB1.out.1.alloc _) ⟨v1.heap.size, 0, none⟩ 1 1 [Value.int .u8 54] rfl rfl (news1 _ _) (one1 _) (by rw [hl5]; unfold maxLen; omega) (by rw [hl5]; omega) (by simp; omega) ?_; intro vb' v2 ob2 gr2 nil2 at2; have OB2 := Lib.hid (And.intro ob2 (And.intro gr2 (And.intro nil2 at2))); clear ob2 gr2 nil2 at2))
        have na : va' ≠ .slice none 0 0 := fun h => HOA.out.2 (OA1.out.2.2.1.1 h).1
        have nb : vb' ≠ .slice none 0 0 := fun h => HOB.out.2 (OB2.out.2.2.1.1 h).1
        obtain ⟨ga, ca, hga, hDa, hlta⟩ := HOA.out.slice
        obtain ⟨gb, cb, hgb, hDb, hltb⟩ := HOB.out.slice
        have hz1 : wr.heap.size + 1 ≤ v1.heap.size := by have := OA1.out.2.1.size; simpa using this
        have e1 : va'.ownBlock ≠ u9.ownBlock := by
          rcases OA1.out.2.2.2 with h | h
          · rw [h]; exact HAB.out
          · rw [h, hgb]; simp [Value.ownBlock]; omega
        have e2 : va'.ownBlock ≠ vb'.ownBlock := by
          rcases OB2.out.2.2.2 with h | h
          · rw [h]; exact e1
          · rw [h]
            intro hh
            have h4 := (OA1.out.1.lt _ hh).2
            have h5 : ∀ o, v1.heap.size ≤ (v1.alloc o).heap.size := fun o => by simp
            exact absurd h4 (Nat.not_lt.2 (h5 _))
        have fa : OwnK v2 D va' (P9 ++ [0 ^^^ 92]) := ((OwnK.more HY.out.1 OA1.out.1 na).alloc _).kept OB2.out.2.1 e1
        have fb : OwnK v2 D vb' (P5 ++ [0 ^^^ 54]) := OwnK.more HY.out.2 (by rw [hl5] at *; exact OB2.out.1) nb
        have G1 : Below w.heap.size w v1 := (hbel.alloc hbel.size _).grown OA1.out.2.1 (by have := hbel.size; simp; omega) (fun g hg => by have := (HOA.out.1.lt g hg).1; omega)
        have G2 : Below w.heap.size w v2 := (G1.alloc G1.size _).grown OB2.out.2.1 (by have := G1.size; simp; omega) (fun g hg => by have := (OB1.out.1.lt g hg).1; omega)
        have hDv2 : D ≤ v2.heap.size := Nat.le_trans (by simp; omega) OB2.out.2.1.size
        rw [← HT.out.1] at fa
        rw [← HT.out.2] at fb
        clear G1 e1 hz1 hgb hga na nb
        go_roundw
        case rel => exact ⟨k + 1, by omega, by go_num, fa, fb, e2, G2, hDv2⟩
        case measure => simp [intOf]; omega
    · have hkk : k = 64 := by omega
      subst hkk
      rw [List.take_of_length_le (by rw [HL9.out]; exact Nat.le_refl _)] at oa
      rw [List.take_of_length_le (by rw [HL5.out]; exact Nat.le_refl _)] at ob
      clear hlt hab hDw
      have hcb := OwnK.back (w := wr.drew) (show OwnK wr.drew D _ M5 from ob)
      have hca := OwnK.back (w := wr.drew) (show OwnK wr.drew D _ M9 from oa)
      have HOA := Lib.hid oa
      clear oa ob
      have hf1 : M5.length + s.size ≤ 9223372036854775807 := by rw [HL5.out]; omega
      have hf2 : M9.length + 32 ≤ 9223372036854775807 := by rw [HL9.out]; omega
      go_wp2_with fail
      go_region_with (first
        | (go_at_call 12; (with_reducible refine (A4h.out _).mono ?_); rintro e v4 ⟨rfl, c4⟩; have hcv4 := OwnK.back (OwnK.below (w := wr.drew) (show OwnK wr.drew D _ M9 from HOA.out) c4))
        | (go_at_call 12; (with_reducible refine (A5h.out _).mono ?_); rintro e v5 ⟨rfl, c5⟩))
      all_goals
        have E5 : Below wr.heap.size wr v5 := by
          have h4 : Below wr.heap.size wr v4 := ⟨c4.os, c4.tape, c4.output, c4.size, c4.block⟩
          exact h4.trans (c5.mono h4.size)
        have G5 : Below w.heap.size w v5 := hbel.trans (E5.mono hbel.size)
        clear E5 c4 c5 hcv4 hca hcb hf1 hf2 hbel
        have hz := keyZ_zero key
        have HZ := Lib.hid hz
        clear hz
        go_wp2_with fail
        go_loopw [12, 13] (fun lo j wr => ∃ m : Nat, key.size + m ≤ 64 ∧ lo = .string (keyZ key m) ∧ j = .int .i64 m ∧ Below w.heap.size w wr) (fun _ j _ => 64 - (intOf j).toNat)
        case atStart => exact ⟨0, by omega, by rw [HZ.out], rfl, G5⟩
        case round =>
          obtain ⟨m, hm, rfl, rfl, hb⟩ := hrel
          clear G5
          have hsz := keyZ_size key m
          by_cases h1 : (m : Int) < n
          · by_cases h2 : key.size + m < 64
            · have HN := Lib.hid (keyZ_next key m)
              have hf3 : key.size + m + 1 ≤ 9223372036854775807 := by omega
              generalize keyZ key m = KK at *
              go_wp2_with fail
              rw [HN.out]
              go_roundw
              case rel => exact ⟨m + 1, by omega, rfl, by go_num, hb⟩
              case measure => simp [intOf]; omega
            · have h2' : key.size + m = 64 := by omega
              rw [h2'] at hsz
              clear h2
              go_wp2_with (go_at_call 14; refine (A3h.out m _ (by omega)).mono ?_; rintro e v6 ⟨rfl, c6⟩)
              go_ret
              exact ⟨rfl, hb.trans (c6.mono hb.size)⟩
          · go_wp2_with (go_at_call 14; refine (A3h.out m _ (by omega)).mono ?_; rintro e v6 ⟨rfl, c6⟩)
            go_ret
            exact ⟨rfl, hb.trans (c6.mono hb.size)⟩

theorem hkeys_any (key s : ByteArray) (n : Int) (w : World) (hk : key.size ≤ 140737488351232) (hs : s.size ≤ 140737488351232) :
    Calls Try.prog 7 #[.string key, .string s, .int .i64 n] w fun e w' => e = .returned (.bool true) ∧ Below w.heap.size w w' := by
  by_cases h : key.size ≤ 64
  · exact keys_short key s n w h hs
  · exact keys_long key s n w (by omega) (by omega) (by omega)
end Go.Proofs.Ytdkhnklggidfpaa
