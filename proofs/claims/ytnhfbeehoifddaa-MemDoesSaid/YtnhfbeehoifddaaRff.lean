/- The document's memory: words loaded and stored through a table. Conditions: numbers that a machine holds. -/
import Derived.Test.YtnhfbeehoifddaaRfe
namespace Go.Proofs.Ytnhfbeehoifddaa
open Go.RowKit Go.Maps
set_option linter.unusedVariables false

theorem word_getD (s : Bts) (k : Nat) (hk : k < s.length) : word (s.take (k + 1)) = 256 * word (s.take k) + ((s.getD k 0).toNat : Int) := by
  rw [← word_snoc]
  congr 1
  rw [List.take_add_one, List.getD_eq_getElem?_getD, List.getElem?_eq_getElem hk]
  rfl
set_option maxHeartbeats 2000000 in
theorem rload_any (p g cap F : Nat) (B : Bts) (w : World) (h : IsR w p g cap F B) (G : Nat → Prop) (v : Value) (ps : List Pg) (ht : TabV G w v ps) (a n R : Int) (ha : In64 a) :
    Calls Try.prog 38 #[.pointer (some ⟨p, 0, none⟩), v, .int .i64 a, .int .i64 n, .int .i64 R] w fun e w' => e = .returned (.tuple #[.int .i64 (loadN F ps B a n R), .int .i64 (loadE F ps a n R)]) ∧ Below w.heap.size w w' := by
  have kc := rcheck_any p g cap F B w h G v ps ht
  obtain ⟨q, np, cap0, rfl⟩ : ∃ q n cap, v = .slice q n cap := by obtain ⟨q, cap, e, _⟩ := ht; exact ⟨_, _, _, e⟩
  have kw := rword_any n
  unfold loadN loadE
  by_cases c0 : chk F ps = 0
  · have ew : chkW F ps n = if n = 1 ∨ n = 2 ∨ n = 4 then 0 else 80 := by unfold chkW; rw [if_pos c0]
    rw [c0] at kc
    by_cases hn : n = 1 ∨ n = 2 ∨ n = 4
    · rw [if_pos hn] at ew
      rw [if_pos ew]
      rw [show decide (n = 1 ∨ n = 2 ∨ n = 4) = true by simp [hn]] at kw
      have HR : Hid (∀ W, Below w.heap.size w W → Calls Try.prog 36 #[.pointer (some ⟨p, 0, none⟩), .slice q np cap0, .int .i64 a, .int .i64 n, .int .i64 R] W fun e w' => e = .returned (.tuple #[.string (ofL (readS F ps B a n R)), .int .i64 (readE F ps a n R)]) ∧ Below W.heap.size W w') :=
        fun W hW => rread_any p g cap F B W (h.below hW) G _ ps (ht.below hW) a n R ha
      have hlen : (readS F ps B a n R).length ≤ 4 := by
        unfold readS
        split
        · rw [rd_len]; omega
        · simp
      have hsame : (if readE F ps a n R = 0 then word (readS F ps B a n R) else 0) = word (readS F ps B a n R) := by
        split
        · rfl
        · rename_i q; unfold readS; rw [if_neg q]; rfl
      rw [hsame]
      obtain ⟨s, hs⟩ : ∃ s, s = readS F ps B a n R := ⟨_, rfl⟩
      obtain ⟨x, hx⟩ : ∃ x, x = readE F ps a n R := ⟨_, rfl⟩
      rw [← hs] at hlen ⊢
      rw [← hx]
      have HS := Lib.hid (And.intro hs hx)
      obtain ⟨X, hX⟩ : ∃ X, X = ofL s := ⟨_, rfl⟩
      have hXz : X.size = s.length := by rw [hX, ofL_size]
      have HX := Lib.hid hX
      have HKW := Lib.hid kw
      clear h ht c0 hsame hs hx ew hn hX kw
      go_enter Try.func38, Try.ntmps38
      go_wp2_with (first
        | (go_at_call 17; refine kc.mono ?_; rintro e w' ⟨rfl, hb⟩; have HB := Lib.hid hb; clear kc hb)
        | (go_at_call 47; refine (HKW.out _).mono ?_; rintro e _ ⟨rfl, rfl⟩)
        | (go_at_call 36; refine (HR.out _ HB.out).mono ?_; rw [← HS.out.1, ← HS.out.2, ← HX.out]; rintro e w'' ⟨rfl, hb'⟩; have HB' := Lib.hid hb'; clear hb'))
      obtain ⟨L, hL⟩ : ∃ L, L = s.length := ⟨_, rfl⟩
      rw [← hL] at hXz hlen
      have HLL := Lib.hid hL
      clear hL
      go_loopw [14, 15] (fun y i wr => ∃ k : Nat, k ≤ L ∧ i = .int .i64 (k : Int) ∧ y = .int .i64 (word (s.take k)) ∧ wr = w'') (fun _ i _ => L - (intOf i).toNat)
      case atStart => exact ⟨0, Nat.zero_le _, rfl, rfl, rfl⟩
      case round =>
        obtain ⟨k, hk, rfl, rfl, rfl⟩ := hrel
        by_cases a0 : k < L
        · have hw4 := word_bound (s.take k)
          rw [List.length_take, Nat.min_eq_left (by rw [← HLL.out]; omega)] at hw4
          have hstep := word_getD s k (by rw [← HLL.out]; exact a0)
          have hY : X[k]'(by rw [hXz]; exact a0) = s.getD k 0 := by
            have hX := HX.out
            subst hX
            have hlt : k < s.length := by rw [← HLL.out]; exact a0
            rw [List.getD_eq_getElem?_getD, List.getElem?_eq_getElem hlt]
            rfl
          obtain ⟨Z, hZ⟩ : ∃ Z, Z = word (s.take k) := ⟨_, rfl⟩
          obtain ⟨bv, hbv⟩ : ∃ bv, bv = s.getD k 0 := ⟨_, rfl⟩
          have hb8 : bv.toNat < 256 := bv.toNat_lt
          have hZb : 0 ≤ Z ∧ Z < 16777216 := by
            rw [hZ]
            refine ⟨hw4.1, Int.lt_of_lt_of_le hw4.2 ?_⟩
            have : k = 0 ∨ k = 1 ∨ k = 2 ∨ k = 3 := by omega
            rcases this with rfl | rfl | rfl | rfl <;> decide
          rw [← hZ, ← hbv] at hstep
          rw [← hbv] at hY
          rw [← hZ]
          have HST := Lib.hid hstep
          clear hstep hZ hbv hw4
          go_wp2
          refine ⟨⟨k + 1, a0, rfl, ?_, trivial⟩, ?_⟩
          · rw [HST.out]
          · have z := a0
            simp [intOf]; omega
        · obtain rfl : k = L := by omega
          have hfull : word (s.take k) = word s := by rw [List.take_of_length_le (by rw [← HLL.out]; exact Nat.le_refl _)]
          rw [hfull]
          clear hfull
          go_wp2
          go_ret2
          exact ⟨rfl, HB.out.trans (HB'.out.mono HB.out.size)⟩
    · rw [if_neg hn] at ew
      rw [ew, if_neg (show ¬ (80 : Int) = 0 by decide), if_neg (show ¬ (80 : Int) = 0 by decide)]
      rw [show decide (n = 1 ∨ n = 2 ∨ n = 4) = false by simp; omega] at kw
      have HKW := Lib.hid kw
      clear h ht ew c0 kw
      go_enter Try.func38, Try.ntmps38
      go_wp2_with (first
        | (go_at_call 17; refine kc.mono ?_; rintro e w' ⟨rfl, hb⟩; have HB := Lib.hid hb; clear kc hb)
        | (go_at_call 47; refine (HKW.out _).mono ?_; rintro e _ ⟨rfl, rfl⟩))
      go_ret2
      exact ⟨rfl, HB.out⟩
  · have ew : chkW F ps n = chk F ps := by unfold chkW; rw [if_neg c0]
    rw [ew, if_neg c0, if_neg c0]
    clear h ht ew
    generalize chk F ps = x at *
    go_enter Try.func38, Try.ntmps38
    go_wp2_with (go_at_call 17; refine kc.mono ?_; rintro e w' ⟨rfl, hb⟩)
    go_ret2
    exact ⟨rfl, hb⟩
theorem and255 (a : Int) : bits .and .i64 a 255 = a % 256 := by
  show IntKind.i64.wrap ((BitVec.ofInt 64 a &&& BitVec.ofInt 64 255).toNat : Int) = _
  rw [BitVec.toNat_and, toNat_ofInt64]
  have e : (BitVec.ofInt 64 255).toNat = 2 ^ 8 - 1 := by decide
  rw [e, Nat.and_two_pow_sub_one_eq_mod, wrap_in (by omega)]
  omega
theorem byte_and (x : Int) (J : Nat) : bits .and .i64 (x / 2 ^ (8 * J)) 255 % 256 = ((UInt8.ofNat ((x / 256 ^ J) % 256).toNat).toNat : Int) := by
  rw [and255]
  have e : (2 : Int) ^ (8 * J) = 256 ^ J := by rw [Int.pow_mul]; rfl
  rw [e]
  generalize x / 256 ^ J = y
  rw [UInt8.toNat_ofNat']
  omega
/-- the first k of the n bytes of a word -/
def wfirst (n k : Nat) (x : Int) : Bts := (List.range k).map fun i => UInt8.ofNat ((x / 256 ^ (n - 1 - i)) % 256).toNat
theorem wfirst_succ (n k : Nat) (x : Int) : wfirst n (k + 1) x = wfirst n k x ++ [UInt8.ofNat ((x / 256 ^ (n - 1 - k)) % 256).toNat] := by simp [wfirst, List.range_succ]
theorem wfirst_all (n : Nat) (x : Int) : wfirst n n x = wbytes n x := rfl
set_option maxRecDepth 100000 in
set_option maxHeartbeats 4000000 in
theorem rstore_any (p g cap F : Nat) (B : Bts) (w : World) (h : IsR w p g cap F B) (G : Nat → Prop) (hGg : ¬ G g) (v : Value) (ps : List Pg) (ht : TabV G w v ps) (a n x : Int) (ha : In64 a) (hx : In64 x) :
    Calls Try.prog 39 #[.pointer (some ⟨p, 0, none⟩), v, .int .i64 a, .int .i64 n, .int .i64 x] w fun e w' => e = .returned (.int .i64 (storeE F ps a n)) ∧ IsR w' p g cap F (storeB F ps B a n x) ∧ Ch (onB g) w w' := by
  have kc := rcheck_any p g cap F B w h G v ps ht
  obtain ⟨q, np, cap0, rfl⟩ : ∃ q n cap, v = .slice q n cap := by obtain ⟨q, cap, e, _⟩ := ht; exact ⟨_, _, _, e⟩
  have kw := rword_any n
  by_cases c0 : chk F ps = 0
  · have ew : chkW F ps n = if n = 1 ∨ n = 2 ∨ n = 4 then 0 else 80 := by unfold chkW; rw [if_pos c0]
    rw [c0] at kc
    by_cases hn : n = 1 ∨ n = 2 ∨ n = 4
    · rw [if_pos hn] at ew
      rw [show decide (n = 1 ∨ n = 2 ∨ n = 4) = true by simp [hn]] at kw
      obtain ⟨m, rfl⟩ : ∃ m : Nat, n = (m : Int) := ⟨n.toNat, by omega⟩
      have e1 : storeE F ps a m = writeE F ps a m := by unfold storeE; rw [if_pos ew, Int.toNat_natCast]
      have e2 : storeB F ps B a m x = writeB F ps B a (wbytes m x) := by unfold storeB writeB; rw [e1, wbytes_len, Int.toNat_natCast]
      rw [e1, e2]
      have HR : Hid (∀ W, Below w.heap.size w W → Calls Try.prog 37 #[.pointer (some ⟨p, 0, none⟩), .slice q np cap0, .int .i64 a, .string (ofL (wbytes m x))] W fun e w' => e = .returned (.int .i64 (writeE F ps a m)) ∧ IsR w' p g cap F (writeB F ps B a (wbytes m x)) ∧ Ch (onB g) W w') :=
        fun W hW => by
          have := rwrite_any p g cap F B W (h.below hW) G hGg _ ps (ht.below hW) a (ofL (wbytes m x)) ha (by rw [ofL_size, wbytes_len]; omega)
          rw [ofL_size, wbytes_len, ofL_list] at this
          exact this
      have hm4 : 1 ≤ m ∧ m ≤ 4 := by omega
      obtain ⟨i0, hi1, hi2, hi3, hi4⟩ := info_parts Try.info5
      have HI := Lib.hid (And.intro hi1 (And.intro hi2 (And.intro hi3 hi4)))
      have HE := Lib.hid (And.intro hx hn)
      have HKW := Lib.hid kw
      clear h ht c0 e1 e2 ew kw hi1 hi2 hi3 hi4 hGg hn
      go_enter Try.func39, Try.ntmps39
      go_wp2_with (first
        | (go_at_call 17; refine kc.mono ?_; rintro e w' ⟨rfl, hb⟩; have HB := Lib.hid hb; clear kc hb)
        | (go_at_call 47; refine (HKW.out _).mono ?_; rintro e _ ⟨rfl, rfl⟩))
      obtain ⟨b0, hb0⟩ : ∃ b0, b0 = w'.heap.size := ⟨_, rfl⟩
      obtain ⟨w3, hw3⟩ : ∃ w3, w3 = w'.alloc (.cells #[] 5) := ⟨_, rfl⟩
      have hs2 : w.heap.size ≤ b0 := by rw [hb0]; exact HB.out.size
      have hb3 : Below w.heap.size w w3 := by rw [hw3]; exact HB.out.alloc HB.out.size _
      have hz3 : b0 ≤ w3.heap.size := by rw [hw3, hb0]; simp
      have ho3 : w3.ownsRow b0 5 1 (.slice (some ⟨b0, 0, none⟩) 0 0) 0 ((wfirst m 0 x).map cellB) := by
        rw [hw3, hb0]
        exact ⟨by simp [wfirst], .inr ⟨w'.heap.size, 0, #[], rfl, Nat.le_refl _, block_new _ _, Nat.le_refl _, Nat.zero_le _, by simp, by simp [wfirst]⟩⟩
      rw [← hw3, ← hb0]
      have HW := Lib.hid (And.intro hb3 (And.intro ho3 (And.intro hs2 hz3)))
      clear hs2 hb3 hz3 ho3 hw3 hb0
      go_loopw [12, 13] (fun v i wr => ∃ (k gg cc : Nat) (I : Int), k ≤ m ∧ I = (m : Int) - 1 - k ∧ i = .int .i64 I ∧ v = .slice (some ⟨gg, 0, none⟩) k cc ∧ wr.ownsRow b0 5 1 (.slice (some ⟨gg, 0, none⟩) k cc) k ((wfirst m k x).map cellB) ∧ Below w.heap.size w wr ∧ b0 ≤ wr.heap.size) (fun _ i _ => (intOf i + 1).toNat)
      case atStart => exact ⟨0, b0, 0, _, Nat.zero_le _, by simp, rfl, rfl, HW.out.2.1, HW.out.1, HW.out.2.2.2⟩
      case round =>
        obtain ⟨k, gg, cc, I, hk, hI, rfl, rfl, hown, hbw, hsz⟩ := hrel
        by_cases a0 : 0 ≤ I
        · obtain ⟨J, rfl⟩ : ∃ J : Nat, I = (J : Int) := ⟨I.toNat, by omega⟩
          have hJ : J = m - 1 - k := by omega
          have n1 : IntKind.i64.wrap (8 * (J : Int)) = 8 * (J : Int) := wrap_in (by omega)
          have hJ3 : (J : Int) ≤ 3 := by omega
          have hby := byte_and x J
          have e1 : (wfirst m (k + 1) x).map cellB = (wfirst m k x).map cellB ++ [cellB (UInt8.ofNat ((x / 256 ^ J) % 256).toNat)] := by rw [wfirst_succ, List.map_append, hJ]; rfl
          obtain ⟨Y, hY⟩ : ∃ Y, Y = UInt8.ofNat ((x / 256 ^ J) % 256).toNat := ⟨_, rfl⟩
          rw [← hY] at hby e1
          have HOW : Hid (∀ j, (Value.slice (some ⟨gg, 0, none⟩) k cc).ownBlock = some j → b0 ≤ j) := fun j e => by
            rcases hown.2 with ⟨e2, _⟩ | ⟨g', _, _, e2, hb, _⟩
            · cases e2
            · injection e2 with e2; injection e2 with e2; injection e2 with e2
              have : gg = j := by simpa [Value.ownBlock] using e
              omega
          have HR2 := Lib.hid (And.intro hown (And.intro hbw (And.intro hsz (And.intro hI (And.intro hJ e1)))))
          have hkk : Hid (k < m) := by show k < m; omega
          clear hown hbw hsz hI hJ e1 hY
          go_wp2_with (at_builtin; refine wpList_append_own_at _ rfl (.tmp 30) (.tmp 37) 65 rfl b0 5 i0 (.int .u8 0) 1 1 Try.underlying65 HI.out.1 HI.out.2.1 HI.out.2.2.1 HI.out.2.2.2 rfl (by decide) _ _ _ rfl (HR2.out.1.alloc _) ⟨wr.heap.size, 0, none⟩ 1 1 [Value.int .u8 (Y.toNat : Int)] rfl rfl (cell_one_new _ _ _) (by simp [Value.oneCell']) (by unfold maxLen; omega) (by omega) (by have := HR2.out.2.2.1; simp; omega) ?_; intro v' w5 hown' hgrow hnil hloc; (have hb5 : Below w.heap.size w w5 := (HR2.out.2.1.alloc HR2.out.2.1.size _).grown hgrow (by have := HR2.out.2.1.size; simp; omega) (fun j e => Nat.le_trans HW.out.2.2.1 (HOW.out j e))); (have HF := Lib.hid (And.intro hown' (And.intro hb5 (And.intro hnil hgrow.size)))); clear hown' hb5 hgrow hnil hloc)
          obtain ⟨o1, o2, o3, o4⟩ := HF.out
          change w5.ownsRow b0 5 1 v' (k + 1) ((wfirst m k x).map cellB ++ [cellB Y]) at o1
          rw [← HR2.out.2.2.2.2.2] at o1
          obtain ⟨g', c', rfl⟩ : ∃ g' c', v' = .slice (some ⟨g', 0, none⟩) (k + 1) c' := by
            rcases o1.2 with ⟨e, _⟩ | ⟨g', c', _, e, _⟩
            · rw [e] at o3; simp at o3
            · exact ⟨g', c', e⟩
          refine ⟨⟨k + 1, g', c', _, hkk.out, ?_, rfl, rfl, o1, o2, ?_⟩, ?_⟩
          · have := HR2.out.2.2.2.1; omega
          · have := HR2.out.2.2.1; rw [World.size_alloc] at o4; omega
          · simp [intOf]
        · obtain rfl : k = m := by omega
          obtain ⟨hrow, hl⟩ := row5 hown
          have hcv := hrow.string (w' := wr) 0 k cc (by omega)
          rw [List.drop_zero, List.take_of_length_le (by omega), wfirst_all] at hcv
          have kr := HR.out wr hbw
          have HF := Lib.hid hbw
          clear hown hbw hrow hl hsz hI
          go_wp2_with (go_at_call 37; refine kr.mono ?_; rintro e w4 ⟨rfl, k1, k2⟩; have HK := Lib.hid (And.intro k1 k2); clear k1 k2)
          go_ret
          exact ⟨rfl, HK.out.1, (Ch.of_below HF.out).trans (Gr.refl _ _ _) HK.out.2⟩
    · rw [if_neg hn] at ew
      have e1 : storeE F ps a n = 80 := by unfold storeE; rw [ew]; rfl
      have e2 : storeB F ps B a n x = B := by unfold storeB; rw [e1]; rfl
      rw [e1, e2]
      rw [show decide (n = 1 ∨ n = 2 ∨ n = 4) = false by simp; omega] at kw
      have HKW := Lib.hid kw
      have H := Lib.hid h
      clear h ht ew c0 kw e1 e2 hGg
      go_enter Try.func39, Try.ntmps39
      go_wp2_with (first
        | (go_at_call 17; refine kc.mono ?_; rintro e w' ⟨rfl, hb⟩; have HB := Lib.hid hb; clear kc hb)
        | (go_at_call 47; refine (HKW.out _).mono ?_; rintro e _ ⟨rfl, rfl⟩))
      go_ret
      exact ⟨rfl, H.out.below HB.out, Ch.of_below HB.out⟩
  · have ew : chkW F ps n = chk F ps := by unfold chkW; rw [if_neg c0]
    have e1 : storeE F ps a n = chk F ps := by unfold storeE; rw [ew, if_neg c0]
    have e2 : storeB F ps B a n x = B := by unfold storeB; rw [e1, if_neg c0]
    rw [e1, e2]
    have H := Lib.hid h
    clear h ht ew e1 e2 hGg
    generalize chk F ps = y at *
    go_enter Try.func39, Try.ntmps39
    go_wp2_with (go_at_call 17; refine kc.mono ?_; rintro e w' ⟨rfl, hb⟩)
    go_ret
    exact ⟨rfl, H.out.below hb, Ch.of_below hb⟩
end Go.Proofs.Ytnhfbeehoifddaa
