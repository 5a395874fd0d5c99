/- Words stored through a table. Conditions: numbers that a machine holds. -/
import Derived.Test.YtedhefidfepclaaLdw
namespace Go.Proofs.Ytedhefidfepclaa
open Go.RowKit Go.Maps
set_option linter.unusedVariables false

/-- the bytes of a word, the highest first -/
def wbytes (n : Nat) (x : Int) : Bts := (List.range n).map fun i => UInt8.ofNat ((x / 256 ^ (n - 1 - i)) % 256).toNat
theorem wbytes_len (n : Nat) (x : Int) : (wbytes n x).length = n := by simp [wbytes]
def storeE (F : Nat) (ps : List Pg) (a n : Int) : Int := if chkW F ps n = 0 then writeE F ps a n.toNat else chkW F ps n
def storeB (F : Nat) (ps : List Pg) (B : Bts) (a n x : Int) : Bts := if storeE F ps a n = 0 then wr ps a (wbytes n.toNat x) B else B
/-- a byte of a row is stored -/
theorem RowB.put {t : TypeId} {w : World} {g cap : Nat} {l : Bts} (h : RowB t w g cap l) (i : Nat) (hi : i < l.length) (b : UInt8) : RowB t (w.setCell ⟨g, i, none⟩ (cellB b)) g cap (l.set i b) := by
  obtain ⟨cur, fr, h1, h2, h3, h4, h5⟩ := h
  refine ⟨cur.setIfInBounds i (cellB b), fr, block_setCell h1, ?_, by simpa using h3, by simpa using h4, ?_⟩
  · unfold Past at *; simpa using h2
  · rw [Array.toList_setIfInBounds, List.length_set, List.take_set, h5, List.map_set]
/-- the last k of the bytes are there -/
def wpart (n k : Nat) (x : Int) : Bts := (List.range n).map fun i => if n - k ≤ i then UInt8.ofNat ((x / 256 ^ (n - 1 - i)) % 256).toNat else 0
theorem wpart_len (n k : Nat) (x : Int) : (wpart n k x).length = n := by simp [wpart]
theorem wpart_all (n : Nat) (x : Int) : wpart n n x = wbytes n x := by
  unfold wpart wbytes
  apply List.map_congr_left
  intro i _
  rw [if_pos (by omega)]
theorem wpart_none (n : Nat) (x : Int) : wpart n 0 x = List.replicate n 0 := by
  apply List.ext_getElem?
  intro i
  unfold wpart
  rw [List.getElem?_map, List.getElem?_replicate]
  by_cases h : i < n
  · rw [List.getElem?_range h, if_pos h, Option.map_some, if_neg (by omega)]
  · rw [List.getElem?_eq_none (by simpa using h), if_neg h]; rfl
theorem wpart_step {n k : Nat} (x : Int) (hk : k < n) : wpart n (k + 1) x = (wpart n k x).set (n - 1 - k) (UInt8.ofNat ((x / 256 ^ k) % 256).toNat) := by
  apply List.ext_getElem?
  intro i
  rw [List.getElem?_set]
  unfold wpart
  rw [List.getElem?_map, List.getElem?_map, List.length_map, List.length_range]
  by_cases h : i < n
  · rw [List.getElem?_range h]
    by_cases e : n - 1 - k = i
    · subst e
      rw [if_pos rfl, if_pos h, Option.map_some, if_pos (by omega), show n - 1 - (n - 1 - k) = k by omega]
    · rw [if_neg e, Option.map_some, Option.map_some]
      congr 1
      by_cases f : n - k ≤ i
      · rw [if_pos f, if_pos (by omega)]
      · rw [if_neg f, if_neg (by omega)]
  · rw [List.getElem?_eq_none (by simpa using h), if_neg (show ¬ n - 1 - k = i by omega)]; rfl
theorem byte_eq (x : Int) (k : Nat) : Value.int .u8 (x / 2 ^ (8 * k) % 256) = cellB (UInt8.ofNat ((x / 256 ^ k) % 256).toNat) := by
  unfold cellB
  have e : (2 : Int) ^ (8 * k) = 256 ^ k := by rw [Int.pow_mul]; rfl
  rw [e]
  congr 1
  generalize x / 256 ^ k = y
  rw [UInt8.toNat_ofNat']
  omega
theorem made_u8 (n : Nat) : (madeCells (Value.int .u8 0).cells (n * 1)).toList = (List.replicate (n * 1) (0 : UInt8)).map cellB := by
  apply List.ext_getElem?
  intro i
  rw [Nat.mul_one]
  unfold madeCells
  rw [List.getElem?_map, List.getElem?_replicate, Array.getElem?_toList]
  by_cases h : i < n
  · rw [if_pos h, Array.getElem?_eq_getElem (by simpa using h)]
    simp only [Array.getElem_map, Array.getElem_range, Option.map_some]
    show some ((Value.int IntKind.u8 0).cells[i % 1]!) = _
    rw [Nat.mod_one]
    rfl
  · rw [if_neg h, Array.getElem?_eq_none (by simpa using h)]; rfl
set_option maxRecDepth 20000 in
set_option maxHeartbeats 2000000 in
theorem store_any (p g cap F : Nat) (B : Bts) (w : World) (h : IsM w p g cap F B) (G : Nat → Prop) (hGg : ¬ G g) (v : Value) (ps : List Pg) (ht : TabV G w v ps) (a n x : Int) (ha : In64 a) (hx : In64 x) :
    Calls Try.prog 73 #[.pointer (some ⟨p, 0, none⟩), v, .int .i64 a, .int .i64 n, .int .i64 x] w fun e w' => e = .returned (.int .i64 (storeE F ps a n)) ∧ IsM w' p g cap F (storeB F ps B a n x) ∧ Ch (onB g) w w' := by
  have kc := checkw_any p g cap F B w h G v ps ht n
  obtain ⟨q, np, cap0, rfl⟩ : ∃ q n cap, v = .slice q n cap := by obtain ⟨q, cap, e, _⟩ := ht; exact ⟨_, _, _, e⟩
  by_cases c0 : chkW F ps n = 0
  · have hn : n = 1 ∨ n = 2 ∨ n = 4 := by
      unfold chkW at c0
      split at c0
      · split at c0
        · assumption
        · cases c0
      · contradiction
    obtain ⟨m, rfl⟩ : ∃ m : Nat, n = (m : Int) := ⟨n.toNat, by omega⟩
    have e1 : storeE F ps a m = writeE F ps a m := by unfold storeE; rw [if_pos c0, Int.toNat_natCast]
    have e2 : storeB F ps B a m x = writeB F ps B a (wbytes m x) := by unfold storeB writeB; rw [e1, wbytes_len, Int.toNat_natCast]
    rw [e1, e2]
    rw [c0] at kc
    have HR : Hid (∀ W, Below w.heap.size w W → Calls Try.prog 42 #[.pointer (some ⟨p, 0, none⟩), .slice q np cap0, .int .i64 a, .string (ofL (wbytes m x))] W fun e w' => e = .returned (.int .i64 (writeE F ps a m)) ∧ IsM w' p g cap F (writeB F ps B a (wbytes m x)) ∧ Ch (onB g) W w') :=
      fun W hW => by
        have := write_any p g cap F B W (h.below hW) G hGg _ ps (ht.below hW) a (ofL (wbytes m x)) ha (by rw [ofL_size, wbytes_len]; omega)
        rw [ofL_size, wbytes_len, ofL_list] at this
        exact this
    have hm4 : 1 ≤ m ∧ m ≤ 4 := by omega
    obtain ⟨i0, hi, hz0, hz1, hz2⟩ := info_parts Try.info5
    have HM : Hid (∀ W : World, ∃ w', (Instr.makeSlice 97 (.int .i64 (m : Int)) (.int .i64 (m : Int))).run Try.prog W = .ok (.slice (some ⟨W.heap.size, 0, none⟩) m m) w' ∧ RowB 5 w' W.heap.size m (wpart m 0 x) ∧ Below W.heap.size W w') := fun W => by
      obtain ⟨w', h1, h2, h3⟩ := run_makeSlice_full (P := Try.prog) W W.heap.size 97 5 i0 (.int .u8 0) 1 Try.underlying97 hi hz0 hz1 .i64 .i64 m (by omega) (by rw [hz2]; omega) (by unfold maxLen; omega) (Nat.le_refl _)
      refine ⟨w', h1, ?_, (Below.refl _ W).grown h3 (Nat.le_refl _) (fun j e => by cases e)⟩
      rcases h2.2 with ⟨e, _⟩ | ⟨g', c', cur, e, _, hg', hc1, _, hc3, hc4⟩
      · cases e
      · injection e with e1 _ e3
        injection e1 with e1
        injection e1 with e1
        subst e1 e3
        refine ⟨cur, (0, 0), hg', .inl rfl, by rw [wpart_len]; exact Nat.le_refl _, by omega, ?_⟩
        rw [wpart_len, ← Nat.mul_one m, hc4, wpart_none]
        exact made_u8 m
    have HE := Lib.hid (And.intro hx hn)
    clear h ht c0 e1 e2 hi hz0 hz1 hz2
    go_enter Try.func73, Try.ntmps73
    go_wp2_with (first
      | (go_at_call 101; refine kc.mono ?_; rintro e w' ⟨rfl, hb⟩; have HB := Lib.hid hb; obtain ⟨w3, hmk, hrow, hb3⟩ := HM.out w'; have HC := Lib.hid (And.intro hrow hb3); clear hrow hb3))
    obtain ⟨gb, hgb⟩ : ∃ gb, gb = w'.heap.size := ⟨_, rfl⟩
    have HC2 := HC
    rw [← hgb] at HC ⊢
    have HG := Lib.hid hgb
    have hb0 := HC.out.2
    have hr0 := HC.out.1
    have hlt0 := hr0.lt
    clear hgb hmk
    go_loopw [25] (fun i wr => ∃ k : Nat, k ≤ m ∧ i = .int .i64 (k : Int) ∧ RowB 5 wr gb m (wpart m k x) ∧ Below gb w' wr) (fun i _ => m - (intOf i).toNat)
    case atStart => exact ⟨0, Nat.zero_le _, rfl, hr0, hb0⟩
    case round =>
      obtain ⟨k, hk, rfl, hrow, hbw⟩ := hrel
      clear hb0 hr0 hlt0
      by_cases a0 : k < m
      · have hfr := hrow.free (m - 1 - k) (by rw [wpart_len]; omega)
        have hcl := hrow.cell (m - 1 - k) (by rw [wpart_len]; omega)
        have hst := hrow.put (m - 1 - k) (by rw [wpart_len]; omega) (UInt8.ofNat ((x / 256 ^ k) % 256).toNat)
        rw [← wpart_step x a0] at hst
        obtain ⟨i, hi⟩ : ∃ i, i = m - 1 - k := ⟨_, rfl⟩
        rw [← hi] at hfr hcl hst
        have HST := Lib.hid (And.intro hst (And.intro hrow (And.intro hbw hi)))
        have eidx : (m : Int) - 1 - k = (i : Int) := by omega
        clear hst hrow hbw hi
        have hG' : Hid (∀ v, Below gb w' (wr.setCell ⟨gb, i, none⟩ v)) := fun v => HST.out.2.2.1.setCell (p := ⟨gb, i, none⟩) (Nat.le_refl _) v
        go_wp2
        refine ⟨⟨k + 1, a0, rfl, ?_, hG'.out _⟩, ?_⟩
        · rw [byte_eq x k]; exact HST.out.1
        · have z := a0
          simp [intOf]; omega
      · obtain rfl : k = m := by omega
        have hcv := hrow.string (w' := wr) 0 k k (by rw [wpart_len]; omega)
        rw [List.drop_zero, wpart_all, List.take_of_length_le (by rw [wbytes_len]; exact Nat.le_refl _)] at hcv
        have hB : Below w.heap.size w wr := HB.out.trans (hbw.mono (by rw [HG.out]; exact HB.out.size))
        have kr := HR.out wr hB
        have HF := Lib.hid hB
        clear hrow hbw hB
        go_wp2_with (go_at_call 42; refine kr.mono ?_; rintro e w4 ⟨rfl, k1, k2⟩)
        go_ret
        exact ⟨rfl, k1, (Ch.of_below HF.out).trans (Gr.refl _ _ _) k2⟩
  · have e1 : storeE F ps a n = chkW F ps n := by unfold storeE; rw [if_neg c0]
    have e2 : storeB F ps B a n x = B := by unfold storeB; rw [e1, if_neg c0]
    rw [e1, e2]
    have H := Lib.hid h
    clear h ht e1 e2
    generalize chkW F ps n = y at *
    go_enter Try.func73, Try.ntmps73
    go_wp2_with (go_at_call 101; refine kc.mono ?_; rintro e w' ⟨rfl, hb⟩)
    go_ret
    exact ⟨rfl, H.out.below hb, Ch.of_below hb⟩
end Go.Proofs.Ytedhefidfepclaa
