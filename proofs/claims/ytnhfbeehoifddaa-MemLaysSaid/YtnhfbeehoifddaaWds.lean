/- A word is its bytes: what the law's call returns. Conditions: numbers that a machine holds. -/
import Derived.Test.YtnhfbeehoifddaaRgt
import Derived.Deep.RegionHeld3
namespace Go.Proofs.Ytnhfbeehoifddaa
open Go.RowKit Go.Maps
set_option linter.unusedVariables false

theorem and255 (x : Int) : bits .and .i64 x 255 = x % 256 := by
  show IntKind.i64.wrap ((BitVec.ofInt 64 x &&& BitVec.ofInt 64 255).toNat : Int) = _
  rw [BitVec.toNat_and, toNat_ofInt64, toNat_ofInt64]
  have e : ((255 : Int) % 18446744073709551616).toNat = 2 ^ 8 - 1 := by decide
  rw [e, Nat.and_two_pow_sub_one_eq_mod, wrap_in (by omega)]
  omega
def isW (n : Nat) : Prop := n = 1 ∨ n = 2 ∨ n = 4
theorem store_eq {n : Nat} (hn : isW n) (F : Nat) (ps : List Pg) (B : Bts) (a x : Int) : storeE F ps a n = writeE F ps a n ∧ storeB F ps B a n x = writeB F ps B a (wbytes n x) := by
  have e : storeE F ps a n = writeE F ps a n := by
    unfold storeE chkW
    by_cases c : chk F ps = 0
    · have hn' : (n : Int) = 1 ∨ (n : Int) = 2 ∨ (n : Int) = 4 := by unfold isW at hn; omega
      rw [if_pos c, if_pos hn', if_pos rfl, Int.toNat_natCast]
    · rw [if_neg c, if_neg c]
      unfold writeE
      rw [if_neg c]
  refine ⟨e, ?_⟩
  unfold storeB writeB
  rw [e, wbytes_len, Int.toNat_natCast]
theorem load_eq {n : Nat} (hn : isW n) (F : Nat) (ps : List Pg) (B : Bts) (a R : Int) : loadE F ps a n R = readE F ps a n R ∧ loadN F ps B a n R = word (readS F ps B a n R) := by
  have e : loadE F ps a n R = readE F ps a n R := by
    unfold loadE chkW
    by_cases c : chk F ps = 0
    · have hn' : (n : Int) = 1 ∨ (n : Int) = 2 ∨ (n : Int) = 4 := by unfold isW at hn; omega
      rw [if_pos c, if_pos hn', if_pos rfl]
    · rw [if_neg c, if_neg c]
      unfold readE
      rw [if_neg c]
  refine ⟨e, ?_⟩
  unfold loadN
  rw [e]
  split
  · rfl
  · rename_i q
    unfold readS
    rw [if_neg q]; rfl
theorem wbytes_take {n k : Nat} (x : Int) (hk : k < n) : (wbytes n x).take (k + 1) = (wbytes n x).take k ++ [UInt8.ofNat ((x / 2 ^ (8 * (n - 1 - k))) % 256).toNat] := by
  rw [List.take_add_one]
  congr 1
  have e : (2 : Int) ^ (8 * (n - 1 - k)) = 256 ^ (n - 1 - k) := by rw [Int.pow_mul]; rfl
  rw [e]
  unfold wbytes
  rw [List.getElem?_map, List.getElem?_range hk]
  rfl
set_option maxRecDepth 20000 in
set_option maxHeartbeats 4000000 in
theorem words_any (many : Int) (v : Value) (ps : List Pg) (a x : Int) (w : World) (hm : In64 many) (hps : PgOk w v ps) (ha : In64 a) (hx : In64 x) :
    Calls Try.prog 6 #[.int .i64 many, v, .agg #[.int .i64 a, .int .i64 x]] w fun e w' => e = .returned (.bool true) ∧ Below w.heap.size w w' := by
  obtain ⟨q, np, cap0, rfl⟩ : ∃ q n cap, v = .slice q n cap := by obtain ⟨q, cap, e, _⟩ := hps.1; exact ⟨_, _, _, e⟩
  obtain ⟨wa, hwa⟩ : ∃ wa, wa = w.alloc (.cells #[.int .i64 a, .int .i64 x] 64) := ⟨_, rfl⟩
  have ba : Below w.heap.size w wa := by rw [hwa]; exact (Below.refl _ w).alloc (Nat.le_refl _) _
  have cb : wa.heap[w.heap.size]? = some (.cells #[.int .i64 a, .int .i64 x] 64 (0, 0)) := by rw [hwa]; exact block_new _ _
  have c0 : wa.cell? ⟨w.heap.size, 0, none⟩ = some (.int .i64 a) := by rw [cell_of_row _ _ _ _ _ _ cb]; rfl
  have c1 : wa.cell? ⟨w.heap.size, 1, none⟩ = some (.int .i64 x) := by rw [cell_of_row _ _ _ _ _ _ cb]; rfl
  have kf := fixed_any
  have HA := Lib.hid (And.intro hps (And.intro hwa ba))
  rw [hwa] at c0 c1
  clear hps cb ba hwa
  go_enter Try.func6, Try.ntmps6
  go_wp2
  go_quiet (fail)
  rw [← HA.out.2.1]
  obtain ⟨wd, hwd⟩ : ∃ wd, wd = wa.drewN nq := ⟨_, rfl⟩
  have bd : Below w.heap.size w wd := by rw [hwd]; exact below_drewN HA.out.2.2 nq
  rw [← hwd]
  have HD := Lib.hid bd
  clear bd c0 c1 hwd
  by_cases h1 : 1 ≤ many ∧ many ≤ 160
  · obtain ⟨F, rfl⟩ : ∃ F : Nat, many = (F : Int) := ⟨many.toNat, by omega⟩
    have kn := new_any F wd (by omega)
    have HM := Lib.hid h1
    clear h1
    go_wp2_with (fail)
    refine kn.mono ?_
    rintro e v1 ⟨p, rfl, g, cap, a1, b1, hp, hg⟩
    have HN := Lib.hid (And.intro a1 (And.intro b1 (And.intro hp hg)))
    clear a1 b1 hp hg kn
    go_wp2_with (fail)
    refine (kf v1).mono ?_
    rintro e v2 ⟨rfl, b2⟩
    obtain ⟨a1, b1, hp, hg⟩ := HN.out
    have a2 := a1.below b2
    have g1 : Below w.heap.size w v2 := HD.out.trans ((b1.trans (b2.mono b1.size)).mono HD.out.size)
    have hg' : w.heap.size ≤ g ∧ w.heap.size ≤ p := by have := HD.out.size; omega
    have HS := Lib.hid (And.intro a2 (And.intro g1 hg'))
    clear a1 b1 hp hg a2 g1 b2 hg'
    go_wp2
    go_loopw [11] (fun i wr => ∃ n : Nat, (n = 1 ∨ n = 2 ∨ n = 4 ∨ n = 8) ∧ i = .int .i64 (n : Int) ∧ ∃ B, IsM wr p g cap F B ∧ Below w.heap.size w wr) (fun i _ => 8 - (intOf i).toNat)
    case atStart => exact ⟨1, .inl rfl, rfl, _, HS.out.1, HS.out.2.1⟩
    case round =>
      obtain ⟨n, hn, rfl, B, i1, i2⟩ := hrel
      generalize wr = wo at *
      by_cases n8 : n = 8
      · subst n8
        go_wp2
        go_ret
        exact ⟨rfl, i2⟩
      · have hw : isW n := by unfold isW; omega
        have hn4 : 1 ≤ n ∧ n ≤ 4 := by omega
        have hn5 : (n : Int) ≤ 4 := by omega
        have hn6 : decide ((n : Int) ≤ 4) = true := by simp [hn5]
        have HI := Lib.hid (And.intro i1 (And.intro i2 (And.intro hn hw)))
        clear i1 i2 hn hw n8
        obtain ⟨b0, hb0⟩ : ∃ b0, b0 = wo.heap.size := ⟨_, rfl⟩
        obtain ⟨w1, hw1⟩ : ∃ w1, w1 = wo.alloc (.cells #[] 5) := ⟨_, rfl⟩
        have hb1 : Below b0 wo w1 := by rw [hw1, hb0]; exact (Below.refl _ wo).alloc (Nat.le_refl _) _
        have ho1 : w1.ownsRow b0 5 1 (.slice (some ⟨b0, 0, none⟩) 0 0) 0 (((wbytes n x).take 0).map cellB) := by
          rw [hw1, hb0]
          exact ⟨by simp, .inr ⟨wo.heap.size, 0, #[], rfl, Nat.le_refl _, block_new _ _, Nat.le_refl _, Nat.zero_le _, by simp, by simp⟩⟩
        obtain ⟨i0, hi1, hi2, hi3, hi4⟩ := info_parts Try.info5
        have HI0 := Lib.hid (And.intro hi1 (And.intro hi2 (And.intro hi3 hi4)))
        clear hi1 hi2 hi3 hi4
        go_wp2
        rw [← hw1, ← hb0]
        have HB := Lib.hid (And.intro hb1 (And.intro ho1 hb0))
        clear hb1 ho1 hb0 hw1
        go_loopw [12, 13] (fun v i wr => ∃ (k gg cc : Nat), k ≤ n ∧ i = .int .i64 ((n : Int) - 1 - (k : Int)) ∧ v = .slice (some ⟨gg, 0, none⟩) k cc ∧ wr.ownsRow b0 5 1 (.slice (some ⟨gg, 0, none⟩) k cc) k (((wbytes n x).take k).map cellB) ∧ Below b0 wo wr) (fun _ i _ => (intOf i + 1).toNat)
        case atStart => exact ⟨0, b0, 0, Nat.zero_le _, by simp, rfl, HB.out.2.1, HB.out.1⟩
        case round =>
          obtain ⟨k, gg, cc, hk, rfl, rfl, hown, hbw⟩ := hrel
          by_cases kn : k < n
          · obtain ⟨j, hj⟩ : ∃ j : Nat, j = n - 1 - k := ⟨_, rfl⟩
            have ej : (n : Int) - 1 - (k : Int) = (j : Int) := by omega
            have hstep := wbytes_take x kn
            rw [← hj] at hstep
            have e1 : ((wbytes n x).take (k + 1)).map cellB = ((wbytes n x).take k).map cellB ++ [.int .u8 (x / 2 ^ (8 * j) % 256)] := by
              rw [hstep, List.map_append]
              congr 1
              show [cellB (UInt8.ofNat (x / 2 ^ (8 * j) % 256).toNat)] = _
              have := byte_eq x j
              have e2 : (2 : Int) ^ (8 * j) = 256 ^ j := by rw [Int.pow_mul]; rfl
              rw [e2] at this ⊢
              rw [this]
            have h255 := and255 (x / 2 ^ (8 * j))
            have hjb : j ≤ 3 := by omega
            rw [ej]
            have HOW : Hid (∀ i, (Value.slice (some ⟨gg, 0, none⟩) k cc).ownBlock = some i → b0 ≤ i) := fun i e => by
              rcases hown.2 with ⟨e2, _⟩ | ⟨g', _, _, e2, hb, _⟩
              · cases e2
              · injection e2 with e2; injection e2 with e2; injection e2 with e2
                have : gg = i := by simpa [Value.ownBlock] using e
                omega
            have HR := Lib.hid (And.intro hown (And.intro hbw (And.intro e1 (And.intro (by rw [HB.out.2.2]; have := hbw.size; exact this : b0 ≤ wr.heap.size) (And.intro ej hj)))))
            clear hown hbw e1 hstep ej hj
            go_wp2_with (at_builtin; refine wpList_append_own_at _ rfl (.tmp 52) (.tmp 59) 65 rfl b0 5 i0 (.int .u8 0) 1 1 Try.underlying65 HI0.out.1 HI0.out.2.1 HI0.out.2.2.1 HI0.out.2.2.2 rfl (by decide) _ _ _ rfl (HR.out.1.alloc _) ⟨wr.heap.size, 0, none⟩ 1 1 [Value.int .u8 (x / 2 ^ (8 * j) % 256)] rfl rfl (cell_one_new _ _ _) (by simp [Value.oneCell']) (by unfold maxLen; omega) (by omega) (by have := HR.out.2.2.2.1; simp; omega) ?_; intro v' w5 hown' hgrow hnil hloc; (have hb5 : Below b0 wo w5 := (HR.out.2.1.alloc HR.out.2.2.2.1 _).grown hgrow (by have := HR.out.2.2.2.1; simp; omega) HOW.out); (have HF := Lib.hid (And.intro hown' (And.intro hb5 hnil))); clear hown' hb5 hgrow hnil hloc)
            obtain ⟨o1, o2, o3⟩ := HF.out
            rw [← HR.out.2.2.1] at o1
            obtain ⟨g', c', rfl⟩ : ∃ g' c', v' = .slice (some ⟨g', 0, none⟩) (k + 1) c' := by
              rcases o1.2 with ⟨e, _⟩ | ⟨g', c', _, e, _⟩
              · rw [e] at o3; simp at o3
              · exact ⟨g', c', e⟩
            have ej := HR.out.2.2.2.2.1
            refine ⟨⟨k + 1, g', c', kn, ?_, rfl, o1, o2⟩, ?_⟩
            · exact congrArg (Value.int .i64) (by omega)
            · have z := kn
              simp [intOf]
              try omega
          · obtain rfl : k = n := by omega
            rw [List.take_of_length_le (by rw [wbytes_len]; exact Nat.le_refl _)] at hown
            have hrow : RowB 5 wr gg cc (wbytes k x) := by
              rcases hown.2 with ⟨e2, _⟩ | ⟨g', cap', cur, e2, hb, hcur, hle, _, hsz, htk⟩
              · cases e2
              · injection e2 with e2 _ e4; injection e2 with e2; injection e2 with e2
                subst e2 e4
                exact ⟨cur, (0, 0), hcur, .inl rfl, by rw [wbytes_len]; exact hle, by omega, by rw [wbytes_len, ← Nat.mul_one k]; rw [Nat.mul_one] at htk ⊢; exact htk⟩
            have hgg : b0 ≤ gg := by
              rcases hown.2 with ⟨e2, _⟩ | ⟨g', _, _, e2, hb, _⟩
              · cases e2
              · injection e2 with e2; injection e2 with e2; injection e2 with e2; omega
            have ee : (k : Int) - 1 - (k : Int) = -1 := by omega
            rw [ee]
            have i1 := HI.out.1.below (by rw [HB.out.2.2] at hbw; exact hbw)
            have i2 : Below w.heap.size w wr := HI.out.2.1.trans (hbw.mono (by rw [HB.out.2.2]; exact HI.out.2.1.size))
            have kc := clone_any p g cap F B wr i1
            have hne : gg ≠ g ∧ gg ≠ p := by have := HI.out.1.lt; rw [HB.out.2.2] at hgg; omega
            have HX := Lib.hid (And.intro i1 (And.intro i2 (And.intro hrow hne)))
            clear hown hbw hrow hgg ee i1 i2 hne
            go_wp2_with (fail)
            refine kc.mono ?_
            rintro e u0 ⟨p2, rfl, g2, cap2, i6, b6, hp2, hg2⟩
            obtain ⟨i1, i2, hrow, hne⟩ := HX.out
            have hwk := HI.out.2.2.2
            have hps := HA.out.1
            obtain ⟨hg0, hp0⟩ := HS.out.2.2
            have hltm := i1.lt
            have hltr := hrow.lt
            have hwsz := i2.size
            have im : IsM u0.drew p g cap F B := (i1.below b6).of_heap rfl rfl
            have ix : IsM u0.drew p2 g2 cap2 F B := i6.of_heap rfl rfl
            have rw0 : RowB 5 u0.drew gg cc (wbytes k x) := (hrow.of_heap (b6.block gg hrow.lt)).of_heap rfl
            have bw0 : Below w.heap.size w u0.drew := by have := i2.trans (b6.mono i2.size); exact ⟨this.os, this.tape, this.output, this.size, this.block⟩
            obtain ⟨E, hE⟩ : ∃ E, E = writeE F ps a k := ⟨_, rfl⟩
            obtain ⟨B2, hB2⟩ : ∃ B2, B2 = writeB F ps B a (wbytes k x) := ⟨_, rfl⟩
            obtain ⟨X, hX⟩ : ∃ X, X = ofL (wbytes k x) := ⟨_, rfl⟩
            have hcv : ∀ W, RowB 5 W gg cc (wbytes k x) → (convert 65 9 (.slice (some ⟨gg, 0, none⟩) k cc)).run Try.prog W = .ok (.string X) W := fun W hr => by
              have := hr.string (w' := W) 0 k cc (by rw [wbytes_len]; omega)
              rw [List.drop_zero, List.take_of_length_le (by rw [wbytes_len]; exact Nat.le_refl _), ← hX] at this
              exact this
            have k29 : Calls Try.prog 29 #[.pointer (some ⟨p, 0, none⟩), .slice q np cap0, .int .i64 a, .int .i64 (k : Int), .int .i64 x] u0.drew fun e u1 => e = .returned (.int .i64 E) ∧ (convert 65 9 (.slice (some ⟨gg, 0, none⟩) k cc)).run Try.prog u1 = .ok (.string X) u1 ∧
                Calls Try.prog 27 #[.pointer (some ⟨p2, 0, none⟩), .slice q np cap0, .int .i64 a, .string X] u1 fun e u2 => e = .returned (.int .i64 E) ∧ (convert 65 9 (.slice (some ⟨gg, 0, none⟩) k cc)).run Try.prog u2 = .ok (.string X) u2 ∧
                Calls Try.prog 23 #[.pointer (some ⟨p, 0, none⟩)] u2 fun e u3 => ∃ ga ca, e = .returned (.slice (some ⟨ga, 0, none⟩) F ca) ∧ (convert 65 9 (.slice (some ⟨gg, 0, none⟩) k cc)).run Try.prog u3 = .ok (.string X) u3 ∧
                Calls Try.prog 23 #[.pointer (some ⟨p2, 0, none⟩)] u3 fun e u4 => ∃ gb cb, e = .returned (.slice (some ⟨gb, 0, none⟩) F cb) ∧ (convert 65 9 (.slice (some ⟨gg, 0, none⟩) k cc)).run Try.prog u4 = .ok (.string X) u4 ∧
                Calls Try.prog 22 #[.slice (some ⟨ga, 0, none⟩) F ca, .slice (some ⟨gb, 0, none⟩) F cb] u4 fun e u5 => e = .returned (.bool true) ∧ (convert 65 9 (.slice (some ⟨gg, 0, none⟩) k cc)).run Try.prog u5 = .ok (.string X) u5 ∧
                Hid (IsM u5 p g cap F B2 ∧ Below w.heap.size w u5) := by
              have ks := store_any p g cap F B u0.drew im (fun b => b < w.heap.size) (by omega) _ ps (hps.1.below bw0) a k x ha hx
              rw [(store_eq hwk F ps B a x).1, (store_eq hwk F ps B a x).2, ← hE, ← hB2] at ks
              refine ks.mono ?_
              rintro e u1 ⟨he, m1, c1⟩
              have r1 : RowB 5 u1 gg cc (wbytes k x) := rw0.of_heap (c1.block gg rw0.lt hne.1)
              have bw1 : Below w.heap.size w u1 := below_ch bw0 c1 bw0.size hg0
              have x1 : IsM u1 p2 g2 cap2 F B := ix.ch c1 (by omega) (by omega)
              refine ⟨he, hcv u1 r1, ?_⟩
              have kw := write_any p2 g2 cap2 F B u1 x1 (fun b => b < w.heap.size) (by omega) _ ps (hps.1.below bw1) a X ha (by rw [hX, ofL_size, wbytes_len]; omega)
              have eX1 : X.size = k := by rw [hX, ofL_size, wbytes_len]
              have eX2 : X.data.toList = wbytes k x := by rw [hX, ofL_list]
              rw [eX1, eX2, ← hE, ← hB2] at kw
              refine kw.mono ?_
              rintro e u2 ⟨he, x2, c2⟩
              have r2 : RowB 5 u2 gg cc (wbytes k x) := r1.of_heap (c2.block gg r1.lt (show ¬ gg = g2 by omega))
              have bw2 : Below w.heap.size w u2 := below_ch bw1 c2 bw1.size (by omega)
              have m2 : IsM u2 p g cap F B2 := m1.ch c2 (by omega) (by omega)
              refine ⟨he, hcv u2 r2, ?_⟩
              refine (list_any p g cap F B2 u2 m2).mono ?_
              rintro e u3 ⟨va, he, sl3, b3⟩
              obtain ⟨ga, ca, cura, hva, q1, q2⟩ := sl3
              have sl3 : SL u3 va (fbytes B2 F) := ⟨ga, ca, cura, hva, q1, q2⟩
              rw [fbytes_len] at hva
              have r3 := r2.of_heap (b3.block gg r2.lt)
              have bw3 : Below w.heap.size w u3 := bw2.trans (b3.mono bw2.size)
              refine ⟨ga, ca, by rw [he, hva], hcv u3 r3, ?_⟩
              have m3 := m2.below b3
              refine (list_any p2 g2 cap2 F B2 u3 (x2.below b3)).mono ?_
              rintro e u4 ⟨vb, he, sl4, b4⟩
              obtain ⟨gb, cb, curb, hvb, q3, q4⟩ := sl4
              have sl4 : SL u4 vb (fbytes B2 F) := ⟨gb, cb, curb, hvb, q3, q4⟩
              rw [fbytes_len] at hvb
              have r4 := r3.of_heap (b4.block gg r3.lt)
              have bw4 : Below w.heap.size w u4 := bw3.trans (b4.mono bw3.size)
              refine ⟨gb, cb, by rw [he, hvb], hcv u4 r4, ?_⟩
              rw [← hva, ← hvb]
              refine (same_any va vb (fbytes B2 F) (by rw [fbytes_len]; exact m3.hi) u4 (sl3.below b4) sl4).mono ?_
              rintro e u5 ⟨he, b5⟩
              have r5 := r4.of_heap (b5.block gg r4.lt)
              exact ⟨he, hcv u5 r5, ⟨(m3.below b4).below b5, bw4.trans (b5.mono bw4.size)⟩⟩
            have hS0 := hcv u0.drew rw0
            clear i1 i2 hrow hne hwk hps hg0 hp0 hltm hltr hwsz im ix rw0 bw0 i6 b6 hp2 hg2 hcv hX kc
            have HE := Lib.hid (And.intro hE hB2)
            clear hE hB2
            go_wp2
            go_region_held3 (fun w' => (convert 65 9 (.slice (some ⟨gg, 0, none⟩) k cc)).run Try.prog w' = .ok (.string X) w') (first | exact hS0 | exact hS1 | exact hS2 | exact hS3 | exact hS4 | exact hS5)
              (first
                | (go_at_call 29; refine k29.mono ?_; rintro e u1 ⟨rfl, hS1, k27⟩; clear k29)
                | (go_at_call 27; refine k27.mono ?_; rintro e u2 ⟨rfl, hS2, k23⟩; clear k27)
                | (go_at_call 23; with_reducible refine k23.mono ?_; rintro e u3 ⟨ga, ca, rfl, hS3, k23b⟩; clear k23)
                | (go_at_call 23; with_reducible refine k23b.mono ?_; rintro e u4 ⟨gb, cb, rfl, hS4, k22⟩; clear k23b)
                | (go_at_call 22; refine k22.mono ?_; rintro e u5 ⟨rfl, hS5, HFN⟩; clear k22))
            clear hS0 hS1 hS2 hS3 hS4 hS5
            have kl := load_any p g cap F B2 u5 HFN.out.1 (fun b => b < w.heap.size) _ ps (HA.out.1.1.below HFN.out.2) a k 1 ha
            rw [(load_eq HI.out.2.2.2 F ps B2 a 1).1, (load_eq HI.out.2.2.2 F ps B2 a 1).2] at kl
            obtain ⟨RE, hRE⟩ : ∃ E, E = readE F ps a k 1 := ⟨_, rfl⟩
            obtain ⟨RS, hRS⟩ : ∃ S, S = readS F ps B2 a k 1 := ⟨_, rfl⟩
            have hlen : RS.length ≤ 4 := by
              rw [hRS]
              unfold readS
              split
              · rw [rd_len, Int.toNat_natCast]; exact hn4.2
              · simp
            rw [← hRE, ← hRS] at kl
            have HRR := Lib.hid (And.intro hRE hRS)
            clear hRE hRS
            go_wp2_with (fail)
            refine kl.mono ?_
            rintro e u6 ⟨rfl, b6⟩
            have f6 : Below w.heap.size w u6 := HFN.out.2.trans (b6.mono HFN.out.2.size)
            have kr := read_any p g cap F B2 u6 (HFN.out.1.below b6) (fun b => b < w.heap.size) _ ps (HA.out.1.1.below f6) a k 1 ha
            rw [← HRR.out.1, ← HRR.out.2] at kr
            have H6 := Lib.hid (And.intro (HFN.out.1.below b6) f6)
            clear b6 f6 kl
            go_wp2_with (fail)
            refine kr.mono ?_
            rintro e u7 ⟨rfl, b7⟩
            have H7 := Lib.hid (And.intro (H6.out.1.below b7) (H6.out.2.trans (b7.mono H6.out.2.size)))
            clear b7 kr
            obtain ⟨L, hL⟩ : ∃ L, L = RS.length := ⟨_, rfl⟩
            have hLs : (ofL RS).size = L := by rw [ofL_size, hL]
            have HL := Lib.hid hL
            rw [← hL] at hlen
            clear hL
            go_wp2
            go_loopw [19, 20] (fun y i wv => ∃ m : Nat, m ≤ L ∧ i = .int .i64 (m : Int) ∧ y = .int .i64 (word (RS.take m)) ∧ wv = u7) (fun _ i _ => L - (intOf i).toNat)
            case atStart => exact ⟨0, Nat.zero_le _, rfl, rfl, rfl⟩
            case round =>
              obtain ⟨m, hm2, rfl, rfl, rfl⟩ := hrel
              by_cases a0 : m < L
              · have hw4 := word_bound (RS.take m)
                rw [List.length_take, Nat.min_eq_left (by rw [← HL.out]; omega)] at hw4
                have hstep : word (RS.take (m + 1)) = 256 * word (RS.take m) + ((RS.getD m 0).toNat : Int) := by
                  rw [← word_snoc]
                  congr 1
                  rw [List.take_add_one, List.getD_eq_getElem?_getD, List.getElem?_eq_getElem (show m < RS.length by rw [← HL.out]; exact a0)]
                  rfl
                have hget : (ofL RS)[m]? = some (RS.getD m 0) := by
                  have hlt : m < RS.length := by rw [← HL.out]; exact a0
                  have hlt2 : m < (ofL RS).size := by rw [ofL_size]; exact hlt
                  rw [getElem?_pos (ofL RS) m hlt2]
                  congr 1
                  rw [List.getD_eq_getElem?_getD, List.getElem?_eq_getElem hlt]
                  rfl
                obtain ⟨Y, hY⟩ : ∃ Y, Y = word (RS.take m) := ⟨_, rfl⟩
                obtain ⟨bv, hbv⟩ : ∃ bv, bv = RS.getD m 0 := ⟨_, rfl⟩
                have hb8 : bv.toNat < 256 := bv.toNat_lt
                have hYb : 0 ≤ Y ∧ Y < 16777216 := by
                  rw [hY]
                  refine ⟨hw4.1, Int.lt_of_lt_of_le hw4.2 ?_⟩
                  have : m = 0 ∨ m = 1 ∨ m = 2 ∨ m = 3 := by omega
                  rcases this with rfl | rfl | rfl | rfl <;> decide
                rw [← hY, ← hbv] at hstep
                rw [← hbv] at hget
                rw [← hY]
                have HST := Lib.hid (And.intro hstep hY)
                clear hstep hY hbv hw4
                go_wp2
                refine ⟨⟨m + 1, a0, rfl, ?_, trivial⟩, ?_⟩
                · have hlt2 : m < (ofL RS).size := by rw [hLs]; exact a0
                  have hv : ((ofL RS)[m]'hlt2) = bv := by
                    rw [getElem?_pos (ofL RS) m hlt2] at hget
                    exact Option.some.inj hget
                  have w1 : wrap64 (bv.toNat : Int) = (bv.toNat : Int) := by unfold wrap64; omega
                  have w2 : wrap64 (256 * Y + (bv.toNat : Int)) = 256 * Y + (bv.toNat : Int) := by unfold wrap64; omega
                  rw [hv, w1, w2, HST.out.1]
                · have z := a0
                  simp [intOf]; omega
              · obtain rfl : m = L := by omega
                have ht : RS.take m = RS := List.take_of_length_le (by rw [← HL.out]; exact Nat.le_refl _)
                rw [ht]
                clear ht
                go_wp2
                refine ⟨⟨2 * k, ?_, ?_, B2, H7.out.1, H7.out.2⟩, ?_⟩
                · have := HI.out.2.2.2; unfold isW at this; omega
                · exact congrArg (Value.int .i64) (by omega)
                · simp [intOf]; omega
  · have kn := new_no many wd h1
    go_wp2_with (fail)
    refine kn.mono ?_
    rintro e _ ⟨rfl, rfl⟩
    go_wp2_with (fail)
    refine (kf wd).mono ?_
    rintro e v2 ⟨rfl, b2⟩
    go_wp2
    go_ret
    exact ⟨rfl, HD.out.trans (b2.mono HD.out.size)⟩
end Go.Proofs.Ytnhfbeehoifddaa
