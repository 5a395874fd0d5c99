/- Numbers and texts laid one behind the other are read as what they were, in their order, and then nothing is left; a byte more is told: the walk of the law. Conditions: the texts are together at most 2^30 bytes, the things at most 2^30. -/
import Derived.Test.YtjehjkibgaeibaaThg
import Derived.Test.YtjehjkibgaeibaaJnw
namespace Go.Proofs.Ytjehjkibgaeibaa
open Go.RowKit
set_option linter.unusedVariables false

theorem Try.info48 : (Try.prog.info? 48).map (fun i => (i.zero, i.size, i.bytes)) = some (some (.agg #[.int .i64 0, .int .i64 0, .string ⟨#[]⟩]), 3, 32) := by kernel_rfl

theorem owns_below {w w' : World} {B : Nat} {e : TypeId} {p : Nat} {u : Value} {m : Nat} {xs : List Value} (h : w.ownsRow B e p u m xs) (hb : Below w.heap.size w w') : w'.ownsRow B e p u m xs :=
  h.kept (gr_below hb none) (by cases u.ownBlock <;> simp)
theorem owns_drewN {w : World} {B : Nat} {e : TypeId} {p : Nat} {u : Value} {m : Nat} {xs : List Value} (h : w.ownsRow B e p u m xs) (n : Nat) : (w.drewN n).ownsRow B e p u m xs :=
  h.kept (gr_drewN (gr_refl _ none) n) (by cases u.ownBlock <;> simp)
theorem owns_drew {w : World} {B : Nat} {e : TypeId} {p : Nat} {u : Value} {m : Nat} {xs : List Value} (h : w.ownsRow B e p u m xs) : w.drew.ownsRow B e p u m xs :=
  h.kept (gr_drew (gr_refl _ none)) (by cases u.ownBlock <;> simp)
theorem put_no (n m : Int) (w : World) (hm : ¬ (1 ≤ m ∧ m ≤ 8)) :
    Calls Try.prog 13 #[.int .i64 n, .int .i64 m] w fun e w' => e = .returned (.string ⟨#[]⟩) ∧ Below w.heap.size w w' :=
  (put_none n m w hm).mono fun e w' ⟨h1, h2⟩ => ⟨h1, by rw [← h2]; exact Below.refl _ _⟩
theorem putS_some {n : Int} {m : Nat} (h : 1 ≤ m) : (putS n m).isEmpty = false := by
  cases hp : putS n m with
  | nil => have := congrArg List.length hp; rw [putS_length] at this; simp at this; omega
  | cons a l => rfl

theorem conv_owns {w : World} {B g cap : Nat} {A : List UInt8} (h : w.ownsRow B 5 1 (.slice (some ⟨g, 0, none⟩) A.length cap) A.length (A.map cellU)) :
    (convert 46 9 (.slice (some ⟨g, 0, none⟩) A.length cap)).run Try.prog w = .ok (.string ⟨A.toArray⟩) w :=
  run_convert_bytes_back (P := Try.prog) w 46 9 5 ⟨g, 0, none⟩ cap A Try.underlying46 Try.underlying5 Try.underlying9 (fun i hi => by
    rw [addr_add, World.ownsRow.cellAt h i (by omega)]
    simp [List.getElem?_eq_getElem hi, cellU])
theorem new_abs (s : ByteArray) (w : World) :
    Calls Try.prog 17 #[.string s] w fun e w' => e = .returned (.pointer (some ⟨w.heap.size, 0, none⟩)) ∧ Rdr w' w.heap.size s 0 0 ∧ Below w.heap.size w w' :=
  (new_any s w).mono fun e w' ⟨h1, h2⟩ => ⟨h1, by rw [h2]; exact newR, by rw [h2]; exact newG w⟩

theorem split_at {G : List Thg} {k : Nat} {x : Thg} (h : k < G.length) (hx : x = G[k]) : laid G = laid (G.take k) ++ (x.form ++ laid (G.drop (k + 1))) := by
  have e : G = G.take k ++ (x :: G.drop (k + 1)) := by
    rw [hx, ← List.drop_eq_getElem_cons h, List.take_append_drop]
  have h2 : laid (G.take k ++ (x :: G.drop (k + 1))) = laid (G.take k) ++ (x.form ++ laid (G.drop (k + 1))) := by unfold laid; simp
  rw [← e] at h2; exact h2
theorem next_at {G : List Thg} {k : Nat} {x : Thg} (h : k < G.length) (hx : x = G[k]) : (laid (G.take (k + 1))).length = (laid (G.take k)).length + x.form.length := by
  rw [List.take_succ_eq_append_getElem h, ← hx, laid_snoc, List.length_append]
theorem num_read {s : ByteArray} {pre post : List UInt8} {n w : Int} (hs : s.data.toList = pre ++ (putS n w.toNat ++ post)) (h1 : 1 ≤ w) (h8 : w ≤ 8) : numR s pre.length 0 w = (numS (putS n w.toNat), pre.length + w.toNat, 0) := by
  have hl : s.size = pre.length + (w.toNat + post.length) := by
    have := congrArg List.length hs
    rw [List.length_append, List.length_append, putS_length] at this
    simpa using this
  unfold numR
  rw [if_neg (by simp), if_neg (by omega), if_neg (by omega), hs, List.drop_left, List.take_left' (putS_length n w.toNat)]
theorem text_read {s : ByteArray} {pre post x : List UInt8} (hs : s.data.toList = pre ++ (textS x ++ post)) (hx : x.length ≤ 1024) : textR s pre.length 0 1024 = (⟨x.toArray⟩, pre.length + (2 + x.length), 0) := by
  have hl : s.size = pre.length + (2 + x.length + post.length) := by
    have := congrArg List.length hs
    unfold textS at this
    rw [List.length_append, List.length_append, List.length_append, putS_length] at this
    simpa using this
  have hd : s.data.toList.drop pre.length = putS (x.length : Nat) 2 ++ (x ++ post) := by
    rw [hs, List.drop_left]; unfold textS; rw [List.append_assoc]
  have hh : headN s pre.length = x.length := by
    unfold headN
    rw [hd, List.take_left' (putS_length _ 2)]
    have := be_putS (x.length : Nat) 2
    have h2 : ((256 : Int) ^ 2) = 65536 := by decide
    rw [h2] at this
    omega
  unfold textR
  rw [hh, if_neg (by simp), if_neg (by omega), if_neg (by omega), if_neg (by omega), if_neg (by omega)]
  congr 1
  apply ByteArray.ext
  apply Array.toList_inj.1
  have e := ext_list s (pre.length + 2) x.length
  rw [show pre.length + 2 + x.length = pre.length + (2 + x.length) by omega, ← List.drop_drop, hd, List.drop_left' (putS_length _ 2), List.take_left] at e
  rw [e]
theorem mask (n w : Int) (h1 : 1 ≤ w) (h8 : w < 8) : bits BinOp.and IntKind.i64 n (wrap64 (wrap64 (2 ^ (8 * w).toNat) - 1)) = n % 256 ^ w.toNat := by
  obtain ⟨m, rfl⟩ := Int.eq_ofNat_of_zero_le (show 0 ≤ w by omega)
  have e1 : (8 * (m : Int)).toNat = 8 * m := by omega
  rw [e1, Int.toNat_natCast, pow_8]
  have hm : m ≤ 7 := by omega
  have hp : 256 ^ m ≤ 256 ^ 7 := Nat.pow_le_pow_right (by decide) hm
  have hp0 : 0 < 256 ^ m := Nat.pow_pos (by decide)
  have h7 : (256 : Nat) ^ 7 = 72057594037927936 := by decide
  have hc : ((256 ^ m : Nat) : Int) = (256 : Int) ^ m := by simp
  have h2 : (256 : Nat) ^ m = 2 ^ (8 * m) := by rw [Nat.pow_mul]
  rw [← hc]
  generalize hP : (256 : Nat) ^ m = P at *
  have e2 : wrap64 (wrap64 (P : Int) - 1) = ((P - 1 : Nat) : Int) := by unfold wrap64; omega
  rw [e2]
  show IntKind.i64.wrap ((BitVec.ofInt 64 n &&& BitVec.ofInt 64 ((P - 1 : Nat) : Int)).toNat : Int) = _
  rw [BitVec.toNat_and, toNat_ofInt64, toNat_ofInt64]
  have e3 : (((P - 1 : Nat) : Int) % 18446744073709551616).toNat = P - 1 := by omega
  rw [e3, h2, Nat.and_two_pow_sub_one_eq_mod, ← h2, IntKind.wrap_i64]
  have hd : (P : Int) ∣ 18446744073709551616 := by
    have : (P : Nat) ∣ 256 ^ 8 := by rw [← hP]; exact Nat.pow_dvd_pow _ (by omega)
    have h9 : (256 : Nat) ^ 8 = 18446744073709551616 := by decide
    rw [h9] at this
    exact Int.natCast_dvd_natCast.2 this
  have e4 : ((((n % 18446744073709551616).toNat % P : Nat)) : Int) = n % P := by
    rw [Int.natCast_emod, Int.toNat_of_nonneg (by omega), Int.emod_emod_of_dvd _ hd]
  rw [e4]
  have b1 := Int.emod_nonneg n (b := (P : Int)) (by omega)
  have b2 := Int.emod_lt_of_pos n (b := (P : Int)) (by omega)
  omega
theorem a_size (A : List UInt8) : (⟨A.toArray⟩ : ByteArray).size = A.length := by show A.toArray.size = _; simp
theorem ax_list (A : List UInt8) : (⟨A.toArray⟩ ++ ⟨#[120]⟩ : ByteArray).data.toList = A ++ [120] := by simp
theorem size_list (s : ByteArray) : s.size = s.data.toList.length := by simp

namespace CodeBack
set_option maxRecDepth 100000 in
set_option maxHeartbeats 4000000 in
theorem walk (L : List Thg) (ao : Option Addr) (cap : Nat) (w : World) (hbl : bulk L ≤ 1073741824) (hlen : L.length ≤ 1073741824) (hops : ThgAt w ao L) (hwf : ∀ x ∈ L, -9223372036854775808 ≤ x.n ∧ x.n ≤ 9223372036854775807) :
    Calls Try.prog 5 #[.slice ao L.length cap] w fun e w' => e = .returned (.bool true) ∧ Below w.heap.size w w' := by
  obtain ⟨i0, hi, hz0, hz1, hz2⟩ := info_parts Try.info5
  obtain ⟨j0, ki, kz0, kz1, kz2⟩ := info_parts Try.info48
  obtain ⟨B, hB⟩ : ∃ B, B = w.heap.size := ⟨_, rfl⟩
  have hbs : B ≤ w.heap.size := by rw [hB]; exact Nat.le_refl _
  have HB := Lib.hid hB
  have HO := Lib.hid hops
  have HWL := Lib.hid hwf
  obtain ⟨len, hlen2⟩ : ∃ len, len = L.length := ⟨_, rfl⟩
  have HLen := Lib.hid hlen2
  rw [← hlen2] at hlen ⊢
  clear hB hops hlen2 hwf
  have HI := Lib.hid hi
  have HI0 := Lib.hid hz0
  have HI1 := Lib.hid hz1
  have HI2 := Lib.hid hz2
  have HK := Lib.hid ki
  have HK0 := Lib.hid kz0
  have HK1 := Lib.hid kz1
  have HK2 := Lib.hid kz2
  clear hi hz0 hz1 hz2 ki kz0 kz1 kz2
  go_enter Try.func5, Try.ntmps5
  go_wp2_with fail
  rw [← HB.out]
  go_loopw [3, 4, 5] (fun u v i wr => ∃ (k : Nat), k ≤ len ∧ i = .int .i64 (k : Int) ∧ Hid (wr.ownsRow B 5 1 u (laid (goods (L.take k))).length ((laid (goods (L.take k))).map cellU)) ∧ Hid (wr.ownsRow B 48 3 v (goods (L.take k)).length (rows (goods (L.take k)))) ∧ Hid (u ≠ .slice none 0 0) ∧ Hid (v ≠ .slice none 0 0) ∧ Below B w wr) (fun _ _ i _ => len - (intOf i).toNat)
  case atStart =>
    refine ⟨0, Nat.zero_le _, rfl, ?_, ?_, by unfold Hid; simp, by unfold Hid; simp, ?_⟩
    · unfold Hid
      have h := (World.ownsRow_made (base := B) (e := 5) (size := 1) w #[] 0 (by rw [HB.out]; exact Nat.le_refl _) (by decide) rfl).alloc (.cells #[] 48)
      rw [← HB.out] at h; exact h
    · unfold Hid
      have h := World.ownsRow_made (base := B) (e := 48) (size := 3) (w.alloc (.cells #[] 5)) #[] 0 (by rw [HB.out]; simp) (by decide) rfl
      rw [show (w.alloc (.cells #[] 5)).heap.size = B + 1 by rw [HB.out]; simp] at h; exact h
    · exact ((Below.refl _ _).alloc (by omega) _).alloc (by simp; omega) _
  case round =>
    obtain ⟨k, hk, rfl, O1, O2, N1, N2, G⟩ := hrel
    by_cases hlt : k < len
    · obtain ⟨ob, oo, rfl, hc0, hc1, hc2, hob⟩ := HO.out k (by rw [← HLen.out]; exact hlt)
      have hc0 := (G.cell (p := ⟨ob, oo + k * 3, none⟩) (by rw [HB.out]; exact hob)).trans hc0
      have hc1 := (G.cell (p := ⟨ob, oo + k * 3 + 1, none⟩) (by rw [HB.out]; exact hob)).trans hc1
      have hc2 := (G.cell (p := ⟨ob, oo + k * 3 + 2, none⟩) (by rw [HB.out]; exact hob)).trans hc2
      obtain ⟨x, hx⟩ : ∃ x, x = L[k]'(by rw [← HLen.out]; exact hlt) := ⟨_, rfl⟩
      rw [← hx] at hc0 hc1 hc2
      have HX := Lib.hid hx
      clear hx
      have hobr : ob < wr.heap.size := by have := G.size; omega
      have hobB : ob < B := by rw [HB.out]; exact hob
      have hkl : k < L.length := by rw [← HLen.out]; exact hlt
      have HT : Hid (L.take (k + 1) = L.take k ++ [x]) := by
        unfold Hid
        rw [List.take_succ_eq_append_getElem hkl, HX.out]
      by_cases hw : isW x.w = true
      · have hw2 := of_decide_eq_true hw
        have HG : Hid (goods (L.take (k + 1)) = goods (L.take k) ++ [x]) := by unfold Hid; rw [HT.out]; exact goods_yes (by unfold Thg.good; rw [hw]; rfl)
        have HF : Hid (x.form = putS x.n x.w.toNat) := if_pos hw
        obtain ⟨g1, g8⟩ := hw2
        have hne := putS_some (n := x.n) (m := x.w.toNat) (by omega)
        clear hw
        go_wp2_with fail
        go_region_held3 (fun w' => w'.cell? ⟨ob, oo + k * 3, none⟩ = some (.int .i64 x.n) ∧ w'.cell? ⟨ob, oo + k * 3 + 1, none⟩ = some (.int .i64 x.w)) (first | exact ⟨by assumption, by assumption⟩ | exact ⟨(Below.cell (by assumption) (by simp; omega)).trans (by assumption), (Below.cell (by assumption) (by simp; omega)).trans (by assumption)⟩ | (simp only [World.cell?_drewN]; exact ⟨by assumption, by assumption⟩))
          (first | (go_at_call 13; refine (put_int _ _ _ g1 g8).mono ?_; rintro y w1 ⟨rfl, b1⟩))
        have P1 := Lib.hid (owns_below (owns_drew O1.out) b1)
        have P2 := Lib.hid (owns_below (owns_drew O2.out) b1)
        have c0 : w1.cell? ⟨ob, oo + k * 3, none⟩ = some (.int .i64 x.n) := (b1.cell (by exact hobr)).trans hc0
        have c1 : w1.cell? ⟨ob, oo + k * 3 + 1, none⟩ = some (.int .i64 x.w) := (b1.cell (by exact hobr)).trans hc1
        have c2 : w1.cell? ⟨ob, oo + k * 3 + 2, none⟩ = some (.string x.s) := (b1.cell (by exact hobr)).trans hc2
        have G1 : Below B w w1 := G.drew.trans (b1.mono (by exact Nat.le_trans hbs G.size))
        clear b1 hc0 hc1 hc2 O1 O2
        have HFF : Hid (putS x.n x.w.toNat = x.form) := HF.out.symm
        clear HF
        generalize putS x.n x.w.toNat = F at *
        have HFl : F.length ≤ x.s.size + 8 := by rw [HFF.out]; exact form_le x
        have hbk := laid_le (L.take k)
        have hbk2 := bulk_take L k
        have hgl := goods_length (L.take k)
        have hgl2 : (L.take k).length ≤ k := by rw [List.length_take]; omega
        have hxs : x.s.size + 8 ≤ 1073741824 := by
          have h1 := bulk_append (L.take k) [x]
          have h2 := bulk_take L (k + 1)
          rw [HT.out] at h2
          have h3 : bulk [x] = x.s.size + 8 := by unfold bulk; simp
          omega
        have hG1s := G1.size
        have hsz1 : (⟨F.toArray⟩ : ByteArray).size = F.length := by show F.toArray.size = _; simp
        have HSZ := Lib.hid hsz1
        clear hsz1
        go_wp2_with (at_builtin; refine Lib.wpList_append_own_string _ rfl (.tmp 49) (.tmp 50) 46 9 rfl B 5 i0 Try.underlying46 Try.underlying9 HI.out HI0.out HI1.out HI2.out _ _ _ rfl P1.out ⟨F.toArray⟩ rfl ?c1 ?c2 ?c3 ?_)
        case c1 => rw [HSZ.out]; unfold maxLen; omega
        case c2 => rw [HSZ.out]; omega
        case c3 => omega
        intro v1 w2 own1 gr1 nil1
        have M1 : Hid (v1 ≠ .slice none 0 0) := fun e => N1.out (nil1.1 e).1
        have hlt1 := P1.out.lt
        have G2 : Below B w w2 := G1.grown gr1 (by omega) (fun j hj => (hlt1 j hj).1)
        have hob1 : some ob ≠ u3.ownBlock := fun e => by have := (hlt1 ob e.symm).1; omega
        have Q2 := Lib.hid (P2.out.kept gr1 (owns_two P2.out P1.out (by decide) N1.out))
        have d0 := gr1.cell c0 hob1
        have d1 := gr1.cell c1 hob1
        have d2 := gr1.cell c2 hob1
        try rw [HSZ.out] at own1
        have Q1 : Hid (w2.ownsRow B 5 1 v1 (laid (goods (L.take (k + 1)))).length ((laid (goods (L.take (k + 1)))).map cellU)) := by
          unfold Hid
          rw [HG.out, laid_snoc, List.length_append, List.map_append, ← HFF.out]
          exact own1
        have hG2s := G2.size
        clear own1 gr1 nil1 hlt1 c0 c1 c2 P1 P2 G1 hob1
        go_wp2_with (at_builtin; refine wpList_append_own _ rfl (.tmp 52) (.tmp 57) 45 rfl B 48 j0 _ 3 32 Try.underlying45 HK.out HK0.out HK1.out HK2.out rfl (by decide) _ _ _ rfl (Q2.out.alloc _) ⟨w2.heap.size, 0, none⟩ 1 1 x.cells rfl rfl ?k1 ?k2 ?k3 ?k4 ?k5 ?_)
        case k1 =>
          intro j u hj
          match j, hj with
          | 0, hj => simp [Thg.cells] at hj; subst hj; simp [Addr.add]
          | 1, hj => simp [Thg.cells] at hj; subst hj; simp [Addr.add]
          | 2, hj => simp [Thg.cells] at hj; subst hj; simp [Addr.add]
          | j + 3, hj => simp [Thg.cells] at hj
        case k2 =>
          intro u hu
          simp [Thg.cells] at hu
          rcases hu with rfl | rfl | rfl <;> rfl
        case k3 => unfold maxLen; omega
        case k4 => omega
        case k5 => simp; omega
        intro v2 w3 own2 gr2 nil2
        have M2 : Hid (v2 ≠ .slice none 0 0) := nil2
        have hlt2 := Q2.out.lt
        have G3 : Below B w w3 := (G2.alloc (by omega) _).grown gr2 (by simp; omega) (fun j hj => (hlt2 j hj).1)
        have Q3 : Hid (w3.ownsRow B 5 1 v1 (laid (goods (L.take (k + 1)))).length ((laid (goods (L.take (k + 1)))).map cellU)) := (Q1.out.alloc _).kept gr2 (owns_two Q1.out Q2.out (by decide) N2.out)
        have Q4 : Hid (w3.ownsRow B 48 3 v2 (goods (L.take (k + 1))).length (rows (goods (L.take (k + 1))))) := by
          unfold Hid
          rw [HG.out, rows_snoc, List.length_append]
          exact own2
        clear own2 gr2 nil2 hlt2 d0 d1 d2 Q1 Q2 G2
        go_wp2
        go_roundw
        case rel => exact ⟨k + 1, by omega, by go_num, Q3, Q4, M1, M2, G3⟩
        case measure => simp [intOf]; omega
      · have HW : Hid (¬ (1 ≤ x.w ∧ x.w ≤ 8)) := fun h => hw (isW_yes h.1 h.2)
        by_cases hsz : x.s.size ≤ 1024
        · have HG : Hid (goods (L.take (k + 1)) = goods (L.take k) ++ [x]) := by unfold Hid; rw [HT.out]; exact goods_yes (by unfold Thg.good; rw [decide_eq_true hsz, Bool.or_true])
          have HF : Hid (x.form = textS x.s.data.toList) := if_neg hw
          clear hw
          go_wp2_with fail
          go_region_held3 (fun w' => w'.cell? ⟨ob, oo + k * 3, none⟩ = some (.int .i64 x.n) ∧ w'.cell? ⟨ob, oo + k * 3 + 1, none⟩ = some (.int .i64 x.w)) (first | exact ⟨by assumption, by assumption⟩ | exact ⟨(Below.cell (by assumption) (by simp; omega)).trans (by assumption), (Below.cell (by assumption) (by simp; omega)).trans (by assumption)⟩ | (simp only [World.cell?_drewN]; exact ⟨by assumption, by assumption⟩))
            (first | (go_at_call 13; refine (put_no _ _ _ HW.out).mono ?_; rintro y w0 ⟨rfl, b0⟩))
          have e2 : w0.cell? ⟨ob, oo + k * 3 + 2, none⟩ = some (.string x.s) := (b0.cell (by exact hobr)).trans hc2
          go_wp2_with fail
          refine (puttext_any _ _ hsz).mono ?_
          rintro y w1 ⟨rfl, b1⟩
          have bb : Below wr.heap.size wr w1 := (show Below wr.heap.size wr w0 from ⟨b0.os, b0.tape, b0.output, b0.size, b0.block⟩).trans (b1.mono b0.size)
          have P1 := Lib.hid (owns_below O1.out bb)
          have P2 := Lib.hid (owns_below O2.out bb)
          have c0 : w1.cell? ⟨ob, oo + k * 3, none⟩ = some (.int .i64 x.n) := (bb.cell (by exact hobr)).trans hc0
          have c1 : w1.cell? ⟨ob, oo + k * 3 + 1, none⟩ = some (.int .i64 x.w) := (bb.cell (by exact hobr)).trans hc1
          have c2 : w1.cell? ⟨ob, oo + k * 3 + 2, none⟩ = some (.string x.s) := (bb.cell (by exact hobr)).trans hc2
          have G1 : Below B w w1 := G.trans (bb.mono (by exact Nat.le_trans hbs G.size))
          clear bb b0 b1 e2 hc0 hc1 hc2 O1 O2
          have HFF : Hid (textS x.s.data.toList = x.form) := HF.out.symm
          clear HF
          generalize textS x.s.data.toList = F at *
          have HFl : F.length ≤ x.s.size + 8 := by rw [HFF.out]; exact form_le x
          have hbk := laid_le (L.take k)
          have hbk2 := bulk_take L k
          have hgl := goods_length (L.take k)
          have hgl2 : (L.take k).length ≤ k := by rw [List.length_take]; omega
          have hxs : x.s.size + 8 ≤ 1073741824 := by
            have h1 := bulk_append (L.take k) [x]
            have h2 := bulk_take L (k + 1)
            rw [HT.out] at h2
            have h3 : bulk [x] = x.s.size + 8 := by unfold bulk; simp
            omega
          have hG1s := G1.size
          have hsz1 : (⟨F.toArray⟩ : ByteArray).size = F.length := by show F.toArray.size = _; simp
          have HSZ := Lib.hid hsz1
          clear hsz1
          go_wp2_with (at_builtin; refine Lib.wpList_append_own_string _ rfl (.tmp 49) (.tmp 50) 46 9 rfl B 5 i0 Try.underlying46 Try.underlying9 HI.out HI0.out HI1.out HI2.out _ _ _ rfl P1.out ⟨F.toArray⟩ rfl ?c1 ?c2 ?c3 ?_)
          case c1 => rw [HSZ.out]; unfold maxLen; omega
          case c2 => rw [HSZ.out]; omega
          case c3 => omega
          intro v1 w2 own1 gr1 nil1
          have M1 : Hid (v1 ≠ .slice none 0 0) := fun e => N1.out (nil1.1 e).1
          have hlt1 := P1.out.lt
          have G2 : Below B w w2 := G1.grown gr1 (by omega) (fun j hj => (hlt1 j hj).1)
          have hob1 : some ob ≠ u3.ownBlock := fun e => by have := (hlt1 ob e.symm).1; omega
          have Q2 := Lib.hid (P2.out.kept gr1 (owns_two P2.out P1.out (by decide) N1.out))
          have d0 := gr1.cell c0 hob1
          have d1 := gr1.cell c1 hob1
          have d2 := gr1.cell c2 hob1
          try rw [HSZ.out] at own1
          have Q1 : Hid (w2.ownsRow B 5 1 v1 (laid (goods (L.take (k + 1)))).length ((laid (goods (L.take (k + 1)))).map cellU)) := by
            unfold Hid
            rw [HG.out, laid_snoc, List.length_append, List.map_append, ← HFF.out]
            exact own1
          have hG2s := G2.size
          clear own1 gr1 nil1 hlt1 c0 c1 c2 P1 P2 G1 hob1
          go_wp2_with (at_builtin; refine wpList_append_own _ rfl (.tmp 52) (.tmp 57) 45 rfl B 48 j0 _ 3 32 Try.underlying45 HK.out HK0.out HK1.out HK2.out rfl (by decide) _ _ _ rfl (Q2.out.alloc _) ⟨w2.heap.size, 0, none⟩ 1 1 x.cells rfl rfl ?k1 ?k2 ?k3 ?k4 ?k5 ?_)
          case k1 =>
            intro j u hj
            match j, hj with
            | 0, hj => simp [Thg.cells] at hj; subst hj; simp [Addr.add]
            | 1, hj => simp [Thg.cells] at hj; subst hj; simp [Addr.add]
            | 2, hj => simp [Thg.cells] at hj; subst hj; simp [Addr.add]
            | j + 3, hj => simp [Thg.cells] at hj
          case k2 =>
            intro u hu
            simp [Thg.cells] at hu
            rcases hu with rfl | rfl | rfl <;> rfl
          case k3 => unfold maxLen; omega
          case k4 => omega
          case k5 => simp; omega
          intro v2 w3 own2 gr2 nil2
          have M2 : Hid (v2 ≠ .slice none 0 0) := nil2
          have hlt2 := Q2.out.lt
          have G3 : Below B w w3 := (G2.alloc (by omega) _).grown gr2 (by simp; omega) (fun j hj => (hlt2 j hj).1)
          have Q3 : Hid (w3.ownsRow B 5 1 v1 (laid (goods (L.take (k + 1)))).length ((laid (goods (L.take (k + 1)))).map cellU)) := (Q1.out.alloc _).kept gr2 (owns_two Q1.out Q2.out (by decide) N2.out)
          have Q4 : Hid (w3.ownsRow B 48 3 v2 (goods (L.take (k + 1))).length (rows (goods (L.take (k + 1))))) := by
            unfold Hid
            rw [HG.out, rows_snoc, List.length_append]
            exact own2
          clear own2 gr2 nil2 hlt2 d0 d1 d2 Q1 Q2 G2
          go_wp2
          go_roundw
          case rel => exact ⟨k + 1, by omega, by go_num, Q3, Q4, M1, M2, G3⟩
          case measure => simp [intOf]; omega
        · have hsz2 : 1024 < x.s.size := by omega
          have HG : Hid (goods (L.take (k + 1)) = goods (L.take k)) := by unfold Hid; rw [HT.out]; exact goods_no (by unfold Thg.good; rw [decide_eq_false hsz]; simp [hw])
          have hxs : x.s.size ≤ maxLen := by
            have h1 := bulk_append (L.take k) [x]
            have h2 := bulk_take L (k + 1)
            rw [HT.out] at h2
            have h3 : bulk [x] = x.s.size + 8 := by unfold bulk; simp
            unfold maxLen; omega
          clear hw hsz
          go_wp2_with fail
          go_region_held3 (fun w' => w'.cell? ⟨ob, oo + k * 3, none⟩ = some (.int .i64 x.n) ∧ w'.cell? ⟨ob, oo + k * 3 + 1, none⟩ = some (.int .i64 x.w)) (first | exact ⟨by assumption, by assumption⟩ | exact ⟨(Below.cell (by assumption) (by simp; omega)).trans (by assumption), (Below.cell (by assumption) (by simp; omega)).trans (by assumption)⟩ | (simp only [World.cell?_drewN]; exact ⟨by assumption, by assumption⟩))
            (first | (go_at_call 13; refine (put_no _ _ _ HW.out).mono ?_; rintro y w0 ⟨rfl, b0⟩))
          have e2 : w0.cell? ⟨ob, oo + k * 3 + 2, none⟩ = some (.string x.s) := (b0.cell (by exact hobr)).trans hc2
          go_wp2_with fail
          refine (puttext_long _ _ hxs hsz2).mono ?_
          rintro y w1 ⟨rfl, rfl⟩
          have bb : Below wr.heap.size wr w0 := ⟨b0.os, b0.tape, b0.output, b0.size, b0.block⟩
          have P1 : Hid (w0.ownsRow B 5 1 u3 (laid (goods (L.take (k + 1)))).length ((laid (goods (L.take (k + 1)))).map cellU)) := by unfold Hid; rw [HG.out]; exact owns_below O1.out bb
          have P2 : Hid (w0.ownsRow B 48 3 u4 (goods (L.take (k + 1))).length (rows (goods (L.take (k + 1))))) := by unfold Hid; rw [HG.out]; exact owns_below O2.out bb
          have G1 : Below B w w0 := G.trans (bb.mono (by exact Nat.le_trans hbs G.size))
          clear bb b0 e2 hc0 hc1 hc2 O1 O2 G
          go_wp2
          go_roundw
          case rel => exact ⟨k + 1, by omega, by go_num, P1, P2, N1, N2, G1⟩
          case measure => simp [intOf]; omega
    · have hkL : L.take k = L := by rw [List.take_of_length_le (by rw [← HLen.out]; omega)]
      rw [hkL] at O1 O2
      clear hkL
      obtain ⟨g, cap1, hu, hg⟩ := owns_shape O1.out N1.out
      obtain ⟨q, cap2, hv, hq⟩ := owns_shape O2.out N2.out
      have hA := laid_le L
      have hm := goods_length L
      have hml : (goods L).length ≤ 1073741824 := by rw [HLen.out] at hlen; omega
      have hAf : laid (goods L) = laid (goods L) := rfl
      subst hu hv
      obtain ⟨A, hAd⟩ : ∃ A, A = laid (goods L) := ⟨_, rfl⟩
      rw [← hAd] at O1 hA ⊢
      obtain ⟨G', hGd⟩ : ∃ G', G' = goods L := ⟨_, rfl⟩
      rw [← hGd] at O2 hm hml hAd ⊢
      have HA := Lib.hid hAd
      have HGd : Hid (∀ x ∈ G', x.good = true) := fun x hx => by rw [hGd] at hx; exact (List.mem_filter.1 hx).2
      have HWf : Hid (∀ x ∈ G', -9223372036854775808 ≤ x.n ∧ x.n ≤ 9223372036854775807) := fun x hx => by rw [hGd] at hx; exact HWL.out x (List.mem_filter.1 hx).1
      clear hAd hGd hAf N1 N2 HLen HI HI0 HI1 HI2 HK HK0 HK1 HK2 HO
      have hA1 : A.length + 1 ≤ 9223372036854775807 := by omega
      have hA2 : ¬ 9223372036854775807 < A.length + 1 := by omega
      go_wp2_with fail
      go_region_held3 (fun w' => Sem.run Try.prog (convert 46 9 (.slice (some ⟨g, 0, none⟩) A.length cap1)) w' = .ok (.string ⟨A.toArray⟩) w') (first | assumption | exact conv_owns O1.out | exact conv_owns (owns_drewN O1.out _) | exact conv_owns (owns_below (owns_drewN O1.out _) (by assumption)) | exact conv_owns (owns_drewN (owns_below (owns_drewN O1.out _) (by assumption)) _) | exact conv_owns (owns_below (owns_below (owns_drewN O1.out _) (by assumption)) (by assumption)))
        (first | (go_at_call_of 17 (Value.string ⟨A.toArray⟩); refine (new_abs _ _).mono ?_; rintro y w1 ⟨rfl, r1, b1⟩) | (go_at_call 17; refine (new_abs _ _).mono ?_; rintro y w2 ⟨rfl, r2, b2⟩))
      have hRM : wr.heap.size < w1.heap.size := r1.lt
      have R2 : Rdr w2 wr.heap.size ⟨A.toArray⟩ 0 0 := (show Rdr w1 wr.heap.size ⟨A.toArray⟩ 0 0 from r1).below b2
      have bb : Below wr.heap.size wr w2 := (show Below wr.heap.size wr w1 from ⟨b1.os, b1.tape, b1.output, b1.size, b1.block⟩).trans (b2.mono (Nat.le_of_lt hRM))
      have O2' : w2.ownsRow B 48 3 (.slice (some ⟨q, 0, none⟩) G'.length cap2) G'.length (rows G') := owns_below O2.out bb
      have G2 : Below B w w2 := G.trans (bb.mono (by exact Nat.le_trans hbs G.size))
      have hBR : B ≤ wr.heap.size := Nat.le_trans hbs G.size
      have hls : ∀ j, some q = some j → B ≤ j ∧ j < wr.heap.size := fun j hj => O2.out.lt j hj
      have hq2 : q < wr.heap.size := (hls q rfl).2
      clear O1 O2 G b1 b2 bb r1 hls
      generalize hT2 : (⟨A.toArray⟩ ++ ⟨#[120]⟩ : ByteArray) = T2 at *
      have HD2 : Hid (T2.data.toList = A ++ [120]) := by rw [← hT2]; exact ax_list A
      clear hT2
      generalize hT1 : (⟨A.toArray⟩ : ByteArray) = T1 at *
      have HD1 : Hid (T1.data.toList = A) := by rw [← hT1]; rfl
      have hz1 : T1.size = A.length := by rw [size_list, HD1.out]
      have hz2 : T2.size = A.length + 1 := by rw [size_list, HD2.out]; simp
      have HZ1 := Lib.hid hz1
      have HZ2 := Lib.hid hz2
      have hs1 : T1.size ≤ 281474976710656 := by omega
      have hs2 : T2.size ≤ 281474976710656 := by omega
      clear hT1 hz1 hz2
      generalize wr.heap.size = R at *
      generalize w1.heap.size = M at *
      go_wp2_with fail
      refine (fixed_any _).mono ?_
      rintro y w3 ⟨rfl, b3⟩
      have HR3 := Lib.hid (R2.below b3)
      have HM3 := Lib.hid (r2.below b3)
      have HO3 := Lib.hid (owns_below O2' b3)
      have G3 : Below B w w3 := G2.trans (b3.mono (by exact Nat.le_trans hbs G2.size))
      clear R2 r2 O2' G2 b3
      go_wp2_with fail
      go_loopw [10] (fun i wr => ∃ (k : Nat), k ≤ G'.length ∧ i = .int .i64 (k : Int) ∧ Hid (Rdr wr R T1 (laid (G'.take k)).length 0) ∧ Hid (Rdr wr M T2 (laid (G'.take k)).length 0) ∧ Hid (wr.ownsRow B 48 3 (.slice (some ⟨q, 0, none⟩) G'.length cap2) G'.length (rows G')) ∧ Below B w wr) (fun i _ => G'.length - (intOf i).toNat)
      case atStart => exact ⟨0, Nat.zero_le _, rfl, HR3, HM3, HO3, G3⟩
      case round =>
        clear HR3 HM3 HO3 G3
        obtain ⟨k, hk, rfl, HR, HM, HO, G⟩ := hrel
        by_cases hlt : k < G'.length
        · obtain ⟨r0, r1, r2⟩ := rows_at G' k hlt
          have hc0 := (World.ownsRow.cellAt HO.out (3 * k) (by omega)).trans r0
          have hc1 := (World.ownsRow.cellAt HO.out (3 * k + 1) (by omega)).trans r1
          have hc2 := (World.ownsRow.cellAt HO.out (3 * k + 2) (by omega)).trans r2
          rw [Nat.mul_comm] at hc0 hc1 hc2
          obtain ⟨x, hx⟩ : ∃ x, x = G'[k] := ⟨_, rfl⟩
          rw [← hx] at hc0 hc1 hc2
          have HX := Lib.hid hx
          clear hx r0 r1 r2
          have HS1 : Hid (T1.data.toList = laid (G'.take k) ++ (x.form ++ laid (G'.drop (k + 1)))) := by
            unfold Hid; rw [← split_at hlt HX.out, ← HA.out, HD1.out]
          have HS2 : Hid (T2.data.toList = laid (G'.take k) ++ (x.form ++ (laid (G'.drop (k + 1)) ++ [120]))) := by
            have h := split_at hlt HX.out
            unfold Hid
            rw [HD2.out, HA.out, h]; simp
          have HNx := Lib.hid (next_at hlt HX.out)
          have hp1 : (laid (G'.take k)).length ≤ T1.size := by
            rw [size_list, HS1.out, List.length_append]; omega
          have hp2 : (laid (G'.take k)).length ≤ T2.size := by
            rw [size_list, HS2.out, List.length_append]; omega
          have hgood : x.good = true := HGd.out x (by rw [HX.out]; exact List.getElem_mem hlt)
          have hwf : -9223372036854775808 ≤ x.n ∧ x.n ≤ 9223372036854775807 := HWf.out x (by rw [HX.out]; exact List.getElem_mem hlt)
          obtain ⟨P, hP⟩ : ∃ P, P = (laid (G'.take k)).length := ⟨_, rfl⟩
          rw [← hP] at HR HM hp1 hp2 HNx
          have HP := Lib.hid hP
          clear hP
          by_cases hw : 1 ≤ x.w ∧ x.w ≤ 8
          · obtain ⟨g1, g8⟩ := hw
            by_cases h8 : x.w < 8
            · have q0 : 0 ≤ 8 * x.w := by omega
              have q1 : 8 * x.w ≤ 56 := by omega
              have HMk := Lib.hid (mask x.n x.w g1 h8)
              have HFm : x.form = putS x.n x.w.toNat := if_pos (isW_yes g1 g8)
              have HV1 : Hid (numR T1 P 0 x.w = (x.n % 256 ^ x.w.toNat, P + x.w.toNat, 0)) := by
                unfold Hid; rw [HP.out, num_read (by rw [HS1.out, HFm]) g1 g8, num_back _ _ (by omega)]
              have HV2 : Hid (numR T2 P 0 x.w = (x.n % 256 ^ x.w.toNat, P + x.w.toNat, 0)) := by
                unfold Hid; rw [HP.out, num_read (by rw [HS2.out, HFm]) g1 g8, num_back _ _ (by omega)]
              have HN1 : Hid (P + x.w.toNat = (laid (G'.take (k + 1))).length) := by unfold Hid; rw [HNx.out, HFm, putS_length]
              clear HFm HS1 HS2 HNx hgood hwf
              go_wp2_with fail
              have W1 : Rdr (wr.alloc (.cells #[.int .i64 x.n, .int .i64 x.w, .string x.s] 48)) R T1 P 0 := HR.out.alloc _
              have W2 : Rdr (wr.alloc (.cells #[.int .i64 x.n, .int .i64 x.w, .string x.s] 48)) M T2 P 0 := HM.out.alloc _
              have W3 : (wr.alloc (.cells #[.int .i64 x.n, .int .i64 x.w, .string x.s] 48)).ownsRow B 48 3 (.slice (some ⟨q, 0, none⟩) G'.length cap2) G'.length (rows G') := HO.out.alloc _
              have W4 : Below B w (wr.alloc (.cells #[.int .i64 x.n, .int .i64 x.w, .string x.s] 48)) := G.alloc (by exact Nat.le_trans hbs G.size) _
              have C0 : (wr.alloc (.cells #[.int .i64 x.n, .int .i64 x.w, .string x.s] 48)).cell? ⟨wr.heap.size, 0, none⟩ = some (.int .i64 x.n) := World.cell?_alloc_new wr _ _ 0
              have C1 : (wr.alloc (.cells #[.int .i64 x.n, .int .i64 x.w, .string x.s] 48)).cell? ⟨wr.heap.size, 1, none⟩ = some (.int .i64 x.w) := World.cell?_alloc_new wr _ _ 1
              have C2 : (wr.alloc (.cells #[.int .i64 x.n, .int .i64 x.w, .string x.s] 48)).cell? ⟨wr.heap.size, 2, none⟩ = some (.string x.s) := World.cell?_alloc_new wr _ _ 2
              have ho1 : R < wr.heap.size := HR.out.lt
              have ho2 : M < wr.heap.size := HM.out.lt
              generalize wr.alloc (.cells #[.int .i64 x.n, .int .i64 x.w, .string x.s] 48) = W0 at *
              generalize wr.heap.size = o at *
              have HW1 := Lib.hid W1
              have HW2 := Lib.hid W2
              have HW3 := Lib.hid W3
              clear W1 W2 W3 HR HM HO G hc0 hc1 hc2
              go_quiet (fail)
              rw [HMk.out]
              generalize x.n % 256 ^ x.w.toNat = V at *
              go_wp2_with fail
              refine (num_at HV1.out (HW1.out.drewN _) hp1 hs1).mono ?_
              rintro y w5 ⟨rfl, r5, g5⟩
              have r5 := r5
              rw [HN1.out] at r5
              have m5 : Rdr w5 M T2 P 0 := (HW2.out.drewN _).kept g5 (by simp; omega)
              have o5 : w5.ownsRow B 48 3 (.slice (some ⟨q, 0, none⟩) G'.length cap2) G'.length (rows G') := (owns_drewN HW3.out _).kept g5 (by right; simp [Value.ownBlock]; omega)
              have G5 : Below B w w5 := (below_drewN W4 _).grown g5 (by exact Nat.le_trans hbs W4.size) (fun j hj => by cases hj; exact hBR)
              have c5 : w5.cell? ⟨o, 1, none⟩ = some (.int .i64 x.w) := g5.cell (by exact C1) (by simp; omega)
              have HR5 := Lib.hid r5
              have HM5 := Lib.hid m5
              have HO5 := Lib.hid o5
              clear r5 m5 o5 g5 C0 C1 C2 HW1 HW2 HW3 W4
              go_wp2_with fail
              refine (num_at HV2.out HM5.out hp2 hs2).mono ?_
              rintro y w6 ⟨rfl, m6, g6⟩
              rw [HN1.out] at m6
              have r6 : Rdr w6 R T1 (laid (G'.take (k + 1))).length 0 := HR5.out.kept g6 (by simp; omega)
              have o6 : w6.ownsRow B 48 3 (.slice (some ⟨q, 0, none⟩) G'.length cap2) G'.length (rows G') := HO5.out.kept g6 (by right; simp [Value.ownBlock]; omega)
              have G6 : Below B w w6 := G5.grown g6 (by exact Nat.le_trans hbs G5.size) (fun j hj => by cases hj; omega)
              have HR6 := Lib.hid r6
              have HM6 := Lib.hid m6
              have HO6 := Lib.hid o6
              clear r6 m6 o6 g6 HR5 HM5 HO5 G5 c5
              go_wp2
              go_roundw
              case rel => exact ⟨k + 1, by omega, by go_num, HR6, HM6, HO6, G6⟩
              case measure => simp [intOf]; omega

            · have h88 : x.w = 8 := by omega
              have hn8 : (8 : Int).toNat = 8 := rfl
              have HFm : x.form = putS x.n x.w.toNat := if_pos (isW_yes g1 g8)
              have HV1 : Hid (numR T1 P 0 x.w = (x.n, P + x.w.toNat, 0)) := by
                unfold Hid; rw [HP.out, num_read (by rw [HS1.out, HFm]) g1 g8, h88, hn8, num_back8 _ hwf.1 hwf.2]
              have HV2 : Hid (numR T2 P 0 x.w = (x.n, P + x.w.toNat, 0)) := by
                unfold Hid; rw [HP.out, num_read (by rw [HS2.out, HFm]) g1 g8, h88, hn8, num_back8 _ hwf.1 hwf.2]
              have HN1 : Hid (P + x.w.toNat = (laid (G'.take (k + 1))).length) := by unfold Hid; rw [HNx.out, HFm, putS_length]
              clear HFm HS1 HS2 HNx hgood hwf
              clear h88 hn8
              go_wp2_with fail
              have W1 : Rdr (wr.alloc (.cells #[.int .i64 x.n, .int .i64 x.w, .string x.s] 48)) R T1 P 0 := HR.out.alloc _
              have W2 : Rdr (wr.alloc (.cells #[.int .i64 x.n, .int .i64 x.w, .string x.s] 48)) M T2 P 0 := HM.out.alloc _
              have W3 : (wr.alloc (.cells #[.int .i64 x.n, .int .i64 x.w, .string x.s] 48)).ownsRow B 48 3 (.slice (some ⟨q, 0, none⟩) G'.length cap2) G'.length (rows G') := HO.out.alloc _
              have W4 : Below B w (wr.alloc (.cells #[.int .i64 x.n, .int .i64 x.w, .string x.s] 48)) := G.alloc (by exact Nat.le_trans hbs G.size) _
              have C0 : (wr.alloc (.cells #[.int .i64 x.n, .int .i64 x.w, .string x.s] 48)).cell? ⟨wr.heap.size, 0, none⟩ = some (.int .i64 x.n) := World.cell?_alloc_new wr _ _ 0
              have C1 : (wr.alloc (.cells #[.int .i64 x.n, .int .i64 x.w, .string x.s] 48)).cell? ⟨wr.heap.size, 1, none⟩ = some (.int .i64 x.w) := World.cell?_alloc_new wr _ _ 1
              have C2 : (wr.alloc (.cells #[.int .i64 x.n, .int .i64 x.w, .string x.s] 48)).cell? ⟨wr.heap.size, 2, none⟩ = some (.string x.s) := World.cell?_alloc_new wr _ _ 2
              have ho1 : R < wr.heap.size := HR.out.lt
              have ho2 : M < wr.heap.size := HM.out.lt
              generalize wr.alloc (.cells #[.int .i64 x.n, .int .i64 x.w, .string x.s] 48) = W0 at *
              generalize wr.heap.size = o at *
              have HW1 := Lib.hid W1
              have HW2 := Lib.hid W2
              have HW3 := Lib.hid W3
              clear W1 W2 W3 HR HM HO G hc0 hc1 hc2
              refine (num_at HV1.out HW1.out hp1 hs1).mono ?_
              rintro y w5 ⟨rfl, r5, g5⟩
              have r5 := r5
              rw [HN1.out] at r5
              have m5 : Rdr w5 M T2 P 0 := HW2.out.kept g5 (by simp; omega)
              have o5 : w5.ownsRow B 48 3 (.slice (some ⟨q, 0, none⟩) G'.length cap2) G'.length (rows G') := HW3.out.kept g5 (by right; simp [Value.ownBlock]; omega)
              have G5 : Below B w w5 := W4.grown g5 (by exact Nat.le_trans hbs W4.size) (fun j hj => by cases hj; exact hBR)
              have c5 : w5.cell? ⟨o, 1, none⟩ = some (.int .i64 x.w) := g5.cell C1 (by simp; omega)
              have HR5 := Lib.hid r5
              have HM5 := Lib.hid m5
              have HO5 := Lib.hid o5
              clear r5 m5 o5 g5 C0 C1 C2 HW1 HW2 HW3 W4
              go_wp2_with fail
              refine (num_at HV2.out HM5.out hp2 hs2).mono ?_
              rintro y w6 ⟨rfl, m6, g6⟩
              rw [HN1.out] at m6
              have r6 : Rdr w6 R T1 (laid (G'.take (k + 1))).length 0 := HR5.out.kept g6 (by simp; omega)
              have o6 : w6.ownsRow B 48 3 (.slice (some ⟨q, 0, none⟩) G'.length cap2) G'.length (rows G') := HO5.out.kept g6 (by right; simp [Value.ownBlock]; omega)
              have G6 : Below B w w6 := G5.grown g6 (by exact Nat.le_trans hbs G5.size) (fun j hj => by cases hj; omega)
              have HR6 := Lib.hid r6
              have HM6 := Lib.hid m6
              have HO6 := Lib.hid o6
              clear r6 m6 o6 g6 HR5 HM5 HO5 G5 c5
              go_wp2
              go_roundw
              case rel => exact ⟨k + 1, by omega, by go_num, HR6, HM6, HO6, G6⟩
              case measure => simp [intOf]; omega

          · have hisw : ¬ isW x.w = true := fun h => hw (of_decide_eq_true h)
            have hsz : x.s.size ≤ 1024 := by
              unfold Thg.good at hgood
              rcases Bool.or_eq_true_iff.1 hgood with h | h
              · exact absurd h hisw
              · exact of_decide_eq_true h
            have HFm : x.form = textS x.s.data.toList := if_neg hisw
            have hxl : x.s.data.toList.length ≤ 1024 := by simpa using hsz
            have hxe : (⟨x.s.data.toList.toArray⟩ : ByteArray) = x.s := ByteArray.ext (by simp)
            have HV1 : Hid (textR T1 P 0 1024 = (x.s, P + (2 + x.s.data.toList.length), 0)) := by
              unfold Hid; rw [HP.out, text_read (by rw [HS1.out, HFm]) hxl, hxe]
            have HV2 : Hid (textR T2 P 0 1024 = (x.s, P + (2 + x.s.data.toList.length), 0)) := by
              unfold Hid; rw [HP.out, text_read (by rw [HS2.out, HFm]) hxl, hxe]
            have HN1 : Hid (P + (2 + x.s.data.toList.length) = (laid (G'.take (k + 1))).length) := by unfold Hid; rw [HNx.out, HFm]; unfold textS; rw [List.length_append, putS_length]
            clear HFm HS1 HS2 HNx hgood hwf hxl hxe hisw hsz
            by_cases hw1 : x.w < 1
            · clear hw
              go_wp2_with fail
              have W1 : Rdr (wr.alloc (.cells #[.int .i64 x.n, .int .i64 x.w, .string x.s] 48)) R T1 P 0 := HR.out.alloc _
              have W2 : Rdr (wr.alloc (.cells #[.int .i64 x.n, .int .i64 x.w, .string x.s] 48)) M T2 P 0 := HM.out.alloc _
              have W3 : (wr.alloc (.cells #[.int .i64 x.n, .int .i64 x.w, .string x.s] 48)).ownsRow B 48 3 (.slice (some ⟨q, 0, none⟩) G'.length cap2) G'.length (rows G') := HO.out.alloc _
              have W4 : Below B w (wr.alloc (.cells #[.int .i64 x.n, .int .i64 x.w, .string x.s] 48)) := G.alloc (by exact Nat.le_trans hbs G.size) _
              have C0 : (wr.alloc (.cells #[.int .i64 x.n, .int .i64 x.w, .string x.s] 48)).cell? ⟨wr.heap.size, 0, none⟩ = some (.int .i64 x.n) := World.cell?_alloc_new wr _ _ 0
              have C1 : (wr.alloc (.cells #[.int .i64 x.n, .int .i64 x.w, .string x.s] 48)).cell? ⟨wr.heap.size, 1, none⟩ = some (.int .i64 x.w) := World.cell?_alloc_new wr _ _ 1
              have C2 : (wr.alloc (.cells #[.int .i64 x.n, .int .i64 x.w, .string x.s] 48)).cell? ⟨wr.heap.size, 2, none⟩ = some (.string x.s) := World.cell?_alloc_new wr _ _ 2
              have ho1 : R < wr.heap.size := HR.out.lt
              have ho2 : M < wr.heap.size := HM.out.lt
              generalize wr.alloc (.cells #[.int .i64 x.n, .int .i64 x.w, .string x.s] 48) = W0 at *
              generalize wr.heap.size = o at *
              have HW1 := Lib.hid W1
              have HW2 := Lib.hid W2
              have HW3 := Lib.hid W3
              clear W1 W2 W3 HR HM HO G hc0 hc1 hc2
              go_region_held3 (fun w' => w'.cell? ⟨o, 2, none⟩ = some (.string x.s)) (first | assumption | (simp only [World.cell?_drewN]; assumption) | (exact World.grownBy.cell (by assumption) (by assumption) (by simp; omega)))
                (first | (go_at_call_of 20 (Value.pointer (some ⟨R, 0, none⟩)); refine (text_at HV1.out (HW1.out.drewN _) hp1 hs1).mono ?_; rintro y w5 ⟨rfl, r5, g5⟩) | (go_at_call 20; refine (text_at HV2.out (by first | exact (HW2.out.drewN _).kept g5 (by simp; omega) | exact ((HW2.out.drewN _).kept g5 (by simp; omega)).drewN _) hp2 hs2).mono ?_; rintro y w6 ⟨rfl, m6, g6⟩))
              rw [HN1.out] at r5 m6
              have r6 : Rdr w6 R T1 (laid (G'.take (k + 1))).length 0 := r5.kept g6 (by simp; omega)
              have o6 : w6.ownsRow B 48 3 (.slice (some ⟨q, 0, none⟩) G'.length cap2) G'.length (rows G') := ((owns_drewN HW3.out _).kept g5 (by right; simp [Value.ownBlock]; omega)).kept g6 (by right; simp [Value.ownBlock]; omega)
              have G6 : Below B w w6 := ((below_drewN W4 _).grown g5 (by exact Nat.le_trans hbs W4.size) (fun j hj => by cases hj; exact hBR)).grown g6 (by exact Nat.le_trans (Nat.le_trans hbs W4.size) g5.size) (fun j hj => by cases hj; omega)
              have HR6 := Lib.hid r6
              have HM6 := Lib.hid m6
              have HO6 := Lib.hid o6
              clear r5 r6 m6 o6 g5 g6 C0 C1 C2 HW1 HW2 HW3 W4
              go_wp2
              go_roundw
              case rel => exact ⟨k + 1, by omega, by go_num, HR6, HM6, HO6, G6⟩
              case measure => simp [intOf]; omega
            · have hw8 : 8 < x.w := by omega
              clear hw
              go_wp2_with fail
              have W1 : Rdr (wr.alloc (.cells #[.int .i64 x.n, .int .i64 x.w, .string x.s] 48)) R T1 P 0 := HR.out.alloc _
              have W2 : Rdr (wr.alloc (.cells #[.int .i64 x.n, .int .i64 x.w, .string x.s] 48)) M T2 P 0 := HM.out.alloc _
              have W3 : (wr.alloc (.cells #[.int .i64 x.n, .int .i64 x.w, .string x.s] 48)).ownsRow B 48 3 (.slice (some ⟨q, 0, none⟩) G'.length cap2) G'.length (rows G') := HO.out.alloc _
              have W4 : Below B w (wr.alloc (.cells #[.int .i64 x.n, .int .i64 x.w, .string x.s] 48)) := G.alloc (by exact Nat.le_trans hbs G.size) _
              have C0 : (wr.alloc (.cells #[.int .i64 x.n, .int .i64 x.w, .string x.s] 48)).cell? ⟨wr.heap.size, 0, none⟩ = some (.int .i64 x.n) := World.cell?_alloc_new wr _ _ 0
              have C1 : (wr.alloc (.cells #[.int .i64 x.n, .int .i64 x.w, .string x.s] 48)).cell? ⟨wr.heap.size, 1, none⟩ = some (.int .i64 x.w) := World.cell?_alloc_new wr _ _ 1
              have C2 : (wr.alloc (.cells #[.int .i64 x.n, .int .i64 x.w, .string x.s] 48)).cell? ⟨wr.heap.size, 2, none⟩ = some (.string x.s) := World.cell?_alloc_new wr _ _ 2
              have ho1 : R < wr.heap.size := HR.out.lt
              have ho2 : M < wr.heap.size := HM.out.lt
              generalize wr.alloc (.cells #[.int .i64 x.n, .int .i64 x.w, .string x.s] 48) = W0 at *
              generalize wr.heap.size = o at *
              have HW1 := Lib.hid W1
              have HW2 := Lib.hid W2
              have HW3 := Lib.hid W3
              clear W1 W2 W3 HR HM HO G hc0 hc1 hc2
              go_region_held3 (fun w' => w'.cell? ⟨o, 2, none⟩ = some (.string x.s)) (first | assumption | (simp only [World.cell?_drewN]; assumption) | (exact World.grownBy.cell (by assumption) (by assumption) (by simp; omega)))
                (first | (go_at_call_of 20 (Value.pointer (some ⟨R, 0, none⟩)); refine (text_at HV1.out (HW1.out.drewN _) hp1 hs1).mono ?_; rintro y w5 ⟨rfl, r5, g5⟩) | (go_at_call 20; refine (text_at HV2.out (by first | exact (HW2.out.drewN _).kept g5 (by simp; omega) | exact ((HW2.out.drewN _).kept g5 (by simp; omega)).drewN _) hp2 hs2).mono ?_; rintro y w6 ⟨rfl, m6, g6⟩))
              rw [HN1.out] at r5 m6
              have r6 : Rdr w6 R T1 (laid (G'.take (k + 1))).length 0 := r5.kept g6 (by simp; omega)
              have o6 : w6.ownsRow B 48 3 (.slice (some ⟨q, 0, none⟩) G'.length cap2) G'.length (rows G') := ((owns_drewN HW3.out _).kept g5 (by right; simp [Value.ownBlock]; omega)).kept g6 (by right; simp [Value.ownBlock]; omega)
              have G6 : Below B w w6 := ((below_drewN W4 _).grown g5 (by exact Nat.le_trans hbs W4.size) (fun j hj => by cases hj; exact hBR)).grown g6 (by exact Nat.le_trans (Nat.le_trans hbs W4.size) g5.size) (fun j hj => by cases hj; omega)
              have HR6 := Lib.hid r6
              have HM6 := Lib.hid m6
              have HO6 := Lib.hid o6
              clear r5 r6 m6 o6 g5 g6 C0 C1 C2 HW1 HW2 HW3 W4
              go_wp2
              go_roundw
              case rel => exact ⟨k + 1, by omega, by go_num, HR6, HM6, HO6, G6⟩
              case measure => simp [intOf]; omega

        · have hkk : k = G'.length := by omega
          have hle : (laid (G'.take k)).length = A.length := by rw [hkk, List.take_length, ← HA.out]
          rw [hle] at HR HM
          clear hle hkk
          have hA3 : A.length ≤ T1.size := by rw [HZ1.out]; exact Nat.le_refl _
          have hA4 : A.length ≤ T2.size := by rw [HZ2.out]; omega
          have hs1' : T1.size ≤ maxLen := by unfold maxLen; omega
          have hs2' : T2.size ≤ maxLen := by unfold maxLen; omega
          have HE1 : Hid (doneV T1 A.length 0 = .tuple #[.int .i64 0, .int .i64 0]) := by
            unfold Hid doneV; rw [if_neg (by rw [HZ1.out]; omega)]; rfl
          have HE2 : Hid (doneV T2 A.length 0 = .tuple #[.int .i64 12, .int .i64 (A.length : Int)]) := by
            unfold Hid doneV; rw [if_pos ⟨rfl, by rw [HZ2.out]; omega⟩]
          go_wp2_with fail
          refine (done_any _ _ _ _ _ HR.out hA3 hs1').mono ?_
          rintro y w5 ⟨rfl, n5, hw5⟩
          rw [HE1.out]
          have HM5 : Hid (Rdr w5 M T2 A.length 0) := by rw [hw5]; exact HM.out.drewN _
          have G5 : Below B w w5 := by rw [hw5]; exact below_drewN G n5
          clear hw5 HR HM HO G
          go_wp2_with fail
          refine (done_any _ _ _ _ _ HM5.out hA4 hs2').mono ?_
          rintro y w6 ⟨rfl, n6, hw6⟩
          rw [HE2.out]
          have G6 : Below B w w6 := by rw [hw6]; exact below_drewN G5 n6
          clear hw6 HM5 G5
          go_wp2
          go_ret
          exact ⟨rfl, by rw [← HB.out]; exact G6⟩

end CodeBack
end Go.Proofs.Ytjehjkibgaeibaa
