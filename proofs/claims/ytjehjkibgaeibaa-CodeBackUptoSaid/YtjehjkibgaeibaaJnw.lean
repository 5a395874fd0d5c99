/- A reader that has read all of some bytes reads the bytes behind them as one that begins there: the walk of the law. Conditions: each of the two texts is at most 2^47 - 4096 bytes, the calls at most 2^63 - 1. -/
import Derived.Test.YtjehjkibgaeibaaRds
namespace Go.Proofs.Ytjehjkibgaeibaa
open Go.RowKit
set_option linter.unusedVariables false

/-! a reader of bytes behind others reads as one that begins there -/
theorem cat_size (a c : ByteArray) : (a ++ c).size = a.size + c.size := ByteArray.size_append
theorem cat_left (a c : ByteArray) (p : Nat) : (a ++ c).size - (p + a.size) = c.size - p := by rw [cat_size]; omega
theorem cat_drop (a c : ByteArray) (p : Nat) : (a ++ c).data.toList.drop (p + a.size) = c.data.toList.drop p := by
  have h1 : (a ++ c).data.toList = a.data.toList ++ c.data.toList := by simp
  have h2 : a.size = a.data.toList.length := by simp
  rw [h1, h2, List.drop_append, List.drop_of_length_le (by omega), List.nil_append]
  congr 1
  omega
theorem cat_extract (a c : ByteArray) (p m : Nat) : (a ++ c).extract (p + a.size) (p + a.size + m) = c.extract p (p + m) := by
  have e1 := ext_list (a ++ c) (p + a.size) m
  have e2 := ext_list c p m
  rw [cat_drop, ← e2] at e1
  exact ByteArray.ext (Array.toList_inj.1 e1)
theorem cat_head (a c : ByteArray) (p : Nat) : headN (a ++ c) (p + a.size) = headN c p := by
  unfold headN; rw [cat_drop]
/-- the same answer, the place so much later -/
def Later {α : Type} (a : ByteArray) (x y : α × Nat × Int) : Prop := x = (y.1, y.2.1 + a.size, y.2.2)
theorem num_cat (a c : ByteArray) (p : Nat) (e n : Int) : Later a (numR (a ++ c) (p + a.size) e n) (numR c p e n) := by
  unfold numR Later
  rw [cat_left, cat_drop]
  split
  · rfl
  · split
    · rfl
    · split
      · rfl
      · rw [Nat.add_right_comm]
theorem bytes_cat (a c : ByteArray) (p : Nat) (e n : Int) : Later a (bytesR (a ++ c) (p + a.size) e n) (bytesR c p e n) := by
  unfold bytesR Later
  rw [cat_left, cat_extract]
  split
  · rfl
  · split
    · rfl
    · split
      · rfl
      · rw [Nat.add_right_comm]
theorem text_cat (a c : ByteArray) (p : Nat) (e n : Int) : Later a (textR (a ++ c) (p + a.size) e n) (textR c p e n) := by
  unfold textR Later
  rw [cat_left, cat_head]
  split
  · rfl
  · split
    · rfl
    · split
      · rfl
      · split
        · rfl
        · split
          · rfl
          · have e1 : p + a.size + 2 = p + 2 + a.size := by omega
            have e2 : p + a.size + (2 + headN c p) = p + 2 + a.size + headN c p := by omega
            have e3 : p + (2 + headN c p) = p + 2 + headN c p := by omega
            rw [e1, e2, cat_extract, e3]
            have e4 : p + 2 + a.size + headN c p = p + 2 + headN c p + a.size := by omega
            rw [e4]
theorem num_at {w : World} {b : Nat} {s : ByteArray} {p q : Nat} {e n v f : Int} (hv : numR s p e n = (v, q, f)) (h : Rdr w b s p e) (hp : p ≤ s.size) (hs : s.size ≤ 281474976710656) :
    Calls Try.prog 18 #[.pointer (some ⟨b, 0, none⟩), .int .i64 n] w (Reads w b s (.int .i64 v) q f) := by
  have := num_any w b s p e n h hp hs
  rw [hv] at this; exact this
theorem bytes_at {w : World} {b : Nat} {s v : ByteArray} {p q : Nat} {e n f : Int} (hv : bytesR s p e n = (v, q, f)) (h : Rdr w b s p e) (hp : p ≤ s.size) (hs : s.size ≤ 281474976710656) :
    Calls Try.prog 22 #[.pointer (some ⟨b, 0, none⟩), .int .i64 n] w (Reads w b s (.string v) q f) := by
  have := bytes_any w b s p e n h hp hs
  rw [hv] at this; exact this
theorem text_at {w : World} {b : Nat} {s v : ByteArray} {p q : Nat} {e n f : Int} (hv : textR s p e n = (v, q, f)) (h : Rdr w b s p e) (hp : p ≤ s.size) (hs : s.size ≤ 281474976710656) :
    Calls Try.prog 20 #[.pointer (some ⟨b, 0, none⟩), .int .i64 n] w (Reads w b s (.string v) q f) := by
  have := text_any w b s p e n h hp hs
  rw [hv] at this; exact this
theorem num_two (a c : ByteArray) (p : Nat) (e n : Int) (hp : p ≤ c.size) : ∃ v q f, numR c p e n = (v, q, f) ∧ numR (a ++ c) (p + a.size) e n = (v, q + a.size, f) ∧ q ≤ c.size := ⟨_, _, _, rfl, num_cat a c p e n, numR_le hp⟩
theorem bytes_two (a c : ByteArray) (p : Nat) (e n : Int) (hp : p ≤ c.size) : ∃ v q f, bytesR c p e n = (v, q, f) ∧ bytesR (a ++ c) (p + a.size) e n = (v, q + a.size, f) ∧ q ≤ c.size := ⟨_, _, _, rfl, bytes_cat a c p e n, bytesR_le hp⟩
theorem text_two (a c : ByteArray) (p : Nat) (e n : Int) (hp : p ≤ c.size) : ∃ v q f, textR c p e n = (v, q, f) ∧ textR (a ++ c) (p + a.size) e n = (v, q + a.size, f) ∧ q ≤ c.size := ⟨_, _, _, rfl, text_cat a c p e n, textR_le hp⟩
theorem faultP_no {p : Nat} {e : Int} (h : e ≠ 0) : faultP p e = p := if_neg h
theorem first_cat (a c : ByteArray) : bytesR (a ++ c) 0 0 (a.size : Nat) = (a, a.size, 0) := by
  unfold bytesR
  rw [if_neg (by simp), if_neg (by omega), if_neg (by rw [cat_size]; omega)]
  simp only [Int.toNat_natCast, Nat.zero_add]
  congr 1
  apply ByteArray.ext
  apply Array.toList_inj.1
  have := ext_list (a ++ c) 0 a.size
  rw [Nat.zero_add] at this
  rw [this]
  simp

namespace CodeJoins
set_option maxRecDepth 100000 in
set_option maxHeartbeats 4000000 in
theorem walk (a c : ByteArray) (ao : Option Addr) (len cap : Nat) (K N : Nat → Int) (w : World) (ha : a.size ≤ 140737488351232) (hcz : c.size ≤ 140737488351232) (hlen : len ≤ 9223372036854775807) (hops : OpsAt w ao len K N) :
    Calls Try.prog 8 #[.string a, .string c, .slice ao len cap] w fun e w' => e = .returned (.bool true) ∧ Below w.heap.size w w' := by
  have hsm : c.size ≤ maxLen := by unfold maxLen; omega
  have hsm2 : (a ++ c).size ≤ maxLen := by rw [cat_size]; unfold maxLen; omega
  have hs : c.size ≤ 281474976710656 := by omega
  have hs2 : (a ++ c).size ≤ 281474976710656 := by rw [cat_size]; omega
  have hsum : a.size + c.size ≤ 9223372036854775807 := by omega
  obtain ⟨B, hB⟩ : ∃ B, B = w.heap.size := ⟨_, rfl⟩
  have hbs : B ≤ w.heap.size := by rw [hB]; exact Nat.le_refl _
  have HB := Lib.hid hB
  have HO := Lib.hid hops
  have HZ := Lib.hid (cat_size a c)
  have HF := Lib.hid (first_cat a c)
  obtain ⟨t, ht⟩ : ∃ t, t = a ++ c := ⟨_, rfl⟩
  have HT := Lib.hid ht
  rw [← ht] at hsm2 hs2 HZ HF
  clear hops ht hB
  go_enter Try.func8, Try.ntmps8
  go_wp2_with fail
  rw [← HT.out]
  refine (new_any _ _).mono ?_
  rintro x w1 ⟨rfl, rfl⟩
  go_wp2_with fail
  refine (new_any _ _).mono ?_
  rintro x w2 ⟨rfl, rfl⟩
  rw [show (w.alloc (.cells #[.string t, .int .i64 0, .int .i64 0] 58)).heap.size = B + 1 by rw [HB.out]; simp, ← HB.out]
  have R1 : Rdr (w.alloc (.cells #[.string t, .int .i64 0, .int .i64 0] 58)) B t 0 0 := by rw [HB.out]; exact newR
  have S1 : (w.alloc (.cells #[.string t, .int .i64 0, .int .i64 0] 58)).heap.size = B + 1 := by rw [HB.out]; simp
  have R2 : Rdr ((w.alloc (.cells #[.string t, .int .i64 0, .int .i64 0] 58)).alloc (.cells #[.string c, .int .i64 0, .int .i64 0] 58)) B t 0 0 := R1.alloc _
  have X2 : Rdr ((w.alloc (.cells #[.string t, .int .i64 0, .int .i64 0] 58)).alloc (.cells #[.string c, .int .i64 0, .int .i64 0] 58)) (B + 1) c 0 0 := by
    have h := block_new (w.alloc (.cells #[.string t, .int .i64 0, .int .i64 0] 58)) (.cells #[.string c, .int .i64 0, .int .i64 0] 58)
    rw [S1] at h; exact h
  have G2 : Below B w ((w.alloc (.cells #[.string t, .int .i64 0, .int .i64 0] 58)).alloc (.cells #[.string c, .int .i64 0, .int .i64 0] 58)) := by
    have g := newG w (s := t)
    rw [← HB.out] at g
    exact g.alloc (by omega) _
  generalize ((w.alloc (.cells #[.string t, .int .i64 0, .int .i64 0] 58)).alloc (.cells #[.string c, .int .i64 0, .int .i64 0] 58)) = w2 at *
  clear R1 S1
  go_wp2_with fail
  refine (fixed_any _).mono ?_
  rintro x w3 ⟨rfl, b3⟩
  have R3 : Rdr w3 B t 0 0 := R2.below b3
  have X3 : Rdr w3 (B + 1) c 0 0 := X2.below b3
  have G3 : Below B w w3 := G2.trans (b3.mono (by exact Nat.le_trans hbs G2.size))
  clear R2 X2 G2 b3
  go_wp2_with fail
  refine (bytes_any _ _ _ _ _ _ R3 (Nat.zero_le _) hs2).mono ?_
  rintro x w4 ⟨rfl, R4, g4⟩
  rw [HF.out] at R4 ⊢
  have R4 : Rdr w4 B t a.size 0 := R4
  have X4 : Rdr w4 (B + 1) c 0 0 := X3.kept g4 (by simp)
  have G4 : Below B w w4 := G3.grown g4 (by exact Nat.le_trans hbs G3.size) (fun j hj => by cases hj; exact Nat.le_refl _)
  clear R3 X3 G3 g4
  go_wp2_with fail
  refine (at_any _ _ _ _ _ R4).mono ?_
  rintro x w5 ⟨rfl, rfl⟩
  go_wp2_with fail
  refine (left_any _ _ _ _ _ R4 (by rw [HZ.out]; omega) hsm2).mono ?_
  rintro x w5 ⟨rfl, n5, rfl⟩
  rw [show ((t.size - a.size : Nat) : Int) = c.size by rw [HZ.out]; omega]
  have HR5 : Hid (Rdr (w4.drewN n5) B t (0 + a.size) 0) := by rw [Nat.zero_add]; exact R4.drewN _
  have HX5 : Hid (Rdr (w4.drewN n5) (B + 1) c 0 0) := X4.drewN _
  have G5 : Below B w (w4.drewN n5) := below_drewN G4 n5
  generalize w4.drewN n5 = w5 at *
  clear R4 X4 G4
  go_wp2_with fail
  go_loopw [9] (fun i wr => ∃ (k p : Nat) (e : Int), k ≤ len ∧ i = .int .i64 (k : Int) ∧ p ≤ c.size ∧ Hid (Rdr wr B t (p + a.size) e) ∧ Hid (Rdr wr (B + 1) c p e) ∧ Below B w wr) (fun i _ => len - (intOf i).toNat)
  case atStart => exact ⟨0, 0, 0, Nat.zero_le _, rfl, Nat.zero_le _, HR5, HX5, G5⟩
  case round =>
    clear HR5 HX5 G5
    obtain ⟨k, p, e, hk, rfl, hp, HR, HX, G⟩ := hrel
    by_cases hlt : k < len
    · obtain ⟨ob, oo, rfl, hc0, hc1, hob⟩ := HO.out k hlt
      have hc0 := (G.cell (p := ⟨ob, oo + k * 2, none⟩) (by rw [HB.out]; exact hob)).trans hc0
      have hc1 := (G.cell (p := ⟨ob, oo + k * 2 + 1, none⟩) (by rw [HB.out]; exact hob)).trans hc1
      generalize K k = kk at *
      generalize N k = nn at *
      have hpt : p + a.size ≤ t.size := by rw [HZ.out]; omega
      by_cases h0 : kk = 0
      · subst h0
        go_wp2_with fail
        have R0 : Rdr (wr.alloc (.cells #[.int .i64 0, .int .i64 nn] 37)) B t (p + a.size) e := HR.out.alloc _
        have X0 : Rdr (wr.alloc (.cells #[.int .i64 0, .int .i64 nn] 37)) (B + 1) c p e := HX.out.alloc _
        have G0 : Below B w (wr.alloc (.cells #[.int .i64 0, .int .i64 nn] 37)) := G.alloc (by exact Nat.le_trans hbs G.size) _
        have C0 : (wr.alloc (.cells #[.int .i64 0, .int .i64 nn] 37)).cell? ⟨wr.heap.size, 1, none⟩ = some (.int .i64 nn) := World.cell?_alloc_new wr _ _ 1
        have ob1 : B + 1 < wr.heap.size := HX.out.lt
        generalize wr.alloc (.cells #[.int .i64 0, .int .i64 nn] 37) = W0 at *
        generalize wr.heap.size = o at *
        have HR0 := Lib.hid R0
        have HX0 := Lib.hid X0
        clear R0 X0 HR HX hc0 hc1 G
        obtain ⟨v, q, f, hv1, hv2, hq⟩ := num_two a c p e nn hp
        rw [← HT.out] at hv2
        have HV1 := Lib.hid hv1
        have HV2 := Lib.hid hv2
        clear hv1 hv2
        go_region_held3 (fun w' => w'.cell? ⟨o, 1, none⟩ = some (.int .i64 nn)) (first | assumption | (simp only [World.cell?_drewN]; assumption) | (exact World.grownBy.cell (by assumption) (by assumption) (by simp; omega)))
          (first | (go_at_call_of 18 (Value.pointer (some ⟨B, 0, none⟩)); refine (num_at HV2.out (HR0.out.drewN _) hpt hs2).mono ?_; rintro x w1 ⟨rfl, r1, g1⟩) | (go_at_call 18; refine (num_at HV1.out (by first | exact (HX0.out.drewN _).kept g1 (by simp) | exact ((HX0.out.drewN _).kept g1 (by simp)).drewN _) hp hs).mono ?_; rintro x w2 ⟨rfl, r2, g2⟩))
        have R2 : Rdr w2 B t (q + a.size) f := r1.kept g2 (by simp)
        have G2 : Below B w w2 := ((below_drewN G0 1).grown g1 (by exact Nat.le_trans hbs G0.size) (fun j hj => by cases hj; exact Nat.le_refl _)).grown g2 (by exact Nat.le_trans (Nat.le_trans hbs G0.size) g1.size) (fun j hj => by cases hj; omega)
        have HR2 := Lib.hid R2
        have HX2 := Lib.hid r2
        clear HR0 HX0 r1 g1 g2 R2 r2 G0 C0
        have hqt : q + a.size ≤ t.size := by rw [HZ.out]; omega
        by_cases hf : f = 0
        · subst hf
          go_wp2_with fail
          refine (fault_any _ _ _ _ _ HR2.out).mono ?_
          rintro x w5 ⟨rfl, n5, hw5⟩
          rw [faultV0]
          have HR5 : Hid (Rdr w5 B t (q + a.size) 0) := by rw [hw5]; exact HR2.out.drewN _
          have HX5 : Hid (Rdr w5 (B + 1) c q 0) := by rw [hw5]; exact HX2.out.drewN _
          have G5 : Below B w w5 := by rw [hw5]; exact below_drewN G2 n5
          clear hw5 HR2 HX2 G2
          go_wp2_with fail
          refine (fault_any _ _ _ _ _ HX5.out).mono ?_
          rintro x w6 ⟨rfl, n6, hw6⟩
          rw [faultV0]
          have HR6 : Hid (Rdr w6 B t (q + a.size) 0) := by rw [hw6]; exact HR5.out.drewN _
          have HX6 : Hid (Rdr w6 (B + 1) c q 0) := by rw [hw6]; exact HX5.out.drewN _
          have G6 : Below B w w6 := by rw [hw6]; exact below_drewN G5 n6
          clear hw6 HR5 HX5 G5
          go_wp2_with fail
          refine (at_any _ _ _ _ _ HR6.out).mono ?_
          rintro x w7 ⟨rfl, rfl⟩
          go_wp2_with fail
          refine (at_any _ _ _ _ _ HX6.out).mono ?_
          rintro x w7 ⟨rfl, rfl⟩
          go_wp2_with fail
          refine (left_any _ _ _ _ _ HR6.out hqt hsm2).mono ?_
          rintro x w7 ⟨rfl, n7, rfl⟩
          go_wp2_with fail
          refine (left_any _ _ _ _ _ (HX6.out.drewN _) hq hsm).mono ?_
          rintro x w8 ⟨rfl, n8, rfl⟩
          rw [show t.size - (q + a.size) = c.size - q by rw [HZ.out]; omega]
          go_wp2
          go_roundw
          case rel => exact ⟨k + 1, q, 0, by omega, by go_num, hq, HR6.out.drewN _, HX6.out.drewN _, below_drewN G6 _⟩
          case measure => simp [intOf]; omega
        · have hd : (f != 0) = true := bne_iff_ne.2 hf
          have HP := Lib.hid (faultP_no (p := q + a.size) hf)
          have HQ := Lib.hid (faultP_no (p := q) hf)
          clear hf
          go_wp2_with fail
          refine (fault_any _ _ _ _ _ HR2.out).mono ?_
          rintro x w5 ⟨rfl, n5, hw5⟩
          rw [faultV_eq, HP.out]
          have HR5 : Hid (Rdr w5 B t (q + a.size) f) := by rw [hw5]; exact HR2.out.drewN _
          have HX5 : Hid (Rdr w5 (B + 1) c q f) := by rw [hw5]; exact HX2.out.drewN _
          have G5 : Below B w w5 := by rw [hw5]; exact below_drewN G2 n5
          clear hw5 HR2 HX2 G2
          go_wp2_with fail
          refine (fault_any _ _ _ _ _ HX5.out).mono ?_
          rintro x w6 ⟨rfl, n6, hw6⟩
          rw [faultV_eq, HQ.out]
          have HR6 : Hid (Rdr w6 B t (q + a.size) f) := by rw [hw6]; exact HR5.out.drewN _
          have HX6 : Hid (Rdr w6 (B + 1) c q f) := by rw [hw6]; exact HX5.out.drewN _
          have G6 : Below B w w6 := by rw [hw6]; exact below_drewN G5 n6
          clear hw6 HR5 HX5 G5
          go_wp2_with fail
          refine (at_any _ _ _ _ _ HR6.out).mono ?_
          rintro x w7 ⟨rfl, rfl⟩
          go_wp2_with fail
          refine (at_any _ _ _ _ _ HX6.out).mono ?_
          rintro x w7 ⟨rfl, rfl⟩
          go_wp2_with fail
          refine (left_any _ _ _ _ _ HR6.out hqt hsm2).mono ?_
          rintro x w7 ⟨rfl, n7, rfl⟩
          go_wp2_with fail
          refine (left_any _ _ _ _ _ (HX6.out.drewN _) hq hsm).mono ?_
          rintro x w8 ⟨rfl, n8, rfl⟩
          rw [show t.size - (q + a.size) = c.size - q by rw [HZ.out]; omega]
          go_wp2
          go_roundw
          case rel => exact ⟨k + 1, q, f, by omega, by go_num, hq, HR6.out.drewN _, HX6.out.drewN _, below_drewN G6 _⟩
          case measure => simp [intOf]; omega
      · by_cases h1 : kk = 1
        · subst h1
          clear h0
          go_wp2_with fail
          have R0 : Rdr (wr.alloc (.cells #[.int .i64 1, .int .i64 nn] 37)) B t (p + a.size) e := HR.out.alloc _
          have X0 : Rdr (wr.alloc (.cells #[.int .i64 1, .int .i64 nn] 37)) (B + 1) c p e := HX.out.alloc _
          have G0 : Below B w (wr.alloc (.cells #[.int .i64 1, .int .i64 nn] 37)) := G.alloc (by exact Nat.le_trans hbs G.size) _
          have C0 : (wr.alloc (.cells #[.int .i64 1, .int .i64 nn] 37)).cell? ⟨wr.heap.size, 1, none⟩ = some (.int .i64 nn) := World.cell?_alloc_new wr _ _ 1
          have ob1 : B + 1 < wr.heap.size := HX.out.lt
          generalize wr.alloc (.cells #[.int .i64 1, .int .i64 nn] 37) = W0 at *
          generalize wr.heap.size = o at *
          have HR0 := Lib.hid R0
          have HX0 := Lib.hid X0
          clear R0 X0 HR HX hc0 hc1 G
          obtain ⟨v, q, f, hv1, hv2, hq⟩ := text_two a c p e nn hp
          rw [← HT.out] at hv2
          have HV1 := Lib.hid hv1
          have HV2 := Lib.hid hv2
          clear hv1 hv2
          go_region_held3 (fun w' => w'.cell? ⟨o, 1, none⟩ = some (.int .i64 nn)) (first | assumption | (simp only [World.cell?_drewN]; assumption) | (exact World.grownBy.cell (by assumption) (by assumption) (by simp; omega)))
            (first | (go_at_call_of 20 (Value.pointer (some ⟨B, 0, none⟩)); refine (text_at HV2.out (HR0.out.drewN _) hpt hs2).mono ?_; rintro x w1 ⟨rfl, r1, g1⟩) | (go_at_call 20; refine (text_at HV1.out (by first | exact (HX0.out.drewN _).kept g1 (by simp) | exact ((HX0.out.drewN _).kept g1 (by simp)).drewN _) hp hs).mono ?_; rintro x w2 ⟨rfl, r2, g2⟩))
          have R2 : Rdr w2 B t (q + a.size) f := r1.kept g2 (by simp)
          have G2 : Below B w w2 := ((below_drewN G0 1).grown g1 (by exact Nat.le_trans hbs G0.size) (fun j hj => by cases hj; exact Nat.le_refl _)).grown g2 (by exact Nat.le_trans (Nat.le_trans hbs G0.size) g1.size) (fun j hj => by cases hj; omega)
          have HR2 := Lib.hid R2
          have HX2 := Lib.hid r2
          clear HR0 HX0 r1 g1 g2 R2 r2 G0 C0
          have hqt : q + a.size ≤ t.size := by rw [HZ.out]; omega
          by_cases hf : f = 0
          · subst hf
            go_wp2_with fail
            refine (fault_any _ _ _ _ _ HR2.out).mono ?_
            rintro x w5 ⟨rfl, n5, hw5⟩
            rw [faultV0]
            have HR5 : Hid (Rdr w5 B t (q + a.size) 0) := by rw [hw5]; exact HR2.out.drewN _
            have HX5 : Hid (Rdr w5 (B + 1) c q 0) := by rw [hw5]; exact HX2.out.drewN _
            have G5 : Below B w w5 := by rw [hw5]; exact below_drewN G2 n5
            clear hw5 HR2 HX2 G2
            go_wp2_with fail
            refine (fault_any _ _ _ _ _ HX5.out).mono ?_
            rintro x w6 ⟨rfl, n6, hw6⟩
            rw [faultV0]
            have HR6 : Hid (Rdr w6 B t (q + a.size) 0) := by rw [hw6]; exact HR5.out.drewN _
            have HX6 : Hid (Rdr w6 (B + 1) c q 0) := by rw [hw6]; exact HX5.out.drewN _
            have G6 : Below B w w6 := by rw [hw6]; exact below_drewN G5 n6
            clear hw6 HR5 HX5 G5
            go_wp2_with fail
            refine (at_any _ _ _ _ _ HR6.out).mono ?_
            rintro x w7 ⟨rfl, rfl⟩
            go_wp2_with fail
            refine (at_any _ _ _ _ _ HX6.out).mono ?_
            rintro x w7 ⟨rfl, rfl⟩
            go_wp2_with fail
            refine (left_any _ _ _ _ _ HR6.out hqt hsm2).mono ?_
            rintro x w7 ⟨rfl, n7, rfl⟩
            go_wp2_with fail
            refine (left_any _ _ _ _ _ (HX6.out.drewN _) hq hsm).mono ?_
            rintro x w8 ⟨rfl, n8, rfl⟩
            rw [show t.size - (q + a.size) = c.size - q by rw [HZ.out]; omega]
            go_wp2
            go_roundw
            case rel => exact ⟨k + 1, q, 0, by omega, by go_num, hq, HR6.out.drewN _, HX6.out.drewN _, below_drewN G6 _⟩
            case measure => simp [intOf]; omega
          · have hd : (f != 0) = true := bne_iff_ne.2 hf
            have HP := Lib.hid (faultP_no (p := q + a.size) hf)
            have HQ := Lib.hid (faultP_no (p := q) hf)
            clear hf
            go_wp2_with fail
            refine (fault_any _ _ _ _ _ HR2.out).mono ?_
            rintro x w5 ⟨rfl, n5, hw5⟩
            rw [faultV_eq, HP.out]
            have HR5 : Hid (Rdr w5 B t (q + a.size) f) := by rw [hw5]; exact HR2.out.drewN _
            have HX5 : Hid (Rdr w5 (B + 1) c q f) := by rw [hw5]; exact HX2.out.drewN _
            have G5 : Below B w w5 := by rw [hw5]; exact below_drewN G2 n5
            clear hw5 HR2 HX2 G2
            go_wp2_with fail
            refine (fault_any _ _ _ _ _ HX5.out).mono ?_
            rintro x w6 ⟨rfl, n6, hw6⟩
            rw [faultV_eq, HQ.out]
            have HR6 : Hid (Rdr w6 B t (q + a.size) f) := by rw [hw6]; exact HR5.out.drewN _
            have HX6 : Hid (Rdr w6 (B + 1) c q f) := by rw [hw6]; exact HX5.out.drewN _
            have G6 : Below B w w6 := by rw [hw6]; exact below_drewN G5 n6
            clear hw6 HR5 HX5 G5
            go_wp2_with fail
            refine (at_any _ _ _ _ _ HR6.out).mono ?_
            rintro x w7 ⟨rfl, rfl⟩
            go_wp2_with fail
            refine (at_any _ _ _ _ _ HX6.out).mono ?_
            rintro x w7 ⟨rfl, rfl⟩
            go_wp2_with fail
            refine (left_any _ _ _ _ _ HR6.out hqt hsm2).mono ?_
            rintro x w7 ⟨rfl, n7, rfl⟩
            go_wp2_with fail
            refine (left_any _ _ _ _ _ (HX6.out.drewN _) hq hsm).mono ?_
            rintro x w8 ⟨rfl, n8, rfl⟩
            rw [show t.size - (q + a.size) = c.size - q by rw [HZ.out]; omega]
            go_wp2
            go_roundw
            case rel => exact ⟨k + 1, q, f, by omega, by go_num, hq, HR6.out.drewN _, HX6.out.drewN _, below_drewN G6 _⟩
            case measure => simp [intOf]; omega
        · by_cases h2 : kk = 2
          · subst h2
            clear h0 h1
            go_wp2_with fail
            have R0 : Rdr (wr.alloc (.cells #[.int .i64 2, .int .i64 nn] 37)) B t (p + a.size) e := HR.out.alloc _
            have X0 : Rdr (wr.alloc (.cells #[.int .i64 2, .int .i64 nn] 37)) (B + 1) c p e := HX.out.alloc _
            have G0 : Below B w (wr.alloc (.cells #[.int .i64 2, .int .i64 nn] 37)) := G.alloc (by exact Nat.le_trans hbs G.size) _
            have C0 : (wr.alloc (.cells #[.int .i64 2, .int .i64 nn] 37)).cell? ⟨wr.heap.size, 1, none⟩ = some (.int .i64 nn) := World.cell?_alloc_new wr _ _ 1
            have ob1 : B + 1 < wr.heap.size := HX.out.lt
            generalize wr.alloc (.cells #[.int .i64 2, .int .i64 nn] 37) = W0 at *
            generalize wr.heap.size = o at *
            have HR0 := Lib.hid R0
            have HX0 := Lib.hid X0
            clear R0 X0 HR HX hc0 hc1 G
            obtain ⟨v, q, f, hv1, hv2, hq⟩ := bytes_two a c p e nn hp
            rw [← HT.out] at hv2
            have HV1 := Lib.hid hv1
            have HV2 := Lib.hid hv2
            clear hv1 hv2
            go_region_held3 (fun w' => w'.cell? ⟨o, 1, none⟩ = some (.int .i64 nn)) (first | assumption | (simp only [World.cell?_drewN]; assumption) | (exact World.grownBy.cell (by assumption) (by assumption) (by simp; omega)))
              (first | (go_at_call_of 22 (Value.pointer (some ⟨B, 0, none⟩)); refine (bytes_at HV2.out (HR0.out.drewN _) hpt hs2).mono ?_; rintro x w1 ⟨rfl, r1, g1⟩) | (go_at_call 22; refine (bytes_at HV1.out (by first | exact (HX0.out.drewN _).kept g1 (by simp) | exact ((HX0.out.drewN _).kept g1 (by simp)).drewN _) hp hs).mono ?_; rintro x w2 ⟨rfl, r2, g2⟩))
            have R2 : Rdr w2 B t (q + a.size) f := r1.kept g2 (by simp)
            have G2 : Below B w w2 := ((below_drewN G0 1).grown g1 (by exact Nat.le_trans hbs G0.size) (fun j hj => by cases hj; exact Nat.le_refl _)).grown g2 (by exact Nat.le_trans (Nat.le_trans hbs G0.size) g1.size) (fun j hj => by cases hj; omega)
            have HR2 := Lib.hid R2
            have HX2 := Lib.hid r2
            clear HR0 HX0 r1 g1 g2 R2 r2 G0 C0
            have hqt : q + a.size ≤ t.size := by rw [HZ.out]; omega
            by_cases hf : f = 0
            · subst hf
              go_wp2_with fail
              refine (fault_any _ _ _ _ _ HR2.out).mono ?_
              rintro x w5 ⟨rfl, n5, hw5⟩
              rw [faultV0]
              have HR5 : Hid (Rdr w5 B t (q + a.size) 0) := by rw [hw5]; exact HR2.out.drewN _
              have HX5 : Hid (Rdr w5 (B + 1) c q 0) := by rw [hw5]; exact HX2.out.drewN _
              have G5 : Below B w w5 := by rw [hw5]; exact below_drewN G2 n5
              clear hw5 HR2 HX2 G2
              go_wp2_with fail
              refine (fault_any _ _ _ _ _ HX5.out).mono ?_
              rintro x w6 ⟨rfl, n6, hw6⟩
              rw [faultV0]
              have HR6 : Hid (Rdr w6 B t (q + a.size) 0) := by rw [hw6]; exact HR5.out.drewN _
              have HX6 : Hid (Rdr w6 (B + 1) c q 0) := by rw [hw6]; exact HX5.out.drewN _
              have G6 : Below B w w6 := by rw [hw6]; exact below_drewN G5 n6
              clear hw6 HR5 HX5 G5
              go_wp2_with fail
              refine (at_any _ _ _ _ _ HR6.out).mono ?_
              rintro x w7 ⟨rfl, rfl⟩
              go_wp2_with fail
              refine (at_any _ _ _ _ _ HX6.out).mono ?_
              rintro x w7 ⟨rfl, rfl⟩
              go_wp2_with fail
              refine (left_any _ _ _ _ _ HR6.out hqt hsm2).mono ?_
              rintro x w7 ⟨rfl, n7, rfl⟩
              go_wp2_with fail
              refine (left_any _ _ _ _ _ (HX6.out.drewN _) hq hsm).mono ?_
              rintro x w8 ⟨rfl, n8, rfl⟩
              rw [show t.size - (q + a.size) = c.size - q by rw [HZ.out]; omega]
              go_wp2
              go_roundw
              case rel => exact ⟨k + 1, q, 0, by omega, by go_num, hq, HR6.out.drewN _, HX6.out.drewN _, below_drewN G6 _⟩
              case measure => simp [intOf]; omega
            · have hd : (f != 0) = true := bne_iff_ne.2 hf
              have HP := Lib.hid (faultP_no (p := q + a.size) hf)
              have HQ := Lib.hid (faultP_no (p := q) hf)
              clear hf
              go_wp2_with fail
              refine (fault_any _ _ _ _ _ HR2.out).mono ?_
              rintro x w5 ⟨rfl, n5, hw5⟩
              rw [faultV_eq, HP.out]
              have HR5 : Hid (Rdr w5 B t (q + a.size) f) := by rw [hw5]; exact HR2.out.drewN _
              have HX5 : Hid (Rdr w5 (B + 1) c q f) := by rw [hw5]; exact HX2.out.drewN _
              have G5 : Below B w w5 := by rw [hw5]; exact below_drewN G2 n5
              clear hw5 HR2 HX2 G2
              go_wp2_with fail
              refine (fault_any _ _ _ _ _ HX5.out).mono ?_
              rintro x w6 ⟨rfl, n6, hw6⟩
              rw [faultV_eq, HQ.out]
              have HR6 : Hid (Rdr w6 B t (q + a.size) f) := by rw [hw6]; exact HR5.out.drewN _
              have HX6 : Hid (Rdr w6 (B + 1) c q f) := by rw [hw6]; exact HX5.out.drewN _
              have G6 : Below B w w6 := by rw [hw6]; exact below_drewN G5 n6
              clear hw6 HR5 HX5 G5
              go_wp2_with fail
              refine (at_any _ _ _ _ _ HR6.out).mono ?_
              rintro x w7 ⟨rfl, rfl⟩
              go_wp2_with fail
              refine (at_any _ _ _ _ _ HX6.out).mono ?_
              rintro x w7 ⟨rfl, rfl⟩
              go_wp2_with fail
              refine (left_any _ _ _ _ _ HR6.out hqt hsm2).mono ?_
              rintro x w7 ⟨rfl, n7, rfl⟩
              go_wp2_with fail
              refine (left_any _ _ _ _ _ (HX6.out.drewN _) hq hsm).mono ?_
              rintro x w8 ⟨rfl, n8, rfl⟩
              rw [show t.size - (q + a.size) = c.size - q by rw [HZ.out]; omega]
              go_wp2
              go_roundw
              case rel => exact ⟨k + 1, q, f, by omega, by go_num, hq, HR6.out.drewN _, HX6.out.drewN _, below_drewN G6 _⟩
              case measure => simp [intOf]; omega
          · have d0 : (kk == 0) = false := beq_eq_false_iff_ne.2 h0
            have d1 : (kk == 1) = false := beq_eq_false_iff_ne.2 h1
            have d2 : (kk == 2) = false := beq_eq_false_iff_ne.2 h2
            clear h0 h1 h2
            go_wp2_with fail
            have R0 : Rdr (wr.alloc (.cells #[.int .i64 kk, .int .i64 nn] 37)) B t (p + a.size) e := HR.out.alloc _
            have X0 : Rdr (wr.alloc (.cells #[.int .i64 kk, .int .i64 nn] 37)) (B + 1) c p e := HX.out.alloc _
            have G0 : Below B w (wr.alloc (.cells #[.int .i64 kk, .int .i64 nn] 37)) := G.alloc (by exact Nat.le_trans hbs G.size) _
            have C0 : (wr.alloc (.cells #[.int .i64 kk, .int .i64 nn] 37)).cell? ⟨wr.heap.size, 1, none⟩ = some (.int .i64 nn) := World.cell?_alloc_new wr _ _ 1
            have ob1 : B + 1 < wr.heap.size := HX.out.lt
            generalize wr.alloc (.cells #[.int .i64 kk, .int .i64 nn] 37) = W0 at *
            generalize wr.heap.size = o at *
            have HR0 := Lib.hid R0
            have HX0 := Lib.hid X0
            clear R0 X0 HR HX hc0 hc1 G
            have HR2 := HR0
            have HX2 := HX0
            have G2 := G0
            have hq := hp
            generalize p = q at *
            generalize e = f at *
            clear HR0 HX0 G0 C0
            have hqt : q + a.size ≤ t.size := by rw [HZ.out]; omega
            by_cases hf : f = 0
            · subst hf
              go_wp2_with fail
              refine (fault_any _ _ _ _ _ HR2.out).mono ?_
              rintro x w5 ⟨rfl, n5, hw5⟩
              rw [faultV0]
              have HR5 : Hid (Rdr w5 B t (q + a.size) 0) := by rw [hw5]; exact HR2.out.drewN _
              have HX5 : Hid (Rdr w5 (B + 1) c q 0) := by rw [hw5]; exact HX2.out.drewN _
              have G5 : Below B w w5 := by rw [hw5]; exact below_drewN G2 n5
              clear hw5 HR2 HX2 G2
              go_wp2_with fail
              refine (fault_any _ _ _ _ _ HX5.out).mono ?_
              rintro x w6 ⟨rfl, n6, hw6⟩
              rw [faultV0]
              have HR6 : Hid (Rdr w6 B t (q + a.size) 0) := by rw [hw6]; exact HR5.out.drewN _
              have HX6 : Hid (Rdr w6 (B + 1) c q 0) := by rw [hw6]; exact HX5.out.drewN _
              have G6 : Below B w w6 := by rw [hw6]; exact below_drewN G5 n6
              clear hw6 HR5 HX5 G5
              go_wp2_with fail
              refine (at_any _ _ _ _ _ HR6.out).mono ?_
              rintro x w7 ⟨rfl, rfl⟩
              go_wp2_with fail
              refine (at_any _ _ _ _ _ HX6.out).mono ?_
              rintro x w7 ⟨rfl, rfl⟩
              go_wp2_with fail
              refine (left_any _ _ _ _ _ HR6.out hqt hsm2).mono ?_
              rintro x w7 ⟨rfl, n7, rfl⟩
              go_wp2_with fail
              refine (left_any _ _ _ _ _ (HX6.out.drewN _) hq hsm).mono ?_
              rintro x w8 ⟨rfl, n8, rfl⟩
              rw [show t.size - (q + a.size) = c.size - q by rw [HZ.out]; omega]
              go_wp2
              go_roundw
              case rel => exact ⟨k + 1, q, 0, by omega, by go_num, hq, HR6.out.drewN _, HX6.out.drewN _, below_drewN G6 _⟩
              case measure => simp [intOf]; omega
            · have hd : (f != 0) = true := bne_iff_ne.2 hf
              have HP := Lib.hid (faultP_no (p := q + a.size) hf)
              have HQ := Lib.hid (faultP_no (p := q) hf)
              clear hf
              go_wp2_with fail
              refine (fault_any _ _ _ _ _ HR2.out).mono ?_
              rintro x w5 ⟨rfl, n5, hw5⟩
              rw [faultV_eq, HP.out]
              have HR5 : Hid (Rdr w5 B t (q + a.size) f) := by rw [hw5]; exact HR2.out.drewN _
              have HX5 : Hid (Rdr w5 (B + 1) c q f) := by rw [hw5]; exact HX2.out.drewN _
              have G5 : Below B w w5 := by rw [hw5]; exact below_drewN G2 n5
              clear hw5 HR2 HX2 G2
              go_wp2_with fail
              refine (fault_any _ _ _ _ _ HX5.out).mono ?_
              rintro x w6 ⟨rfl, n6, hw6⟩
              rw [faultV_eq, HQ.out]
              have HR6 : Hid (Rdr w6 B t (q + a.size) f) := by rw [hw6]; exact HR5.out.drewN _
              have HX6 : Hid (Rdr w6 (B + 1) c q f) := by rw [hw6]; exact HX5.out.drewN _
              have G6 : Below B w w6 := by rw [hw6]; exact below_drewN G5 n6
              clear hw6 HR5 HX5 G5
              go_wp2_with fail
              refine (at_any _ _ _ _ _ HR6.out).mono ?_
              rintro x w7 ⟨rfl, rfl⟩
              go_wp2_with fail
              refine (at_any _ _ _ _ _ HX6.out).mono ?_
              rintro x w7 ⟨rfl, rfl⟩
              go_wp2_with fail
              refine (left_any _ _ _ _ _ HR6.out hqt hsm2).mono ?_
              rintro x w7 ⟨rfl, n7, rfl⟩
              go_wp2_with fail
              refine (left_any _ _ _ _ _ (HX6.out.drewN _) hq hsm).mono ?_
              rintro x w8 ⟨rfl, n8, rfl⟩
              rw [show t.size - (q + a.size) = c.size - q by rw [HZ.out]; omega]
              go_wp2
              go_roundw
              case rel => exact ⟨k + 1, q, f, by omega, by go_num, hq, HR6.out.drewN _, HX6.out.drewN _, below_drewN G6 _⟩
              case measure => simp [intOf]; omega
    · go_wp2
      go_ret
      exact ⟨rfl, by rw [← HB.out]; exact G⟩
end CodeJoins
end Go.Proofs.Ytjehjkibgaeibaa
