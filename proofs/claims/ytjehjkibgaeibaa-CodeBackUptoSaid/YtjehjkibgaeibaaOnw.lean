/- Whatever a reader of the code reads without a fault, laid again, is the bytes that were read; behind a fault nothing moves: the walk of the law. Conditions: the bytes are at most 2^48, the calls at most 2^63 - 1. -/
import Derived.Test.YtjehjkibgaeibaaRds
namespace Go.Proofs.Ytjehjkibgaeibaa
open Go.RowKit
set_option linter.unusedVariables false

/-- a number's form, of whatever width -/
def putW (n m : Int) : ByteArray := if 1 ≤ m ∧ m ≤ 8 then ⟨(putS n m.toNat).toArray⟩ else ⟨#[]⟩
theorem put_all (n m : Int) (w : World) :
    Calls Try.prog 13 #[.int .i64 n, .int .i64 m] w fun e w' => e = .returned (.string (putW n m)) ∧ Below w.heap.size w w' := by
  unfold putW
  by_cases h : 1 ≤ m ∧ m ≤ 8
  · rw [if_pos h]; exact put_int n m w h.1 h.2
  · rw [if_neg h]; exact (put_none n m w h).mono fun e w' ⟨h1, h2⟩ => ⟨h1, by rw [← h2]; exact Below.refl _ _⟩

/-- what a call of a reader comes to: no fault, and what was read, laid again, is the bytes between the places; or a fault, and nothing has moved -/
def Step (s : ByteArray) (p : Nat) (e : Int) (out : ByteArray) (q : Nat) (f : Int) : Prop :=
  (f = 0 ∧ e = 0 ∧ p ≤ q ∧ q ≤ s.size ∧ out = s.extract p q) ∨ (f ≠ 0 ∧ q = p ∧ (e = 0 ∨ e = f))

theorem step_num {s : ByteArray} {p : Nat} {e n : Int} (h : p ≤ s.size) : Step s p e (putW (numR s p e n).1 n) (numR s p e n).2.1 (numR s p e n).2.2 := by
  unfold numR
  split
  · rename_i h0; exact .inr ⟨h0, rfl, .inr rfl⟩
  · rename_i h0
    have h0 : e = 0 := by omega
    split
    · exact .inr ⟨(by simp), rfl, .inl h0⟩
    · rename_i hw
      have hw : 1 ≤ n ∧ n ≤ 8 := by omega
      split
      · exact .inr ⟨(by simp), rfl, .inl h0⟩
      · rename_i hm
        refine .inl ⟨rfl, h0, Nat.le_add_right _ _, by show p + n.toNat ≤ s.size; omega, ?_⟩
        show putW (numS ((s.data.toList.drop p).take n.toNat)) n = s.extract p (p + n.toNat)
        unfold putW
        rw [if_pos hw]
        have hl : ((s.data.toList.drop p).take n.toNat).length = n.toNat := by simp; omega
        have hp := putS_num ((s.data.toList.drop p).take n.toNat) (by omega)
        rw [hl] at hp
        rw [hp, ← ext_list]
theorem step_bytes {s : ByteArray} {p : Nat} {e n : Int} (h : p ≤ s.size) : Step s p e (bytesR s p e n).1 (bytesR s p e n).2.1 (bytesR s p e n).2.2 := by
  unfold bytesR
  split
  · rename_i h0; exact .inr ⟨h0, rfl, .inr rfl⟩
  · rename_i h0
    have h0 : e = 0 := by omega
    split
    · exact .inr ⟨(by simp), rfl, .inl h0⟩
    · split
      · exact .inr ⟨(by simp), rfl, .inl h0⟩
      · exact .inl ⟨rfl, h0, Nat.le_add_right _ _, by show p + n.toNat ≤ s.size; omega, rfl⟩
theorem headN_put (s : ByteArray) (p : Nat) (h : 2 ≤ s.size - p) : putS (headN s p : Nat) 2 = (s.data.toList.drop p).take 2 := by
  have hl : ((s.data.toList.drop p).take 2).length = 2 := by simp; omega
  have := putS_be ((s.data.toList.drop p).take 2)
  rwa [hl] at this
theorem text_laid (s : ByteArray) (p k : Nat) (h2 : 2 ≤ s.size - p) (hk : k = headN s p) (hl : k ≤ s.size - p - 2) : (⟨(textS (s.extract (p + 2) (p + (2 + k))).data.toList).toArray⟩ : ByteArray) = s.extract p (p + (2 + k)) := by
  have e1 : (s.extract (p + 2) (p + (2 + k))).data.toList = (s.data.toList.drop (p + 2)).take k := by
    rw [show p + (2 + k) = p + 2 + k by omega, ext_list]
  have e3 : ((s.data.toList.drop (p + 2)).take k).length = k := by simp; omega
  have e2 : textS ((s.data.toList.drop (p + 2)).take k) = (s.data.toList.drop p).take (2 + k) := by
    unfold textS
    rw [e3, hk, headN_put s p h2, ← List.drop_drop, ← List.take_add]
  rw [e1, e2, ← ext_list]
theorem step_text {s : ByteArray} {p : Nat} {e n : Int} (h : p ≤ s.size) : Step s p e ⟨(textS (textR s p e n).1.data.toList).toArray⟩ (textR s p e n).2.1 (textR s p e n).2.2 := by
  unfold textR
  split
  · rename_i h0; exact .inr ⟨h0, rfl, .inr rfl⟩
  · rename_i h0
    have h0 : e = 0 := by omega
    split
    · exact .inr ⟨(by simp), rfl, .inl h0⟩
    · split
      · exact .inr ⟨(by simp), rfl, .inl h0⟩
      · split
        · exact .inr ⟨(by simp), rfl, .inl h0⟩
        · split
          · exact .inr ⟨(by simp), rfl, .inl h0⟩
          · exact .inl ⟨rfl, h0, by show p ≤ p + (2 + headN s p); omega, by show p + (2 + headN s p) ≤ s.size; omega, text_laid s p _ (by omega) rfl (by omega)⟩
theorem text_short {s : ByteArray} {p : Nat} {e n : Int} (h : p ≤ s.size) (hn : n ≤ 1024) : (textR s p e n).1.size ≤ 1024 := by
  unfold textR
  split
  · (show (⟨#[]⟩ : ByteArray).size ≤ 1024; decide)
  · split
    · (show (⟨#[]⟩ : ByteArray).size ≤ 1024; decide)
    · split
      · (show (⟨#[]⟩ : ByteArray).size ≤ 1024; decide)
      · split
        · (show (⟨#[]⟩ : ByteArray).size ≤ 1024; decide)
        · split
          · (show (⟨#[]⟩ : ByteArray).size ≤ 1024; decide)
          · show (s.extract (p + 2) (p + (2 + headN s p))).size ≤ 1024
            rw [ext_size _ _ _ (by omega)]; omega
theorem step_none {s : ByteArray} {p : Nat} {e : Int} (h : p ≤ s.size) : Step s p e ⟨#[]⟩ p e := by
  by_cases h0 : e = 0
  · refine .inl ⟨h0, h0, Nat.le_refl _, h, ?_⟩
    apply ByteArray.ext
    simp
  · exact .inr ⟨h0, rfl, .inr rfl⟩
theorem faultP_ne {p : Nat} {e : Int} (h : e ≠ 0) : faultP p e = p := if_neg h

namespace CodeOnce
set_option maxRecDepth 100000 in
set_option maxHeartbeats 4000000 in
theorem walk (s : ByteArray) (ao : Option Addr) (len cap : Nat) (K N : Nat → Int) (w : World) (hs : s.size ≤ 281474976710656) (hlen : len ≤ 9223372036854775807) (hops : OpsAt w ao len K N) :
    Calls Try.prog 6 #[.string s, .slice ao len cap] w fun e w' => e = .returned (.bool true) ∧ Below w.heap.size w w' := by
  have hsm : s.size ≤ maxLen := by unfold maxLen; omega
  obtain ⟨B, hB⟩ : ∃ B, B = w.heap.size := ⟨_, rfl⟩
  have hbs : B ≤ w.heap.size := by rw [hB]; exact Nat.le_refl _
  have HB := Lib.hid hB
  clear hB
  have HO := Lib.hid hops
  clear hops
  go_enter Try.func6, Try.ntmps6
  go_wp2_with fail
  refine (new_any _ _).mono ?_
  rintro x w1 ⟨rfl, rfl⟩
  go_wp2_with fail
  refine (fixed_any _).mono ?_
  rintro x w3 ⟨rfl, b3⟩
  have R1 : Rdr (w.alloc (.cells #[.string s, .int .i64 0, .int .i64 0] 58)) B s 0 0 := by rw [HB.out]; exact newR
  have G1 : Below B w (w.alloc (.cells #[.string s, .int .i64 0, .int .i64 0] 58)) := by rw [HB.out]; exact newG w
  have R3 : Rdr w3 B s 0 0 := R1.below b3
  have G3 : Below B w w3 := G1.trans (b3.mono (by simp; rw [← HB.out]; omega))
  rw [← HB.out]
  have HR3 := Lib.hid R3
  clear R1 G1 R3 b3
  go_wp2_with fail
  go_loopw [6] (fun i wr => ∃ (k p : Nat) (e : Int), k ≤ len ∧ i = .int .i64 (k : Int) ∧ p ≤ s.size ∧ Hid (Rdr wr B s p e) ∧ Below B w wr) (fun i _ => len - (intOf i).toNat)
  case atStart => exact ⟨0, 0, 0, Nat.zero_le _, rfl, Nat.zero_le _, HR3, G3⟩
  case round =>
    clear HR3 G3
    obtain ⟨k, p, e, hk, rfl, hp, HR, G⟩ := hrel
    by_cases hlt : k < len
    · obtain ⟨ob, oo, rfl, hc0, hc1, hob⟩ := HO.out k hlt
      have hc0 := (G.cell (p := ⟨ob, oo + k * 2, none⟩) (by rw [HB.out]; exact hob)).trans hc0
      have hc1 := (G.cell (p := ⟨ob, oo + k * 2 + 1, none⟩) (by rw [HB.out]; exact hob)).trans hc1
      generalize K k = kk at *
      generalize N k = nn at *
      go_wp2_with fail
      refine (at_any _ _ _ _ _ HR.out).mono ?_
      rintro x w4 ⟨rfl, rfl⟩
      go_wp2_with fail
      refine (fault_any _ _ _ _ _ HR.out).mono ?_
      rintro x w4 ⟨rfl, n4, hw4⟩
      rw [faultV_eq]
      have HR : Hid (Rdr w4 B s p e) := by rw [hw4]; exact HR.out.drewN _
      have hc0 : w4.cell? ⟨ob, oo + k * 2, none⟩ = some (.int .i64 kk) := by rw [hw4]; exact hc0
      have hc1 : w4.cell? ⟨ob, oo + k * 2 + 1, none⟩ = some (.int .i64 nn) := by rw [hw4]; exact hc1
      have G : Below B w w4 := by rw [hw4]; exact below_drewN G n4
      clear hw4
      by_cases h0 : kk = 0
      · subst h0
        go_wp2_with fail
        have R0 : Rdr (w4.alloc (.cells #[.int .i64 0, .int .i64 nn] 37)) B s p e := HR.out.alloc _
        have G0 : Below B w (w4.alloc (.cells #[.int .i64 0, .int .i64 nn] 37)) := G.alloc (by exact Nat.le_trans hbs G.size) _
        have C0 : (w4.alloc (.cells #[.int .i64 0, .int .i64 nn] 37)).cell? ⟨w4.heap.size, 1, none⟩ = some (.int .i64 nn) := World.cell?_alloc_new w4 _ _ 1
        have ob1 : B < w4.heap.size := HR.out.lt
        generalize w4.alloc (.cells #[.int .i64 0, .int .i64 nn] 37) = W0 at *
        generalize w4.heap.size = o at *
        have HR0 := Lib.hid R0
        clear R0 HR hc0 hc1 G
        go_region_held3 (fun w' => w'.cell? ⟨o, 1, none⟩ = some (.int .i64 nn)) (first | assumption | (simp only [World.cell?_drewN]; assumption) | (exact World.grownBy.cell (by assumption) (by assumption) (by simp; omega)) | (exact (Below.cell (by assumption) (World.block_lt_of_cell? _ _ (by assumption))).trans (by assumption)))
          (first | (go_at_call 18; refine (num_any _ B s p e nn (HR0.out.drewN _) hp hs).mono ?_; rintro x w1 ⟨rfl, r1, g1⟩) | (go_at_call 13; refine (put_all _ _ _).mono ?_; rintro x w2 ⟨rfl, b2⟩))
        have R2 : Rdr w2 B s (numR s p e nn).2.1 (numR s p e nn).2.2 := r1.below b2
        have G2 : Below B w w2 := ((below_drewN G0 1).grown g1 (by exact Nat.le_trans hbs G0.size) (fun j hj => by cases hj; exact Nat.le_refl _)).trans (b2.mono (Nat.le_of_lt r1.lt))
        have hst := step_num (n := nn) (e := e) hp
        generalize putW (numR s p e nn).1 nn = O at *
        generalize (numR s p e nn).2.1 = p2 at *
        generalize (numR s p e nn).2.2 = e2 at *
        have HR2 := Lib.hid R2
        clear HR0 r1 g1 b2 R2 G0 C0
        rcases hst with ⟨rfl, rfl, hle, hle2, rfl⟩ | ⟨hne, rfl, hee⟩
        · go_wp2_with fail
          refine (fault_any _ _ _ _ _ HR2.out).mono ?_
          rintro x w5 ⟨rfl, n5, hw5⟩
          rw [faultV_eq]
          have HR5 : Hid (Rdr w5 B s p2 0) := by rw [hw5]; exact HR2.out.drewN _
          have G5 : Below B w w5 := by rw [hw5]; exact below_drewN G2 n5
          clear hw5 HR2 G2
          go_wp2_with fail
          refine (at_any _ _ _ _ _ HR5.out).mono ?_
          rintro x w6 ⟨rfl, rfl⟩
          go_wp2
          go_roundw
          case rel => exact ⟨k + 1, p2, 0, by omega, by go_num, hle2, HR5, G5⟩
          case measure => simp [intOf]; omega
        · have hd : (e2 != 0) = true := bne_iff_ne.2 hne
          have HP := Lib.hid (faultP_ne (p := p2) hne)
          clear hne
          rcases hee with rfl | rfl
          · go_wp2_with fail
            refine (fault_any _ _ _ _ _ HR2.out).mono ?_
            rintro x w5 ⟨rfl, n5, hw5⟩
            rw [faultV_eq, HP.out]
            have HR5 : Hid (Rdr w5 B s p2 e2) := by rw [hw5]; exact HR2.out.drewN _
            have G5 : Below B w w5 := by rw [hw5]; exact below_drewN G2 n5
            clear hw5 HR2 G2
            go_wp2_with fail
            refine (at_any _ _ _ _ _ HR5.out).mono ?_
            rintro x w6 ⟨rfl, rfl⟩
            go_wp2
            go_roundw
            case rel => exact ⟨k + 1, p2, e2, by omega, by go_num, hp, HR5, G5⟩
            case measure => simp [intOf]; omega
          · go_wp2_with fail
            refine (fault_any _ _ _ _ _ HR2.out).mono ?_
            rintro x w5 ⟨rfl, n5, hw5⟩
            rw [faultV_eq, HP.out]
            have HR5 : Hid (Rdr w5 B s p2 e) := by rw [hw5]; exact HR2.out.drewN _
            have G5 : Below B w w5 := by rw [hw5]; exact below_drewN G2 n5
            clear hw5 HR2 G2
            go_wp2_with fail
            refine (at_any _ _ _ _ _ HR5.out).mono ?_
            rintro x w6 ⟨rfl, rfl⟩
            go_wp2
            go_roundw
            case rel => exact ⟨k + 1, p2, e, by omega, by go_num, hp, HR5, G5⟩
            case measure => simp [intOf]; omega
      · by_cases h1 : kk = 1
        · subst h1
          clear h0
          by_cases hmin : nn < 1024
          · go_wp2_with fail
            have R0 : Rdr (w4.alloc (.cells #[.int .i64 1, .int .i64 nn] 37)) B s p e := HR.out.alloc _
            have G0 : Below B w (w4.alloc (.cells #[.int .i64 1, .int .i64 nn] 37)) := G.alloc (by exact Nat.le_trans hbs G.size) _
            have C0 : (w4.alloc (.cells #[.int .i64 1, .int .i64 nn] 37)).cell? ⟨w4.heap.size, 1, none⟩ = some (.int .i64 nn) := World.cell?_alloc_new w4 _ _ 1
            have ob1 : B < w4.heap.size := HR.out.lt
            generalize w4.alloc (.cells #[.int .i64 1, .int .i64 nn] 37) = W0 at *
            generalize w4.heap.size = o at *
            have HR0 := Lib.hid R0
            clear R0 HR hc0 hc1 G
            refine (text_any _ _ _ _ _ _ HR0.out hp hs).mono ?_
            rintro x w1 ⟨rfl, r1, g1⟩
            have hsh := text_short (e := e) (n := nn) hp (by omega)
            go_wp2_with fail
            refine (puttext_any _ _ hsh).mono ?_
            rintro x w2 ⟨rfl, b2⟩
            have R2 : Rdr w2 B s (textR s p e nn).2.1 (textR s p e nn).2.2 := r1.below b2
            have G2 : Below B w w2 := (G0.grown g1 (by exact Nat.le_trans hbs G0.size) (fun j hj => by cases hj; exact Nat.le_refl _)).trans (b2.mono (Nat.le_of_lt r1.lt))
            have hst := step_text (n := nn) (e := e) hp
            clear hsh
            generalize (⟨(textS (textR s p e nn).1.data.toList).toArray⟩ : ByteArray) = O at *
            generalize (textR s p e nn).1 = O1 at *
            generalize (textR s p e nn).2.1 = p2 at *
            generalize (textR s p e nn).2.2 = e2 at *
            have HR2 := Lib.hid R2
            clear HR0 r1 g1 b2 R2 G0 C0
            rcases hst with ⟨rfl, rfl, hle, hle2, rfl⟩ | ⟨hne, rfl, hee⟩
            · go_wp2_with fail
              refine (fault_any _ _ _ _ _ HR2.out).mono ?_
              rintro x w5 ⟨rfl, n5, hw5⟩
              rw [faultV_eq]
              have HR5 : Hid (Rdr w5 B s p2 0) := by rw [hw5]; exact HR2.out.drewN _
              have G5 : Below B w w5 := by rw [hw5]; exact below_drewN G2 n5
              clear hw5 HR2 G2
              go_wp2_with fail
              refine (at_any _ _ _ _ _ HR5.out).mono ?_
              rintro x w6 ⟨rfl, rfl⟩
              go_wp2
              go_roundw
              case rel => exact ⟨k + 1, p2, 0, by omega, by go_num, hle2, HR5, G5⟩
              case measure => simp [intOf]; omega
            · have hd : (e2 != 0) = true := bne_iff_ne.2 hne
              have HP := Lib.hid (faultP_ne (p := p2) hne)
              clear hne
              rcases hee with rfl | rfl
              · go_wp2_with fail
                refine (fault_any _ _ _ _ _ HR2.out).mono ?_
                rintro x w5 ⟨rfl, n5, hw5⟩
                rw [faultV_eq, HP.out]
                have HR5 : Hid (Rdr w5 B s p2 e2) := by rw [hw5]; exact HR2.out.drewN _
                have G5 : Below B w w5 := by rw [hw5]; exact below_drewN G2 n5
                clear hw5 HR2 G2
                go_wp2_with fail
                refine (at_any _ _ _ _ _ HR5.out).mono ?_
                rintro x w6 ⟨rfl, rfl⟩
                go_wp2
                go_roundw
                case rel => exact ⟨k + 1, p2, e2, by omega, by go_num, hp, HR5, G5⟩
                case measure => simp [intOf]; omega
              · go_wp2_with fail
                refine (fault_any _ _ _ _ _ HR2.out).mono ?_
                rintro x w5 ⟨rfl, n5, hw5⟩
                rw [faultV_eq, HP.out]
                have HR5 : Hid (Rdr w5 B s p2 e) := by rw [hw5]; exact HR2.out.drewN _
                have G5 : Below B w w5 := by rw [hw5]; exact below_drewN G2 n5
                clear hw5 HR2 G2
                go_wp2_with fail
                refine (at_any _ _ _ _ _ HR5.out).mono ?_
                rintro x w6 ⟨rfl, rfl⟩
                go_wp2
                go_roundw
                case rel => exact ⟨k + 1, p2, e, by omega, by go_num, hp, HR5, G5⟩
                case measure => simp [intOf]; omega
          · have hmin : 1024 ≤ nn := by omega
            go_wp2_with fail
            have R0 : Rdr (w4.alloc (.cells #[.int .i64 1, .int .i64 nn] 37)) B s p e := HR.out.alloc _
            have G0 : Below B w (w4.alloc (.cells #[.int .i64 1, .int .i64 nn] 37)) := G.alloc (by exact Nat.le_trans hbs G.size) _
            have C0 : (w4.alloc (.cells #[.int .i64 1, .int .i64 nn] 37)).cell? ⟨w4.heap.size, 1, none⟩ = some (.int .i64 nn) := World.cell?_alloc_new w4 _ _ 1
            have ob1 : B < w4.heap.size := HR.out.lt
            generalize w4.alloc (.cells #[.int .i64 1, .int .i64 nn] 37) = W0 at *
            generalize w4.heap.size = o at *
            have HR0 := Lib.hid R0
            clear R0 HR hc0 hc1 G
            refine (text_any _ _ _ _ _ _ HR0.out hp hs).mono ?_
            rintro x w1 ⟨rfl, r1, g1⟩
            have hsh := text_short (e := e) (n := 1024) hp (by omega)
            go_wp2_with fail
            refine (puttext_any _ _ hsh).mono ?_
            rintro x w2 ⟨rfl, b2⟩
            have R2 : Rdr w2 B s (textR s p e 1024).2.1 (textR s p e 1024).2.2 := r1.below b2
            have G2 : Below B w w2 := (G0.grown g1 (by exact Nat.le_trans hbs G0.size) (fun j hj => by cases hj; exact Nat.le_refl _)).trans (b2.mono (Nat.le_of_lt r1.lt))
            have hst := step_text (n := 1024) (e := e) hp
            clear hsh
            generalize (⟨(textS (textR s p e 1024).1.data.toList).toArray⟩ : ByteArray) = O at *
            generalize (textR s p e 1024).1 = O1 at *
            generalize (textR s p e 1024).2.1 = p2 at *
            generalize (textR s p e 1024).2.2 = e2 at *
            have HR2 := Lib.hid R2
            clear HR0 r1 g1 b2 R2 G0 C0
            rcases hst with ⟨rfl, rfl, hle, hle2, rfl⟩ | ⟨hne, rfl, hee⟩
            · go_wp2_with fail
              refine (fault_any _ _ _ _ _ HR2.out).mono ?_
              rintro x w5 ⟨rfl, n5, hw5⟩
              rw [faultV_eq]
              have HR5 : Hid (Rdr w5 B s p2 0) := by rw [hw5]; exact HR2.out.drewN _
              have G5 : Below B w w5 := by rw [hw5]; exact below_drewN G2 n5
              clear hw5 HR2 G2
              go_wp2_with fail
              refine (at_any _ _ _ _ _ HR5.out).mono ?_
              rintro x w6 ⟨rfl, rfl⟩
              go_wp2
              go_roundw
              case rel => exact ⟨k + 1, p2, 0, by omega, by go_num, hle2, HR5, G5⟩
              case measure => simp [intOf]; omega
            · have hd : (e2 != 0) = true := bne_iff_ne.2 hne
              have HP := Lib.hid (faultP_ne (p := p2) hne)
              clear hne
              rcases hee with rfl | rfl
              · go_wp2_with fail
                refine (fault_any _ _ _ _ _ HR2.out).mono ?_
                rintro x w5 ⟨rfl, n5, hw5⟩
                rw [faultV_eq, HP.out]
                have HR5 : Hid (Rdr w5 B s p2 e2) := by rw [hw5]; exact HR2.out.drewN _
                have G5 : Below B w w5 := by rw [hw5]; exact below_drewN G2 n5
                clear hw5 HR2 G2
                go_wp2_with fail
                refine (at_any _ _ _ _ _ HR5.out).mono ?_
                rintro x w6 ⟨rfl, rfl⟩
                go_wp2
                go_roundw
                case rel => exact ⟨k + 1, p2, e2, by omega, by go_num, hp, HR5, G5⟩
                case measure => simp [intOf]; omega
              · go_wp2_with fail
                refine (fault_any _ _ _ _ _ HR2.out).mono ?_
                rintro x w5 ⟨rfl, n5, hw5⟩
                rw [faultV_eq, HP.out]
                have HR5 : Hid (Rdr w5 B s p2 e) := by rw [hw5]; exact HR2.out.drewN _
                have G5 : Below B w w5 := by rw [hw5]; exact below_drewN G2 n5
                clear hw5 HR2 G2
                go_wp2_with fail
                refine (at_any _ _ _ _ _ HR5.out).mono ?_
                rintro x w6 ⟨rfl, rfl⟩
                go_wp2
                go_roundw
                case rel => exact ⟨k + 1, p2, e, by omega, by go_num, hp, HR5, G5⟩
                case measure => simp [intOf]; omega
        · by_cases h2 : kk = 2
          · subst h2
            clear h0 h1
            go_wp2_with fail
            have R0 : Rdr (w4.alloc (.cells #[.int .i64 2, .int .i64 nn] 37)) B s p e := HR.out.alloc _
            have G0 : Below B w (w4.alloc (.cells #[.int .i64 2, .int .i64 nn] 37)) := G.alloc (by exact Nat.le_trans hbs G.size) _
            have C0 : (w4.alloc (.cells #[.int .i64 2, .int .i64 nn] 37)).cell? ⟨w4.heap.size, 1, none⟩ = some (.int .i64 nn) := World.cell?_alloc_new w4 _ _ 1
            have ob1 : B < w4.heap.size := HR.out.lt
            generalize w4.alloc (.cells #[.int .i64 2, .int .i64 nn] 37) = W0 at *
            generalize w4.heap.size = o at *
            have HR0 := Lib.hid R0
            clear R0 HR hc0 hc1 G
            refine (bytes_any _ _ _ _ _ _ HR0.out hp hs).mono ?_
            rintro x w2 ⟨rfl, R2, g1⟩
            have G2 : Below B w w2 := G0.grown g1 (by exact Nat.le_trans hbs G0.size) (fun j hj => by cases hj; exact Nat.le_refl _)
            have hst := step_bytes (n := nn) (e := e) hp
            generalize (bytesR s p e nn).1 = O at *
            generalize (bytesR s p e nn).2.1 = p2 at *
            generalize (bytesR s p e nn).2.2 = e2 at *
            have HR2 := Lib.hid R2
            clear HR0 g1 R2 G0 C0
            rcases hst with ⟨rfl, rfl, hle, hle2, rfl⟩ | ⟨hne, rfl, hee⟩
            · go_wp2_with fail
              refine (fault_any _ _ _ _ _ HR2.out).mono ?_
              rintro x w5 ⟨rfl, n5, hw5⟩
              rw [faultV_eq]
              have HR5 : Hid (Rdr w5 B s p2 0) := by rw [hw5]; exact HR2.out.drewN _
              have G5 : Below B w w5 := by rw [hw5]; exact below_drewN G2 n5
              clear hw5 HR2 G2
              go_wp2_with fail
              refine (at_any _ _ _ _ _ HR5.out).mono ?_
              rintro x w6 ⟨rfl, rfl⟩
              go_wp2
              go_roundw
              case rel => exact ⟨k + 1, p2, 0, by omega, by go_num, hle2, HR5, G5⟩
              case measure => simp [intOf]; omega
            · have hd : (e2 != 0) = true := bne_iff_ne.2 hne
              have HP := Lib.hid (faultP_ne (p := p2) hne)
              clear hne
              rcases hee with rfl | rfl
              · go_wp2_with fail
                refine (fault_any _ _ _ _ _ HR2.out).mono ?_
                rintro x w5 ⟨rfl, n5, hw5⟩
                rw [faultV_eq, HP.out]
                have HR5 : Hid (Rdr w5 B s p2 e2) := by rw [hw5]; exact HR2.out.drewN _
                have G5 : Below B w w5 := by rw [hw5]; exact below_drewN G2 n5
                clear hw5 HR2 G2
                go_wp2_with fail
                refine (at_any _ _ _ _ _ HR5.out).mono ?_
                rintro x w6 ⟨rfl, rfl⟩
                go_wp2
                go_roundw
                case rel => exact ⟨k + 1, p2, e2, by omega, by go_num, hp, HR5, G5⟩
                case measure => simp [intOf]; omega
              · go_wp2_with fail
                refine (fault_any _ _ _ _ _ HR2.out).mono ?_
                rintro x w5 ⟨rfl, n5, hw5⟩
                rw [faultV_eq, HP.out]
                have HR5 : Hid (Rdr w5 B s p2 e) := by rw [hw5]; exact HR2.out.drewN _
                have G5 : Below B w w5 := by rw [hw5]; exact below_drewN G2 n5
                clear hw5 HR2 G2
                go_wp2_with fail
                refine (at_any _ _ _ _ _ HR5.out).mono ?_
                rintro x w6 ⟨rfl, rfl⟩
                go_wp2
                go_roundw
                case rel => exact ⟨k + 1, p2, e, by omega, by go_num, hp, HR5, G5⟩
                case measure => simp [intOf]; omega
          · have d0 : (kk == 0) = false := beq_eq_false_iff_ne.2 h0
            have d1 : (kk == 1) = false := beq_eq_false_iff_ne.2 h1
            have d2 : (kk == 2) = false := beq_eq_false_iff_ne.2 h2
            clear h0 h1 h2
            go_wp2_with fail
            have R0 : Rdr (w4.alloc (.cells #[.int .i64 kk, .int .i64 nn] 37)) B s p e := HR.out.alloc _
            have G0 : Below B w (w4.alloc (.cells #[.int .i64 kk, .int .i64 nn] 37)) := G.alloc (by exact Nat.le_trans hbs G.size) _
            have C0 : (w4.alloc (.cells #[.int .i64 kk, .int .i64 nn] 37)).cell? ⟨w4.heap.size, 1, none⟩ = some (.int .i64 nn) := World.cell?_alloc_new w4 _ _ 1
            have ob1 : B < w4.heap.size := HR.out.lt
            generalize w4.alloc (.cells #[.int .i64 kk, .int .i64 nn] 37) = W0 at *
            generalize w4.heap.size = o at *
            have HR0 := Lib.hid R0
            clear R0 HR hc0 hc1 G
            have G2 := G0
            have HR2 := HR0
            clear HR0 G0 C0
            by_cases he : e = 0
            · subst he
              have hz : s.extract p p = ⟨#[]⟩ := ByteArray.ext (by simp)
              go_wp2_with fail
              refine (fault_any _ _ _ _ _ HR2.out).mono ?_
              rintro x w5 ⟨rfl, n5, hw5⟩
              rw [faultV_eq]
              have HR5 : Hid (Rdr w5 B s p 0) := by rw [hw5]; exact HR2.out.drewN _
              have G5 : Below B w w5 := by rw [hw5]; exact below_drewN G2 n5
              clear hw5 HR2 G2
              go_wp2_with fail
              refine (at_any _ _ _ _ _ HR5.out).mono ?_
              rintro x w6 ⟨rfl, rfl⟩
              go_wp2
              go_roundw
              case rel => exact ⟨k + 1, p, 0, by omega, by go_num, hp, HR5, G5⟩
              case measure => simp [intOf]; omega
            · have hd : (e != 0) = true := bne_iff_ne.2 he
              have HP := Lib.hid (faultP_ne (p := p) he)
              clear he
              go_wp2_with fail
              refine (fault_any _ _ _ _ _ HR2.out).mono ?_
              rintro x w5 ⟨rfl, n5, hw5⟩
              rw [faultV_eq, HP.out]
              have HR5 : Hid (Rdr w5 B s p e) := by rw [hw5]; exact HR2.out.drewN _
              have G5 : Below B w w5 := by rw [hw5]; exact below_drewN G2 n5
              clear hw5 HR2 G2
              go_wp2_with fail
              refine (at_any _ _ _ _ _ HR5.out).mono ?_
              rintro x w6 ⟨rfl, rfl⟩
              go_wp2
              go_roundw
              case rel => exact ⟨k + 1, p, e, by omega, by go_num, hp, HR5, G5⟩
              case measure => simp [intOf]; omega
    · go_wp2
      go_ret
      exact ⟨rfl, by rw [← HB.out]; exact G⟩
end CodeOnce
end Go.Proofs.Ytjehjkibgaeibaa
