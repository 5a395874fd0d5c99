/- A reader of the code over any bytes, through any calls (numbers, texts, bytes, clones), answers as the document does, and so does its clone: the walk of the law. Conditions: the bytes are at most 2^48, the calls at most 2^63 - 1. -/
import Derived.Test.YtjehjkibgaeibaaXrdr
import Derived.Test.YtjehjkibgaeibaaFixd
import Derived.Deep.RegionHeld3
namespace Go.Proofs.Ytjehjkibgaeibaa
open Go.RowKit
set_option linter.unusedVariables false

/-- calls of a reader, as they lie in memory -/
def OpsAt (w : World) (ao : Option Addr) (len : Nat) (K N : Nat → Int) : Prop :=
  ∀ i, i < len → ∃ b off, ao = some ⟨b, off, none⟩ ∧ w.cell? ⟨b, off + i * 2, none⟩ = some (.int .i64 (K i)) ∧ w.cell? ⟨b, off + i * 2 + 1, none⟩ = some (.int .i64 (N i)) ∧ b < w.heap.size

theorem Rdr.ne {w : World} {b c : Nat} {s t : ByteArray} {p q : Nat} {e f : Int} (h : Rdr w b s p e) (k : XRdr w c t q f) : b ≠ c := by
  intro x
  subst x
  unfold Rdr at h
  unfold XRdr at k
  rw [h] at k
  simp at k

theorem numR_le {s : ByteArray} {p : Nat} {e n : Int} (h : p ≤ s.size) : (numR s p e n).2.1 ≤ s.size := by
  unfold numR
  split
  · exact h
  · split
    · exact h
    · split
      · exact h
      · show p + n.toNat ≤ s.size
        omega
theorem bytesR_le {s : ByteArray} {p : Nat} {e n : Int} (h : p ≤ s.size) : (bytesR s p e n).2.1 ≤ s.size := by
  unfold bytesR
  split
  · exact h
  · split
    · exact h
    · split
      · exact h
      · show p + n.toNat ≤ s.size
        omega
theorem textR_le {s : ByteArray} {p : Nat} {e n : Int} (h : p ≤ s.size) : (textR s p e n).2.1 ≤ s.size := by
  unfold textR
  split
  · exact h
  · split
    · exact h
    · split
      · exact h
      · split
        · exact h
        · split
          · exact h
          · show p + (2 + headN s p) ≤ s.size
            omega

def faultP (p : Nat) (e : Int) : Int := if e = 0 then 0 else p
theorem faultV_eq (p : Nat) (e : Int) : faultV p e = .tuple #[.int .i64 e, .int .i64 (faultP p e)] := by
  unfold faultV faultP
  split
  · rename_i h; rw [h]
  · rfl
def doneE (s : ByteArray) (p : Nat) (e : Int) : Int := if e = 0 ∧ p < s.size then 12 else e
def doneP (s : ByteArray) (p : Nat) (e : Int) : Int := if e = 0 ∧ p < s.size then p else faultP p e
theorem doneV_eq (s : ByteArray) (p : Nat) (e : Int) : doneV s p e = .tuple #[.int .i64 (doneE s p e), .int .i64 (doneP s p e)] := by
  unfold doneV doneE doneP
  split
  · rfl
  · exact faultV_eq p e

namespace CodeReads
set_option maxRecDepth 100000 in
set_option maxHeartbeats 4000000 in
theorem walk (s : ByteArray) (ao : Option Addr) (len cap : Nat) (K N : Nat → Int) (w : World) (hs : s.size ≤ 281474976710656) (hlen : len ≤ 9223372036854775807) (hops : OpsAt w ao len K N) :
    Calls Try.prog 4 #[.string s, .slice ao len cap] w fun e w' => e = .returned (.bool true) ∧ Below w.heap.size w w' := by
  have hsm : s.size ≤ maxLen := by unfold maxLen; omega
  obtain ⟨B, hB⟩ : ∃ B, B = w.heap.size := ⟨_, rfl⟩
  have hbs : B ≤ w.heap.size := by rw [hB]; exact Nat.le_refl _
  have HB := Lib.hid hB
  clear hB
  have HO := Lib.hid hops
  clear hops
  go_enter Try.func4, Try.ntmps4
  go_wp2_with fail
  refine (new_any _ _).mono ?_
  rintro x w1 ⟨rfl, rfl⟩
  go_wp2_with fail
  refine (fixed_any _).mono ?_
  rintro x w3 ⟨rfl, b3⟩
  have R1 : Rdr (w.alloc (.cells #[.string s, .int .i64 0, .int .i64 0] 58)) B s 0 0 := by rw [HB.out]; exact newR
  have G1 : Below B w (w.alloc (.cells #[.string s, .int .i64 0, .int .i64 0] 58)) := by rw [HB.out]; exact newG w
  have S1 : (w.alloc (.cells #[.string s, .int .i64 0, .int .i64 0] 58)).heap.size = B + 1 := by rw [HB.out]; simp
  have X1 : XRdr ((w.alloc (.cells #[.string s, .int .i64 0, .int .i64 0] 58)).alloc (.cells #[.string s, .int .i64 0, .int .i64 0] 35)) (B + 1) s 0 0 := by
    rw [← S1]; exact block_new _ _
  have R3 : Rdr w3 B s 0 0 := (R1.alloc _).below b3
  have X3 : XRdr w3 (B + 1) s 0 0 := X1.below b3
  have G3 : Below B w w3 := (G1.alloc (by omega) _).trans (b3.mono (by simp; rw [← HB.out]; omega))
  rw [← HB.out]
  have HR3 := Lib.hid R3
  have HX3 := Lib.hid X3
  clear R1 G1 S1 X1 R3 X3 b3
  go_wp2_with fail
  go_loopw [5, 7] (fun r i wr => ∃ (k b p : Nat) (e : Int), k ≤ len ∧ i = .int .i64 (k : Int) ∧ r = .pointer (some ⟨b, 0, none⟩) ∧ p ≤ s.size ∧ B ≤ b ∧ Hid (Rdr wr b s p e) ∧ Hid (XRdr wr (B + 1) s p e) ∧ Below B w wr) (fun _ i _ => len - (intOf i).toNat)
  case atStart => exact ⟨0, B, 0, 0, Nat.zero_le _, rfl, rfl, Nat.zero_le _, Nat.le_refl _, HR3, HX3, G3⟩
  case round =>
    clear HR3 HX3 G3
    obtain ⟨k, b, p, e, hk, rfl, rfl, hp, hb, HR, HX, G⟩ := hrel
    by_cases hlt : k < len
    · obtain ⟨ob, oo, rfl, hc0, hc1, hob⟩ := HO.out k hlt
      have hc0 := (G.cell (p := ⟨ob, oo + k * 2, none⟩) (by rw [HB.out]; exact hob)).trans hc0
      have hc1 := (G.cell (p := ⟨ob, oo + k * 2 + 1, none⟩) (by rw [HB.out]; exact hob)).trans hc1
      generalize K k = kk at *
      generalize N k = nn at *
      by_cases h0 : kk = 0
      · subst h0
        go_wp2_with fail
        have R0 : Rdr (wr.alloc (.cells #[.int .i64 0, .int .i64 nn] 37)) b s p e := HR.out.alloc _
        have X0 : XRdr (wr.alloc (.cells #[.int .i64 0, .int .i64 nn] 37)) (B + 1) s p e := HX.out.alloc _
        have G0 : Below B w (wr.alloc (.cells #[.int .i64 0, .int .i64 nn] 37)) := G.alloc (by exact Nat.le_trans hbs G.size) _
        have C0 : (wr.alloc (.cells #[.int .i64 0, .int .i64 nn] 37)).cell? ⟨wr.heap.size, 1, none⟩ = some (.int .i64 nn) := World.cell?_alloc_new wr _ _ 1
        have ob1 : b < wr.heap.size := HR.out.lt
        have ob2 : B + 1 < wr.heap.size := HX.out.lt
        have obx : b ≠ B + 1 := HR.out.ne HX.out
        generalize wr.alloc (.cells #[.int .i64 0, .int .i64 nn] 37) = W0 at *
        generalize wr.heap.size = o at *
        have HR0 := Lib.hid R0
        have HX0 := Lib.hid X0
        clear R0 X0 HR HX hc0 hc1 G
        go_region_held3 (fun w' => w'.cell? ⟨o, 1, none⟩ = some (.int .i64 nn)) (first | assumption | (simp only [World.cell?_drewN]; assumption) | (exact World.grownBy.cell (by assumption) (by assumption) (by simp; omega)))
          (first | (go_at_call 18; refine (num_any _ b s p e nn (HR0.out.drewN _) hp hs).mono ?_; rintro x w1 ⟨rfl, r1, g1⟩) | (go_at_call 19; refine (xnum_any _ (B + 1) s p e nn (by first | exact (HX0.out.drewN _).kept g1 (by simp; omega) | exact ((HX0.out.drewN _).kept g1 (by simp; omega)).drewN _) hp hsm).mono ?_; rintro x w2 ⟨rfl, r2, g2⟩))
        have R2 : Rdr w2 b s (numR s p e nn).2.1 (numR s p e nn).2.2 := r1.kept g2 (by simp; omega)
        have G2 : Below B w w2 := ((below_drewN G0 1).grown g1 (by exact Nat.le_trans hbs G0.size) (fun j hj => by cases hj; exact hb)).grown g2 (by exact Nat.le_trans (Nat.le_trans hbs G0.size) g1.size) (fun j hj => by cases hj; omega)
        have hp2 : (numR s p e nn).2.1 ≤ s.size := numR_le hp
        generalize (numR s p e nn).2.1 = p2 at *
        generalize (numR s p e nn).2.2 = e2 at *
        have x1 := r2.c1
        have hl2 : ((s.size - p2 : Nat) : Int) = (s.size : Int) - p2 := by omega
        have HL2 := Lib.hid hl2
        have HR2 := Lib.hid R2
        have HX2 := Lib.hid r2
        clear HR0 HX0 r1 g1 g2 R2 r2 G0 C0 hl2
        go_wp2_with fail
        go_quiet (first
          | (go_at_call 25; refine (at_any _ _ _ _ _ (HR2.out.drewN _)).mono ?_; rintro x w9 ⟨rfl, rfl⟩; exact ⟨rfl, _, rfl⟩)
          | (go_at_call 26; refine (left_any _ _ _ _ _ (HR2.out.drewN _) hp2 hsm).mono ?_; rintro x w9 ⟨rfl, m9, rfl⟩; rw [HL2.out]; exact ⟨rfl, _, World.drewN_drewN _ _ _⟩))
        go_wp2_with fail
        refine (fault_any _ _ _ _ _ (HR2.out.drewN _)).mono ?_
        rintro x w3 ⟨rfl, n3, rfl⟩
        rw [faultV_eq]
        go_wp2_with fail
        refine (xfault_any _ _ _ _ _ (HX2.out.drewN _)).mono ?_
        rintro x w3 ⟨rfl, n4, rfl⟩
        rw [faultV_eq]
        go_wp2_with fail
        refine (done_any _ _ _ _ _ (HR2.out.drewN _) hp2 hsm).mono ?_
        rintro x w3 ⟨rfl, n5, rfl⟩
        rw [doneV_eq]
        go_wp2_with fail
        refine (xdone_any _ _ _ _ _ (HX2.out.drewN _) hp2 hsm).mono ?_
        rintro x w3 ⟨rfl, n6, rfl⟩
        rw [doneV_eq]
        go_wp2_with fail
        go_roundw
        case rel => exact ⟨k + 1, b, p2, e2, by omega, by go_num, rfl, hp2, hb, HR2.out.drewN _, HX2.out.drewN _, below_drewN G2 _⟩
        case measure => simp [intOf]; omega
      · by_cases h1 : kk = 1
        · subst h1
          go_wp2_with fail
          have R0 : Rdr (wr.alloc (.cells #[.int .i64 1, .int .i64 nn] 37)) b s p e := HR.out.alloc _
          have X0 : XRdr (wr.alloc (.cells #[.int .i64 1, .int .i64 nn] 37)) (B + 1) s p e := HX.out.alloc _
          have G0 : Below B w (wr.alloc (.cells #[.int .i64 1, .int .i64 nn] 37)) := G.alloc (by exact Nat.le_trans hbs G.size) _
          have C0 : (wr.alloc (.cells #[.int .i64 1, .int .i64 nn] 37)).cell? ⟨wr.heap.size, 1, none⟩ = some (.int .i64 nn) := World.cell?_alloc_new wr _ _ 1
          have ob1 : b < wr.heap.size := HR.out.lt
          have ob2 : B + 1 < wr.heap.size := HX.out.lt
          have obx : b ≠ B + 1 := HR.out.ne HX.out
          generalize wr.alloc (.cells #[.int .i64 1, .int .i64 nn] 37) = W0 at *
          generalize wr.heap.size = o at *
          have HR0 := Lib.hid R0
          have HX0 := Lib.hid X0
          clear R0 X0 HR HX hc0 hc1 G
          go_region_held3 (fun w' => w'.cell? ⟨o, 1, none⟩ = some (.int .i64 nn)) (first | assumption | (simp only [World.cell?_drewN]; assumption) | (exact World.grownBy.cell (by assumption) (by assumption) (by simp; omega)))
            (first | (go_at_call 20; refine (text_any _ b s p e nn (HR0.out.drewN _) hp hs).mono ?_; rintro x w1 ⟨rfl, r1, g1⟩) | (go_at_call 21; refine (xtext_any _ (B + 1) s p e nn (by first | exact (HX0.out.drewN _).kept g1 (by simp; omega) | exact ((HX0.out.drewN _).kept g1 (by simp; omega)).drewN _) hp hsm).mono ?_; rintro x w2 ⟨rfl, r2, g2⟩))
          have R2 : Rdr w2 b s (textR s p e nn).2.1 (textR s p e nn).2.2 := r1.kept g2 (by simp; omega)
          have G2 : Below B w w2 := ((below_drewN G0 1).grown g1 (by exact Nat.le_trans hbs G0.size) (fun j hj => by cases hj; exact hb)).grown g2 (by exact Nat.le_trans (Nat.le_trans hbs G0.size) g1.size) (fun j hj => by cases hj; omega)
          have hp2 : (textR s p e nn).2.1 ≤ s.size := textR_le hp
          generalize (textR s p e nn).2.1 = p2 at *
          generalize (textR s p e nn).2.2 = e2 at *
          have x1 := r2.c1
          have hl2 : ((s.size - p2 : Nat) : Int) = (s.size : Int) - p2 := by omega
          have HL2 := Lib.hid hl2
          have HR2 := Lib.hid R2
          have HX2 := Lib.hid r2
          clear HR0 HX0 r1 g1 g2 R2 r2 G0 C0 hl2
          go_wp2_with fail
          go_quiet (first
            | (go_at_call 25; refine (at_any _ _ _ _ _ (HR2.out.drewN _)).mono ?_; rintro x w9 ⟨rfl, rfl⟩; exact ⟨rfl, _, rfl⟩)
            | (go_at_call 26; refine (left_any _ _ _ _ _ (HR2.out.drewN _) hp2 hsm).mono ?_; rintro x w9 ⟨rfl, m9, rfl⟩; rw [HL2.out]; exact ⟨rfl, _, World.drewN_drewN _ _ _⟩))
          go_wp2_with fail
          refine (fault_any _ _ _ _ _ (HR2.out.drewN _)).mono ?_
          rintro x w3 ⟨rfl, n3, rfl⟩
          rw [faultV_eq]
          go_wp2_with fail
          refine (xfault_any _ _ _ _ _ (HX2.out.drewN _)).mono ?_
          rintro x w3 ⟨rfl, n4, rfl⟩
          rw [faultV_eq]
          go_wp2_with fail
          refine (done_any _ _ _ _ _ (HR2.out.drewN _) hp2 hsm).mono ?_
          rintro x w3 ⟨rfl, n5, rfl⟩
          rw [doneV_eq]
          go_wp2_with fail
          refine (xdone_any _ _ _ _ _ (HX2.out.drewN _) hp2 hsm).mono ?_
          rintro x w3 ⟨rfl, n6, rfl⟩
          rw [doneV_eq]
          go_wp2_with fail
          go_roundw
          case rel => exact ⟨k + 1, b, p2, e2, by omega, by go_num, rfl, hp2, hb, HR2.out.drewN _, HX2.out.drewN _, below_drewN G2 _⟩
          case measure => simp [intOf]; omega
        · by_cases h2 : kk = 2
          · subst h2
            go_wp2_with fail
            have R0 : Rdr (wr.alloc (.cells #[.int .i64 2, .int .i64 nn] 37)) b s p e := HR.out.alloc _
            have X0 : XRdr (wr.alloc (.cells #[.int .i64 2, .int .i64 nn] 37)) (B + 1) s p e := HX.out.alloc _
            have G0 : Below B w (wr.alloc (.cells #[.int .i64 2, .int .i64 nn] 37)) := G.alloc (by exact Nat.le_trans hbs G.size) _
            have C0 : (wr.alloc (.cells #[.int .i64 2, .int .i64 nn] 37)).cell? ⟨wr.heap.size, 1, none⟩ = some (.int .i64 nn) := World.cell?_alloc_new wr _ _ 1
            have ob1 : b < wr.heap.size := HR.out.lt
            have ob2 : B + 1 < wr.heap.size := HX.out.lt
            have obx : b ≠ B + 1 := HR.out.ne HX.out
            generalize wr.alloc (.cells #[.int .i64 2, .int .i64 nn] 37) = W0 at *
            generalize wr.heap.size = o at *
            have HR0 := Lib.hid R0
            have HX0 := Lib.hid X0
            clear R0 X0 HR HX hc0 hc1 G
            go_region_held3 (fun w' => w'.cell? ⟨o, 1, none⟩ = some (.int .i64 nn)) (first | assumption | (simp only [World.cell?_drewN]; assumption) | (exact World.grownBy.cell (by assumption) (by assumption) (by simp; omega)))
              (first | (go_at_call 22; refine (bytes_any _ b s p e nn (HR0.out.drewN _) hp hs).mono ?_; rintro x w1 ⟨rfl, r1, g1⟩) | (go_at_call 23; refine (xbytes_any _ (B + 1) s p e nn (by first | exact (HX0.out.drewN _).kept g1 (by simp; omega) | exact ((HX0.out.drewN _).kept g1 (by simp; omega)).drewN _) hp hsm).mono ?_; rintro x w2 ⟨rfl, r2, g2⟩))
            have R2 : Rdr w2 b s (bytesR s p e nn).2.1 (bytesR s p e nn).2.2 := r1.kept g2 (by simp; omega)
            have G2 : Below B w w2 := ((below_drewN G0 1).grown g1 (by exact Nat.le_trans hbs G0.size) (fun j hj => by cases hj; exact hb)).grown g2 (by exact Nat.le_trans (Nat.le_trans hbs G0.size) g1.size) (fun j hj => by cases hj; omega)
            have hp2 : (bytesR s p e nn).2.1 ≤ s.size := bytesR_le hp
            generalize (bytesR s p e nn).2.1 = p2 at *
            generalize (bytesR s p e nn).2.2 = e2 at *
            have x1 := r2.c1
            have hl2 : ((s.size - p2 : Nat) : Int) = (s.size : Int) - p2 := by omega
            have HL2 := Lib.hid hl2
            have HR2 := Lib.hid R2
            have HX2 := Lib.hid r2
            clear HR0 HX0 r1 g1 g2 R2 r2 G0 C0 hl2
            go_wp2_with fail
            go_quiet (first
              | (go_at_call 25; refine (at_any _ _ _ _ _ (HR2.out.drewN _)).mono ?_; rintro x w9 ⟨rfl, rfl⟩; exact ⟨rfl, _, rfl⟩)
              | (go_at_call 26; refine (left_any _ _ _ _ _ (HR2.out.drewN _) hp2 hsm).mono ?_; rintro x w9 ⟨rfl, m9, rfl⟩; rw [HL2.out]; exact ⟨rfl, _, World.drewN_drewN _ _ _⟩))
            go_wp2_with fail
            refine (fault_any _ _ _ _ _ (HR2.out.drewN _)).mono ?_
            rintro x w3 ⟨rfl, n3, rfl⟩
            rw [faultV_eq]
            go_wp2_with fail
            refine (xfault_any _ _ _ _ _ (HX2.out.drewN _)).mono ?_
            rintro x w3 ⟨rfl, n4, rfl⟩
            rw [faultV_eq]
            go_wp2_with fail
            refine (done_any _ _ _ _ _ (HR2.out.drewN _) hp2 hsm).mono ?_
            rintro x w3 ⟨rfl, n5, rfl⟩
            rw [doneV_eq]
            go_wp2_with fail
            refine (xdone_any _ _ _ _ _ (HX2.out.drewN _) hp2 hsm).mono ?_
            rintro x w3 ⟨rfl, n6, rfl⟩
            rw [doneV_eq]
            go_wp2_with fail
            go_roundw
            case rel => exact ⟨k + 1, b, p2, e2, by omega, by go_num, rfl, hp2, hb, HR2.out.drewN _, HX2.out.drewN _, below_drewN G2 _⟩
            case measure => simp [intOf]; omega
          · by_cases h3 : kk = 3
            · subst h3
              go_wp2_with fail
              have R0 : Rdr (wr.alloc (.cells #[.int .i64 3, .int .i64 nn] 37)) b s p e := HR.out.alloc _
              have X0 : XRdr (wr.alloc (.cells #[.int .i64 3, .int .i64 nn] 37)) (B + 1) s p e := HX.out.alloc _
              have G0 : Below B w (wr.alloc (.cells #[.int .i64 3, .int .i64 nn] 37)) := G.alloc (by exact Nat.le_trans hbs G.size) _
              have C0 : (wr.alloc (.cells #[.int .i64 3, .int .i64 nn] 37)).cell? ⟨wr.heap.size, 1, none⟩ = some (.int .i64 nn) := World.cell?_alloc_new wr _ _ 1
              have ob1 : b < wr.heap.size := HR.out.lt
              have ob2 : B + 1 < wr.heap.size := HX.out.lt
              have obx : b ≠ B + 1 := HR.out.ne HX.out
              generalize wr.alloc (.cells #[.int .i64 3, .int .i64 nn] 37) = W0 at *
              generalize wr.heap.size = o at *
              have HR0 := Lib.hid R0
              have HX0 := Lib.hid X0
              clear R0 X0 HR HX hc0 hc1 G
              refine (clone_any _ _ _ _ _ HR0.out).mono ?_
              rintro x w1 ⟨rfl, r1, g1⟩
              have RB : Rdr w1 b s p e := HR0.out.below g1
              have XB : XRdr w1 (B + 1) s p e := HX0.out.below g1
              have hlo : o ≤ W0.heap.size := Nat.le_of_lt (World.block_lt_of_cell? W0 _ C0)
              have hcb : b ≠ W0.heap.size := by omega
              have hc : B ≤ W0.heap.size := by omega
              have G1 : Below B w w1 := G0.trans (g1.mono hc)
              have hs1 := g1.size
              generalize W0.heap.size = c at *
              go_wp2_with fail
              refine (num_any _ _ _ _ _ _ RB hp hs).mono ?_
              rintro x w2 ⟨rfl, r3, g3⟩
              have R2 : Rdr w2 c s p e := r1.kept g3 (by simp; omega)
              have r2 : XRdr w2 (B + 1) s p e := XB.kept g3 (by simp; omega)
              have G2 : Below B w w2 := G1.grown g3 (by omega) (fun j hj => by cases hj; exact hb)
              have hp2 := hp
              generalize p = p2 at *
              generalize e = e2 at *
              have x1 := r2.c1
              have hl2 : ((s.size - p2 : Nat) : Int) = (s.size : Int) - p2 := by omega
              have HL2 := Lib.hid hl2
              have HR2 := Lib.hid R2
              have HX2 := Lib.hid r2
              clear HR0 HX0 r1 g1 R2 r2 G0 C0 hl2 RB XB g3 r3
              go_wp2_with fail
              go_quiet (first
                | (go_at_call 25; refine (at_any _ _ _ _ _ (HR2.out.drewN _)).mono ?_; rintro x w9 ⟨rfl, rfl⟩; exact ⟨rfl, _, rfl⟩)
                | (go_at_call 26; refine (left_any _ _ _ _ _ (HR2.out.drewN _) hp2 hsm).mono ?_; rintro x w9 ⟨rfl, m9, rfl⟩; rw [HL2.out]; exact ⟨rfl, _, World.drewN_drewN _ _ _⟩))
              go_wp2_with fail
              refine (fault_any _ _ _ _ _ (HR2.out.drewN _)).mono ?_
              rintro x w3 ⟨rfl, n3, rfl⟩
              rw [faultV_eq]
              go_wp2_with fail
              refine (xfault_any _ _ _ _ _ (HX2.out.drewN _)).mono ?_
              rintro x w3 ⟨rfl, n4, rfl⟩
              rw [faultV_eq]
              go_wp2_with fail
              refine (done_any _ _ _ _ _ (HR2.out.drewN _) hp2 hsm).mono ?_
              rintro x w3 ⟨rfl, n5, rfl⟩
              rw [doneV_eq]
              go_wp2_with fail
              refine (xdone_any _ _ _ _ _ (HX2.out.drewN _) hp2 hsm).mono ?_
              rintro x w3 ⟨rfl, n6, rfl⟩
              rw [doneV_eq]
              go_wp2_with fail
              go_roundw
              case rel => exact ⟨k + 1, c, p2, e2, by omega, by go_num, rfl, hp2, hc, HR2.out.drewN _, HX2.out.drewN _, below_drewN G2 _⟩
              case measure => simp [intOf]; omega
            · skip
              have d0 : (kk == 0) = false := beq_eq_false_iff_ne.2 h0
              have d1 : (kk == 1) = false := beq_eq_false_iff_ne.2 h1
              have d2 : (kk == 2) = false := beq_eq_false_iff_ne.2 h2
              have d3 : (kk == 3) = false := beq_eq_false_iff_ne.2 h3
              clear h0 h1 h2 h3
              go_wp2_with fail
              have R0 : Rdr (wr.alloc (.cells #[.int .i64 kk, .int .i64 nn] 37)) b s p e := HR.out.alloc _
              have X0 : XRdr (wr.alloc (.cells #[.int .i64 kk, .int .i64 nn] 37)) (B + 1) s p e := HX.out.alloc _
              have G0 : Below B w (wr.alloc (.cells #[.int .i64 kk, .int .i64 nn] 37)) := G.alloc (by exact Nat.le_trans hbs G.size) _
              have C0 : (wr.alloc (.cells #[.int .i64 kk, .int .i64 nn] 37)).cell? ⟨wr.heap.size, 1, none⟩ = some (.int .i64 nn) := World.cell?_alloc_new wr _ _ 1
              have ob1 : b < wr.heap.size := HR.out.lt
              have ob2 : B + 1 < wr.heap.size := HX.out.lt
              have obx : b ≠ B + 1 := HR.out.ne HX.out
              generalize wr.alloc (.cells #[.int .i64 kk, .int .i64 nn] 37) = W0 at *
              generalize wr.heap.size = o at *
              have HR0 := Lib.hid R0
              have HX0 := Lib.hid X0
              clear R0 X0 HR HX hc0 hc1 G
              have R2 : Rdr W0 b s p e := HR0.out
              have r2 : XRdr W0 (B + 1) s p e := HX0.out
              have G2 := G0
              have hp2 := hp
              generalize p = p2 at *
              generalize e = e2 at *
              have x1 := r2.c1
              have hl2 : ((s.size - p2 : Nat) : Int) = (s.size : Int) - p2 := by omega
              have HL2 := Lib.hid hl2
              have HR2 := Lib.hid R2
              have HX2 := Lib.hid r2
              clear HR0 HX0 R2 r2 G0 C0 hl2
              go_quiet (first
                | (go_at_call 25; refine (at_any _ _ _ _ _ (HR2.out.drewN _)).mono ?_; rintro x w9 ⟨rfl, rfl⟩; exact ⟨rfl, _, rfl⟩)
                | (go_at_call 26; refine (left_any _ _ _ _ _ (HR2.out.drewN _) hp2 hsm).mono ?_; rintro x w9 ⟨rfl, m9, rfl⟩; rw [HL2.out]; exact ⟨rfl, _, World.drewN_drewN _ _ _⟩))
              go_wp2_with fail
              refine (fault_any _ _ _ _ _ (HR2.out.drewN _)).mono ?_
              rintro x w3 ⟨rfl, n3, rfl⟩
              rw [faultV_eq]
              go_wp2_with fail
              refine (xfault_any _ _ _ _ _ (HX2.out.drewN _)).mono ?_
              rintro x w3 ⟨rfl, n4, rfl⟩
              rw [faultV_eq]
              go_wp2_with fail
              refine (done_any _ _ _ _ _ (HR2.out.drewN _) hp2 hsm).mono ?_
              rintro x w3 ⟨rfl, n5, rfl⟩
              rw [doneV_eq]
              go_wp2_with fail
              refine (xdone_any _ _ _ _ _ (HX2.out.drewN _) hp2 hsm).mono ?_
              rintro x w3 ⟨rfl, n6, rfl⟩
              rw [doneV_eq]
              go_wp2_with fail
              go_roundw
              case rel => exact ⟨k + 1, b, p2, e2, by omega, by go_num, rfl, hp2, hb, HR2.out.drewN _, HX2.out.drewN _, below_drewN G2 _⟩
              case measure => simp [intOf]; omega
    · go_wp2
      go_ret
      exact ⟨rfl, by rw [← HB.out]; exact G⟩
end CodeReads
end Go.Proofs.Ytjehjkibgaeibaa
