/- What the code's one generic reading function does, at numbers and at texts, way by way: what is answered, where the reader then stands, its fault; of all else that was there nothing turns. Conditions: it stands within its bytes, which are at most 2^48. -/
import Derived.Test.YtnecbbflcpngcaaCRead
namespace Go.Proofs.Ytnecbbflcpngcaa.Cd
open Go.RowKit
set_option maxRecDepth 20000
set_option linter.unusedVariables false

set_option maxHeartbeats 800000 in
theorem bytes_ok (w : World) (b : Nat) (s : ByteArray) (p : Nat) (m : Nat) (hm : m ≤ s.size - p) (h : Rdr w b s p 0) (hp : p ≤ s.size) (hs : s.size ≤ 281474976710656) :
    Calls Try.prog 80 #[.pointer (some ⟨b, 0, none⟩), .agg #[.int .i64 0, .int .i64 (m : Int), .bool false], .func (.func 76) #[] #[]] w fun x w' => x = .returned (.string (s.extract p (p + m))) ∧ Rdr w' b s (p + m : Nat) 0 ∧ w.grownBy w' (some b) := by
  have h0 := h.c0
  have h1 := h.c1
  have h2 := h.c2
  have f1 := h.f1
  have f2 := h.f2
  have hlt := h.lt
  have H := Lib.hid h
  have HY := Lib.hid (ext_ext s p 0 m hm hp)
  have HZ : Hid ((s.extract (p + 0) (p + m)).size ≤ 281474976710656) := by
    unfold Hid; rw [ext_size _ _ _ (by omega)]; omega
  clear h
  go_enter Try.func80, Try.ntmps80
  go_wp2_with fail
  refine wp_scope_once 0 rfl ?_
  go_wp2_with fail
  go_quiet (fail)
  go_wp2_with (go_at_call 76; rw [HY.out]; refine (clone_str _ _ HZ.out).mono ?_; rintro e w1 ⟨rfl, hb⟩)
  have hb' : Below (w.heap.size + 1) ((w.alloc (.cells #[.int .i64 0, .int .i64 (m : Int), .bool false] 124)).drewN nq) w1 := by simpa using hb
  have g0 : w1.cell? ⟨w.heap.size, 0, none⟩ = some (.int .i64 0) := (hb'.cell (p := ⟨w.heap.size, 0, none⟩) (by simp)).trans (World.cell?_alloc_new w _ _ 0)
  have R1 : Rdr w1 b s p 0 := ((H.out.alloc (.cells #[.int .i64 0, .int .i64 (m : Int), .bool false] 124)).drewN nq).below hb
  have i1 := R1.c1
  have i2 := R1.c2
  have j1 := R1.f1
  have j2 := R1.f2
  have HR := Lib.hid R1
  have HB := Lib.hid hb
  clear hb hb' R1
  go_region
  go_wp2
  go_step3
  go_wp2
  simp only [Exit.jump]
  go_ret
  exact ⟨rfl, (((HR.out.drewN _).set1 _).set2 _), gr_set (gr_set (gr_drewN (gr_trans (gr_drewN (gr_alloc (gr_refl _ _) _) _) (gr_below HB.out _)) _) _ _) _ _⟩

end Go.Proofs.Ytnecbbflcpngcaa.Cd
