/- What the code's one generic reading function does, at numbers and at texts, way by way: what is answered, where the reader then stands, its fault; of all else that was there nothing turns. Conditions: it stands within its bytes, which are at most 2^48. -/
import Derived.Test.YtnecbbflcpngcaaCRead
namespace Go.Proofs.Ytnecbbflcpngcaa.Cd
open Go.RowKit
set_option maxRecDepth 20000
set_option linter.unusedVariables false

set_option maxHeartbeats 800000 in
theorem readn_was (w : World) (b : Nat) (s : ByteArray) (p : Nat) (e hd most : Int) (wide : Bool) (f : Value) (he : (e != 0) = true) (h : Rdr w b s p e) (hp : p ≤ s.size) (hs : s.size ≤ 281474976710656) :
    Calls Try.prog 81 #[.pointer (some ⟨b, 0, none⟩), .agg #[.int .i64 hd, .int .i64 most, .bool wide], f] w fun x w' => x = .returned (.int .i64 0) ∧ Rdr w' b s p e ∧ w.grownBy w' (some b) := by
  have h0 := h.c0
  have h1 := h.c1
  have h2 := h.c2
  have f1 := h.f1
  have f2 := h.f2
  have hlt := h.lt
  have H := Lib.hid h
  clear h
  go_enter Try.func81, Try.ntmps81
  go_wp2_with fail
  refine wp_scope_once 0 rfl ?_
  go_wp2_with fail
  go_quiet (fail)
  go_wp2
  go_step3
  refine ⟨rfl, ?_⟩
  go_wp2
  rw [Exit.noGoto_ret]
  go_ret
  exact ⟨rfl, ((H.out.alloc _).drewN _).set2 _, gr_set (gr_drewN (gr_alloc (gr_refl _ _) _) _) _ _⟩

set_option maxHeartbeats 800000 in
theorem readn_wide (w : World) (b : Nat) (s : ByteArray) (p : Nat) (hd most : Int) (f : Value) (h : Rdr w b s p 0) (hp : p ≤ s.size) (hs : s.size ≤ 281474976710656) :
    Calls Try.prog 81 #[.pointer (some ⟨b, 0, none⟩), .agg #[.int .i64 hd, .int .i64 most, .bool true], f] w fun x w' => x = .returned (.int .i64 0) ∧ Rdr w' b s p 13 ∧ w.grownBy w' (some b) := by
  have h0 := h.c0
  have h1 := h.c1
  have h2 := h.c2
  have f1 := h.f1
  have f2 := h.f2
  have hlt := h.lt
  have H := Lib.hid h
  clear h
  go_enter Try.func81, Try.ntmps81
  go_wp2_with fail
  refine wp_scope_once 0 rfl ?_
  go_wp2_with fail
  go_quiet (fail)
  go_wp2
  go_step3
  refine ⟨rfl, ?_⟩
  go_wp2
  rw [Exit.noGoto_ret]
  go_ret
  exact ⟨rfl, ((H.out.alloc _).drewN _).set2 _, gr_set (gr_drewN (gr_alloc (gr_refl _ _) _) _) _ _⟩

set_option maxHeartbeats 800000 in
theorem readn_end (w : World) (b : Nat) (s : ByteArray) (p : Nat) (most : Int) (f : Value) (hm : ((s.size - p : Nat) : Int) < most) (h : Rdr w b s p 0) (hp : p ≤ s.size) (hs : s.size ≤ 281474976710656) :
    Calls Try.prog 81 #[.pointer (some ⟨b, 0, none⟩), .agg #[.int .i64 0, .int .i64 most, .bool false], f] w fun x w' => x = .returned (.int .i64 0) ∧ Rdr w' b s p 10 ∧ w.grownBy w' (some b) := by
  have h0 := h.c0
  have h1 := h.c1
  have h2 := h.c2
  have f1 := h.f1
  have f2 := h.f2
  have hlt := h.lt
  have H := Lib.hid h
  clear h
  go_enter Try.func81, Try.ntmps81
  go_wp2_with fail
  refine wp_scope_once 0 rfl ?_
  go_wp2_with fail
  go_quiet (fail)
  go_wp2
  go_step3
  refine ⟨rfl, ?_⟩
  go_wp2
  rw [Exit.noGoto_ret]
  go_ret
  exact ⟨rfl, ((H.out.alloc _).drewN _).set2 _, gr_set (gr_drewN (gr_alloc (gr_refl _ _) _) _) _ _⟩

set_option maxHeartbeats 800000 in
theorem readn_ok (w : World) (b : Nat) (s : ByteArray) (p : Nat) (m : Nat) (hm : m ≤ s.size - p) (h : Rdr w b s p 0) (hp : p ≤ s.size) (hs : s.size ≤ 281474976710656) :
    Calls Try.prog 81 #[.pointer (some ⟨b, 0, none⟩), .agg #[.int .i64 0, .int .i64 (m : Int), .bool false], .func (.func 82) #[] #[]] w fun x w' => x = .returned (.int .i64 (numS ((s.data.toList.drop p).take m))) ∧ Rdr w' b s (p + m : Nat) 0 ∧ w.grownBy w' (some b) := by
  have h0 := h.c0
  have h1 := h.c1
  have h2 := h.c2
  have f1 := h.f1
  have f2 := h.f2
  have hlt := h.lt
  have H := Lib.hid h
  have HX := Lib.hid (ext_ext s p 0 m hm hp)
  have HL := Lib.hid (ext_list s p m)
  have HS : Hid ((s.extract p (p + m)).size ≤ maxLen) := by
    unfold Hid; rw [ext_size _ _ _ (by omega)]; unfold maxLen; omega
  clear h
  go_enter Try.func81, Try.ntmps81
  go_wp2_with fail
  refine wp_scope_once 0 rfl ?_
  go_wp2_with fail
  go_quiet (fail)
  go_wp2_with (go_at_call 82; rw [HX.out, Nat.add_zero]; refine (number_any _ _ HS.out).mono ?_; rintro e w' ⟨rfl, rfl⟩)
  go_region
  go_wp2
  go_step3
  go_wp2
  simp only [Exit.jump]
  go_ret
  exact ⟨by rw [← HL.out]; rfl, (((H.out.alloc _).drewN _).set1 (p + m)).set2 _, gr_set (gr_set (gr_drewN (gr_alloc (gr_refl _ _) _) _) _ _) _ _⟩

set_option maxHeartbeats 800000 in
theorem reads_was (w : World) (b : Nat) (s : ByteArray) (p : Nat) (e hd most : Int) (wide : Bool) (f : Value) (he : (e != 0) = true) (h : Rdr w b s p e) (hp : p ≤ s.size) (hs : s.size ≤ 281474976710656) :
    Calls Try.prog 80 #[.pointer (some ⟨b, 0, none⟩), .agg #[.int .i64 hd, .int .i64 most, .bool wide], f] w fun x w' => x = .returned (.string ⟨#[]⟩) ∧ Rdr w' b s p e ∧ w.grownBy w' (some b) := by
  have h0 := h.c0
  have h1 := h.c1
  have h2 := h.c2
  have f1 := h.f1
  have f2 := h.f2
  have hlt := h.lt
  have H := Lib.hid h
  clear h
  go_enter Try.func80, Try.ntmps80
  go_wp2_with fail
  refine wp_scope_once 0 rfl ?_
  go_wp2_with fail
  go_quiet (fail)
  go_wp2
  go_step3
  refine ⟨rfl, ?_⟩
  go_wp2
  rw [Exit.noGoto_ret]
  go_ret
  exact ⟨rfl, ((H.out.alloc _).drewN _).set2 _, gr_set (gr_drewN (gr_alloc (gr_refl _ _) _) _) _ _⟩

set_option maxHeartbeats 800000 in
theorem reads_wide (w : World) (b : Nat) (s : ByteArray) (p : Nat) (hd most : Int) (f : Value) (h : Rdr w b s p 0) (hp : p ≤ s.size) (hs : s.size ≤ 281474976710656) :
    Calls Try.prog 80 #[.pointer (some ⟨b, 0, none⟩), .agg #[.int .i64 hd, .int .i64 most, .bool true], f] w fun x w' => x = .returned (.string ⟨#[]⟩) ∧ Rdr w' b s p 13 ∧ w.grownBy w' (some b) := by
  have h0 := h.c0
  have h1 := h.c1
  have h2 := h.c2
  have f1 := h.f1
  have f2 := h.f2
  have hlt := h.lt
  have H := Lib.hid h
  clear h
  go_enter Try.func80, Try.ntmps80
  go_wp2_with fail
  refine wp_scope_once 0 rfl ?_
  go_wp2_with fail
  go_quiet (fail)
  go_wp2
  go_step3
  refine ⟨rfl, ?_⟩
  go_wp2
  rw [Exit.noGoto_ret]
  go_ret
  exact ⟨rfl, ((H.out.alloc _).drewN _).set2 _, gr_set (gr_drewN (gr_alloc (gr_refl _ _) _) _) _ _⟩

set_option maxHeartbeats 800000 in
theorem reads_end (w : World) (b : Nat) (s : ByteArray) (p : Nat) (most : Int) (f : Value) (hm : ((s.size - p : Nat) : Int) < most) (h : Rdr w b s p 0) (hp : p ≤ s.size) (hs : s.size ≤ 281474976710656) :
    Calls Try.prog 80 #[.pointer (some ⟨b, 0, none⟩), .agg #[.int .i64 0, .int .i64 most, .bool false], f] w fun x w' => x = .returned (.string ⟨#[]⟩) ∧ Rdr w' b s p 10 ∧ w.grownBy w' (some b) := by
  have h0 := h.c0
  have h1 := h.c1
  have h2 := h.c2
  have f1 := h.f1
  have f2 := h.f2
  have hlt := h.lt
  have H := Lib.hid h
  clear h
  go_enter Try.func80, Try.ntmps80
  go_wp2_with fail
  refine wp_scope_once 0 rfl ?_
  go_wp2_with fail
  go_quiet (fail)
  go_wp2
  go_step3
  refine ⟨rfl, ?_⟩
  go_wp2
  rw [Exit.noGoto_ret]
  go_ret
  exact ⟨rfl, ((H.out.alloc _).drewN _).set2 _, gr_set (gr_drewN (gr_alloc (gr_refl _ _) _) _) _ _⟩

set_option maxHeartbeats 800000 in
theorem reads_end2 (w : World) (b : Nat) (s : ByteArray) (p : Nat) (most : Int) (f : Value) (hm : s.size - p < 2) (h : Rdr w b s p 0) (hp : p ≤ s.size) (hs : s.size ≤ 281474976710656) :
    Calls Try.prog 80 #[.pointer (some ⟨b, 0, none⟩), .agg #[.int .i64 2, .int .i64 most, .bool false], f] w fun x w' => x = .returned (.string ⟨#[]⟩) ∧ Rdr w' b s p 10 ∧ w.grownBy w' (some b) := by
  have h0 := h.c0
  have h1 := h.c1
  have h2 := h.c2
  have f1 := h.f1
  have f2 := h.f2
  have hlt := h.lt
  have H := Lib.hid h
  clear h
  go_enter Try.func80, Try.ntmps80
  go_wp2_with fail
  refine wp_scope_once 0 rfl ?_
  go_wp2_with fail
  go_quiet (fail)
  go_wp2
  go_step3
  refine ⟨rfl, ?_⟩
  go_wp2
  rw [Exit.noGoto_ret]
  go_ret
  exact ⟨rfl, ((H.out.alloc _).drewN _).set2 _, gr_set (gr_drewN (gr_alloc (gr_refl _ _) _) _) _ _⟩

end Go.Proofs.Ytnecbbflcpngcaa.Cd
