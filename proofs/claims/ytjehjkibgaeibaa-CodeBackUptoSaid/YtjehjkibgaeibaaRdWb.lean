/- What the code's one generic reading function does, at numbers and at texts, way by way: what is answered, where the reader then stands, its fault; of all else that was there nothing turns. Conditions: it stands within its bytes, which are at most 2^48. -/
import Derived.Test.YtjehjkibgaeibaaRead
namespace Go.Proofs.Ytjehjkibgaeibaa
open Go.RowKit
set_option linter.unusedVariables false

set_option maxHeartbeats 800000 in
theorem text_long (w : World) (b : Nat) (s : ByteArray) (p : Nat) (most : Int) (f : Value) (k : Nat) (hk : numS ((s.data.toList.drop p).take 2) = (k : Int)) (h2 : 2 ≤ s.size - p) (hm : most < (k : Int)) (h : Rdr w b s p 0) (hp : p ≤ s.size) (hs : s.size ≤ 281474976710656) :
    Calls Try.prog 37 #[.pointer (some ⟨b, 0, none⟩), .agg #[.int .i64 2, .int .i64 most, .bool false], f] w fun x w' => x = .returned (.string ⟨#[]⟩) ∧ Rdr w' b s p 11 ∧ w.grownBy w' (some b) := by
  have h0 := h.c0
  have h1 := h.c1
  have h3 := h.c2
  have f1 := h.f1
  have f2 := h.f2
  have hlt := h.lt
  have H := Lib.hid h
  have HX := Lib.hid (ext_ext s p 0 2 (by omega) hp)
  have HL := Lib.hid (ext_list s p 2)
  have HK := Lib.hid hk
  have HS : Hid ((s.extract p (p + 2)).size ≤ maxLen) := by
    unfold Hid; rw [ext_size _ _ _ (by omega)]; unfold maxLen; omega
  clear hk
  clear h
  go_enter Try.func37, Try.ntmps37
  go_wp2_with fail
  refine wp_scope_once 0 rfl ?_
  go_wp2_with fail
  go_quiet (fail)
  go_wp2_with (go_at_call 34; rw [HX.out, Nat.add_zero]; refine (number_any _ _ HS.out).mono ?_; rw [HL.out, HK.out]; rintro e w' ⟨rfl, rfl⟩)
  go_wp2
  go_step3
  refine ⟨rfl, ?_⟩
  go_wp2
  rw [Exit.noGoto_ret]
  go_ret
  exact ⟨rfl, ((H.out.alloc _).drewN _).set2 _, gr_set (gr_drewN (gr_alloc (gr_refl _ _) _) _) _ _⟩

set_option maxHeartbeats 800000 in
theorem text_end (w : World) (b : Nat) (s : ByteArray) (p : Nat) (most : Int) (f : Value) (k : Nat) (hk : numS ((s.data.toList.drop p).take 2) = (k : Int)) (h2 : 2 ≤ s.size - p) (hm : (k : Int) ≤ most) (hl : s.size - p - 2 < k) (h : Rdr w b s p 0) (hp : p ≤ s.size) (hs : s.size ≤ 281474976710656) :
    Calls Try.prog 37 #[.pointer (some ⟨b, 0, none⟩), .agg #[.int .i64 2, .int .i64 most, .bool false], f] w fun x w' => x = .returned (.string ⟨#[]⟩) ∧ Rdr w' b s p 10 ∧ w.grownBy w' (some b) := by
  have h0 := h.c0
  have h1 := h.c1
  have h3 := h.c2
  have f1 := h.f1
  have f2 := h.f2
  have hlt := h.lt
  have H := Lib.hid h
  have HX := Lib.hid (ext_ext s p 0 2 (by omega) hp)
  have HL := Lib.hid (ext_list s p 2)
  have HK := Lib.hid hk
  have HS : Hid ((s.extract p (p + 2)).size ≤ maxLen) := by
    unfold Hid; rw [ext_size _ _ _ (by omega)]; unfold maxLen; omega
  clear hk
  clear h
  go_enter Try.func37, Try.ntmps37
  go_wp2_with fail
  refine wp_scope_once 0 rfl ?_
  go_wp2_with fail
  go_quiet (fail)
  go_wp2_with (go_at_call 34; rw [HX.out, Nat.add_zero]; refine (number_any _ _ HS.out).mono ?_; rw [HL.out, HK.out]; rintro e w' ⟨rfl, rfl⟩)
  go_wp2
  go_step3
  refine ⟨rfl, ?_⟩
  go_wp2
  rw [Exit.noGoto_ret]
  go_ret
  exact ⟨rfl, ((H.out.alloc _).drewN _).set2 _, gr_set (gr_drewN (gr_alloc (gr_refl _ _) _) _) _ _⟩

end Go.Proofs.Ytjehjkibgaeibaa
