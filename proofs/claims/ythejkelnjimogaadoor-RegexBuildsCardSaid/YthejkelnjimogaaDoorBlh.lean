/- Patterns in brackets, put together, are read as the expressions put together: what the law's call returns. Conditions: the expressions lie in memory, their numbers are a machine's. -/
import Derived.Test.YthejkelnjimogaaDoorRws
import Derived.Test.YthejkelnjimogaaDoorTld
namespace Go.Proofs.YthejkelnjimogaaDoor
open Go.RowKit
set_option linter.unusedVariables false

structure Jb (w : World) (ta tb : Rx) (va vb : Value) (Y : Nat) (wr : World) : Prop where
  ab : Ab w w.heap.size (ta.cells va) (tb.cells vb) wr
  la : LiesL (fun _ => True) wr va ta.list
  lb : LiesL (fun _ => True) wr vb tb.list
  two : LiesL (fun _ => True) wr (.slice (some ⟨Y, 0, none⟩) 2 2) [ta, tb]
  one : LiesL (fun _ => True) wr (.slice (some ⟨Y + 1, 0, none⟩) 1 1) [ta]
theorem Jb.step {w : World} {ta tb : Rx} {va vb : Value} {Y : Nat} {wr w' : World} (h : Jb w ta tb va vb Y wr) (g : Below wr.heap.size wr w') : Jb w ta tb va vb Y w' :=
  ⟨h.ab.step g, h.la.stay g, h.lb.stay g, h.two.stay g, h.one.stay g⟩
theorem Jb.first {w : World} {ta tb : Rx} {va vb : Value} {wr : World} (h : Ab w w.heap.size (ta.cells va) (tb.cells vb) wr) (ha : LiesL (fun _ => True) w va ta.list) (hb : LiesL (fun _ => True) w vb tb.list) (o : Obj) :
    Jb w ta tb va vb (wr.heap.size + 1) (((wr.alloc o).alloc (.cells (ta.cells va ++ tb.cells vb) 26)).alloc (.cells (ta.cells va) 26)) := by
  have h1 := h.step (below_new wr o)
  have h2 := h1.step (below_new _ (.cells (ta.cells va ++ tb.cells vb) 26))
  have h3 := h2.step (below_new _ (.cells (ta.cells va) 26))
  have s1 : (wr.alloc o).heap.size = wr.heap.size + 1 := by simp
  have t2 := LiesL.two (t1 := ta) (t2 := tb) (heap_alloc_new (wr.alloc o) (.cells (ta.cells va ++ tb.cells vb) 26)) (ha.stay h2.bel) (hb.stay h2.bel)
  have t1 := LiesL.one' (t := ta) (heap_alloc_new ((wr.alloc o).alloc (.cells (ta.cells va ++ tb.cells vb) 26)) (.cells (ta.cells va) 26)) (ha.stay h3.bel)
  have s2 : ((wr.alloc o).alloc (.cells (ta.cells va ++ tb.cells vb) 26)).heap.size = wr.heap.size + 1 + 1 := by simp
  rw [s1] at t2
  rw [s2] at t1
  exact ⟨h3, ha.stay h3.bel, hb.stay h3.bel, t2.stay (below_new _ _), t1⟩
theorem told_str {ok : Nat → Prop} {l : Bs} {s : ByteArray} (hs : s.data.toList = l) {t : Rx} {v : Value} {w : World} (h : LiesL ok w v t.list) (hm : may t) (hp : Mp l t) :
    Calls Tryd.prog 19 #[.string s, t.val v] w fun e w' => e = .returned (.bool true) ∧ Below w.heap.size w w' := by
  have : s = str l := by rw [← hs]; simp [str]
  rw [this]
  exact told_any l t v w h hm (Mp_at hp)
theorem dec15 : decS 15 = [49, 53] := by decide +kernel
theorem dec_low (m : Nat) (h : m ≤ 9) : decS m = [UInt8.ofNat (48 + m)] := by
  have : m = 0 ∨ m = 1 ∨ m = 2 ∨ m = 3 ∨ m = 4 ∨ m = 5 ∨ m = 6 ∨ m = 7 ∨ m = 8 ∨ m = 9 := by omega
  rcases this with rfl | rfl | rfl | rfl | rfl | rfl | rfl | rfl | rfl | rfl <;> decide +kernel
theorem dec_high (m : Nat) (h : 10 ≤ m) (h2 : m ≤ 15) : decS m = [49, UInt8.ofNat (48 + (m - 10))] := by
  have : m = 10 ∨ m = 11 ∨ m = 12 ∨ m = 13 ∨ m = 14 ∨ m = 15 := by omega
  rcases this with rfl | rfl | rfl | rfl | rfl | rfl <;> decide +kernel
section
variable {w : World} {ta tb : Rx} {va vb : Value}
theorem T1_any (ma : may ta) (mb : may tb) (mab : ∀ x ∈ [ta, tb], may x) {s : ByteArray} (hs : s.data.toList = inB2 (patR ta)) {Y : Nat} {wr : World} (h : Jb w ta tb va vb Y wr) :
    Calls Tryd.prog 19 #[.string s, (ta.val va)] wr fun e w' => e = .returned (.bool true) ∧ Below wr.heap.size wr w' :=
  told_str hs (t := ta) (v := va) h.la ma (Mp_one (Pp_in (Mp_of ma)))
theorem T2_any (ma : may ta) (mb : may tb) (mab : ∀ x ∈ [ta, tb], may x) {s : ByteArray} (hs : s.data.toList = 40 :: 40 :: (patR ta ++ [41, 41])) {Y : Nat} {wr : World} (h : Jb w ta tb va vb Y wr) :
    Calls Tryd.prog 19 #[.string s, (ta.val va)] wr fun e w' => e = .returned (.bool true) ∧ Below wr.heap.size wr w' :=
  told_str hs (t := ta) (v := va) h.la ma (by have := Mp_one (Pp_in (Mp_one (Pp_in (Mp_of ma)))); simpa [inB2] using this)
theorem T3_any (ma : may ta) (mb : may tb) (mab : ∀ x ∈ [ta, tb], may x) {s : ByteArray} (hs : s.data.toList = inB2 (patR ta) ++ inB2 (patR tb)) {Y : Nat} {wr : World} (h : Jb w ta tb va vb Y wr) :
    Calls Tryd.prog 19 #[.string s, .agg #[.int .i64 1, .int .i64 0, .int .i64 0, .int .u64 0, .int .u64 0, .int .u64 0, .int .u64 0, .slice (some ⟨Y, 0, none⟩) 2 2]] wr fun e w' => e = .returned (.bool true) ∧ Below wr.heap.size wr w' :=
  told_str hs (t := .mk 1 0 0 0 0 0 0 [ta, tb]) (v := .slice (some ⟨Y, 0, none⟩) 2 2) h.two (may_two (.inl rfl) (by simp) mab) (Mp_row (Pp_in (Mp_of ma)) (Pp_in (Mp_of mb)))
theorem T4_any (ma : may ta) (mb : may tb) (mab : ∀ x ∈ [ta, tb], may x) {s : ByteArray} (hs : s.data.toList = inB2 (patR ta) ++ 124 :: inB2 (patR tb)) {Y : Nat} {wr : World} (h : Jb w ta tb va vb Y wr) :
    Calls Tryd.prog 19 #[.string s, .agg #[.int .i64 2, .int .i64 0, .int .i64 0, .int .u64 0, .int .u64 0, .int .u64 0, .int .u64 0, .slice (some ⟨Y, 0, none⟩) 2 2]] wr fun e w' => e = .returned (.bool true) ∧ Below wr.heap.size wr w' :=
  told_str hs (t := .mk 2 0 0 0 0 0 0 [ta, tb]) (v := .slice (some ⟨Y, 0, none⟩) 2 2) h.two (may_two (.inr rfl) (by simp) mab) (Mp_two (Pp_in (Mp_of ma)) (Pp_in (Mp_of mb)))
theorem T6_any (ma : may ta) (mb : may tb) (mab : ∀ x ∈ [ta, tb], may x) {s : ByteArray} (hs : s.data.toList = inB2 (patR ta) ++ [42]) {Y : Nat} {wr : World} (h : Jb w ta tb va vb Y wr) :
    Calls Tryd.prog 19 #[.string s, .agg #[.int .i64 3, .int .i64 0, .int .i64 (-1), .int .u64 0, .int .u64 0, .int .u64 0, .int .u64 0, .slice (some ⟨Y + 1, 0, none⟩) 1 1]] wr fun e w' => e = .returned (.bool true) ∧ Below wr.heap.size wr w' :=
  told_str hs (t := .mk 3 0 (-1) 0 0 0 0 [ta]) (v := .slice (some ⟨Y + 1, 0, none⟩) 1 1) h.one (may_rep ma (by decide)) (Mp_one (by have := Pp_sign (Mp_of ma) 0 (-1) (by decide); rw [show signS 0 (-1) = [42] from rfl] at this; exact this))
theorem T7_any (ma : may ta) (mb : may tb) (mab : ∀ x ∈ [ta, tb], may x) {s : ByteArray} (hs : s.data.toList = inB2 (patR ta) ++ [43]) {Y : Nat} {wr : World} (h : Jb w ta tb va vb Y wr) :
    Calls Tryd.prog 19 #[.string s, .agg #[.int .i64 3, .int .i64 1, .int .i64 (-1), .int .u64 0, .int .u64 0, .int .u64 0, .int .u64 0, .slice (some ⟨Y + 1, 0, none⟩) 1 1]] wr fun e w' => e = .returned (.bool true) ∧ Below wr.heap.size wr w' :=
  told_str hs (t := .mk 3 1 (-1) 0 0 0 0 [ta]) (v := .slice (some ⟨Y + 1, 0, none⟩) 1 1) h.one (may_rep ma (by decide)) (Mp_one (by have := Pp_sign (Mp_of ma) 1 (-1) (by decide); rw [show signS 1 (-1) = [43] from rfl] at this; exact this))
theorem T8_any (ma : may ta) (mb : may tb) (mab : ∀ x ∈ [ta, tb], may x) {s : ByteArray} (hs : s.data.toList = inB2 (patR ta) ++ [63]) {Y : Nat} {wr : World} (h : Jb w ta tb va vb Y wr) :
    Calls Tryd.prog 19 #[.string s, .agg #[.int .i64 3, .int .i64 0, .int .i64 1, .int .u64 0, .int .u64 0, .int .u64 0, .int .u64 0, .slice (some ⟨Y + 1, 0, none⟩) 1 1]] wr fun e w' => e = .returned (.bool true) ∧ Below wr.heap.size wr w' :=
  told_str hs (t := .mk 3 0 1 0 0 0 0 [ta]) (v := .slice (some ⟨Y + 1, 0, none⟩) 1 1) h.one (may_rep ma (by decide)) (Mp_one (Pp_sign (Mp_of ma) 0 1 (by decide)))
theorem T9_any (ma : may ta) (mb : may tb) (mab : ∀ x ∈ [ta, tb], may x) {m : Nat} (hm15 : m ≤ 15) {s : ByteArray} (hs : s.data.toList = inB2 (patR ta) ++ 123 :: (decS m ++ [125])) {Y : Nat} {wr : World} (h : Jb w ta tb va vb Y wr) :
    Calls Tryd.prog 19 #[.string s, .agg #[.int .i64 3, .int .i64 m, .int .i64 m, .int .u64 0, .int .u64 0, .int .u64 0, .int .u64 0, .slice (some ⟨Y + 1, 0, none⟩) 1 1]] wr fun e w' => e = .returned (.bool true) ∧ Below wr.heap.size wr w' :=
  told_str hs (t := .mk 3 m m 0 0 0 0 [ta]) (v := .slice (some ⟨Y + 1, 0, none⟩) 1 1) h.one (may_rep ma (by rw [areT_iff]; omega)) (Mp_one (Pp_times (Mp_of ma) (fun rest => by simpa using times_one m hm15 rest)))
theorem T10_any (ma : may ta) (mb : may tb) (mab : ∀ x ∈ [ta, tb], may x) {m : Nat} (hm15 : m ≤ 15) {s : ByteArray} (hs : s.data.toList = inB2 (patR ta) ++ 123 :: (decS m ++ [44, 125])) {Y : Nat} {wr : World} (h : Jb w ta tb va vb Y wr) :
    Calls Tryd.prog 19 #[.string s, .agg #[.int .i64 3, .int .i64 m, .int .i64 (-1), .int .u64 0, .int .u64 0, .int .u64 0, .int .u64 0, .slice (some ⟨Y + 1, 0, none⟩) 1 1]] wr fun e w' => e = .returned (.bool true) ∧ Below wr.heap.size wr w' :=
  told_str hs (t := .mk 3 m (-1) 0 0 0 0 [ta]) (v := .slice (some ⟨Y + 1, 0, none⟩) 1 1) h.one (may_rep ma (by rw [areT_iff]; omega)) (Mp_one (Pp_times (Mp_of ma) (fun rest => by simpa using times_more m hm15 rest)))
theorem T11_any (ma : may ta) (mb : may tb) (mab : ∀ x ∈ [ta, tb], may x) {m : Nat} (hm15 : m ≤ 15) {s : ByteArray} (hs : s.data.toList = inB2 (patR ta) ++ 123 :: (decS m ++ 44 :: 49 :: 53 :: [125])) {Y : Nat} {wr : World} (h : Jb w ta tb va vb Y wr) :
    Calls Tryd.prog 19 #[.string s, .agg #[.int .i64 3, .int .i64 m, .int .i64 15, .int .u64 0, .int .u64 0, .int .u64 0, .int .u64 0, .slice (some ⟨Y + 1, 0, none⟩) 1 1]] wr fun e w' => e = .returned (.bool true) ∧ Below wr.heap.size wr w' :=
  told_str hs (t := .mk 3 m 15 0 0 0 0 [ta]) (v := .slice (some ⟨Y + 1, 0, none⟩) 1 1) h.one (may_rep ma (by rw [areT_iff]; omega)) (Mp_one (Pp_times (Mp_of ma) (fun rest => by have := times_two m 15 hm15 (by omega) (by omega) rest; rw [dec15] at this; simpa using this)))
theorem T5_any (ma : may ta) (mb : may tb) {s : ByteArray} (hs : s.data.toList = patR ta ++ 124 :: (inB2 (patR ta) ++ 124 :: inB2 (patR tb))) {ao : Option Addr} {cap : Nat} {wr : World} (h : LiesL (fun _ => True) wr (.slice ao (rowsR ta ++ [ta, tb]).length cap) (rowsR ta ++ [ta, tb])) :
    Calls Tryd.prog 19 #[.string s, .agg #[.int .i64 2, .int .i64 0, .int .i64 0, .int .u64 0, .int .u64 0, .int .u64 0, .int .u64 0, .slice ao (rowsR ta ++ [ta, tb]).length cap]] wr fun e w' => e = .returned (.bool true) ∧ Below wr.heap.size wr w' :=
  told_str hs (t := .mk 2 0 0 0 0 0 0 (rowsR ta ++ [ta, tb])) h (may_two (.inr rfl) (by simp) (may_rowsR ma mb)) (Mp_rows ma mb)
end
end Go.Proofs.YthejkelnjimogaaDoor
