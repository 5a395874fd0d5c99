/- The reader of an instruction's words. Conditions: the library's variables are as they were laid. -/
import Derived.Test.YtmclcobklcjmnaaDoorCut
import Derived.Test.YtmclcobklcjmnaaDoorRes
namespace Go.Proofs.YtmclcobklcjmnaaDoor
open Go.RowKit Go.Maps
set_option linter.unusedVariables false
set_option linter.unusedSimpArgs false

def RdPost (T : Option In) (w : World) (e : Ending) (w' : World) : Prop := (∃ i, e = .returned (.tuple #[inV i, .bool T.isSome]) ∧ ∀ j, T = some j → i = j) ∧ Below w.heap.size w w'
theorem rdW_eq (rest : Bs) (k : Nat) (i : In) : rdW rest k i = match wordI (cutB 32 rest).1 k i with
  | none => none
  | some x => if (cutB 32 rest).2.2 = true then rdW (cutB 32 rest).2.1 x.1 x.2 else some x.2 := by
  rw [rdW]
  cases wordI (cutB 32 rest).1 k i with
  | none => rfl
  | some x => by_cases h : (cutB 32 rest).2.2 = true <;> simp [h]
theorem wp_scope_loop {P : Program} {a : Act} {w : World} {Q : Exit → Act → World → Prop} {c rest : Code} (l : Nat) (J : Act → World → Prop) (μ : Act → World → Nat) (hf : findLabel c l = some (.seq .skip rest))
    (pass : ∀ a w, J a w → rest.wp P (Exit.jump l (fun a' w' => J a' w' ∧ μ a' w' < μ a w) Q) a w)
    (first : (∀ a w, J a w → rest.wp P (Exit.jump l J Q) a w) → c.wp P (Exit.jump l J Q) a w) : (Code.scope c).wp P Q a w :=
  wp_scope_jumps l J μ hf (first fun a w hJ => wp_mono (pass a w hJ) fun e a' w' hq => by
    cases e with
    | goto l' => exact ⟨hq.1, hq.2.1⟩
    | normal => exact hq
    | exit id => exact hq
    | ret => exact hq
    | panic ch => exact hq
    | outgrown => exact hq) fun a w hJ => wp_seq (wp_skip (pass a w hJ))
/-- what is left of the two registers' places -/
def fldV (Y : Nat) : Nat → Value
  | 0 => .slice (some ⟨Y, 0, none⟩) 2 2
  | 1 => .slice (some ⟨Y, 1, none⟩) 1 1
  | _ => .slice (some ⟨Y, 1, none⟩) 0 0
/-- the memory at the label -/
structure RdS (w wr : World) (X Y : Nat) (i : In) : Prop where
  row : wr.heap[X]? = some (.cells #[.int .i64 i.op, .int .i64 i.a, .int .i64 i.b, .int .i64 i.imm] 30)
  ptr : wr.heap[Y]? = some (.cells #[.pointer (some ⟨X, 1, none⟩), .pointer (some ⟨X, 2, none⟩)] 104)
  res : wr.heap[w.heap.size]? = some (.cells #[.int .i64 0, .int .i64 0, .int .i64 0, .int .i64 0] 30)
  below : Below w.heap.size w wr
  hX : w.heap.size < X
  hY : X < Y
def RT (T : Option In) (rest : Bs) (k : Nat) (i : In) (ok more : Bool) : Prop := T = if ok = true then (if more = true then rdW rest k i else some i) else none
def RJ (s : ByteArray) (T : Option In) (w : World) : Act → World → Prop := fun a wr => ∃ (rest : Bs) (k : Nat) (i : In) (ok more : Bool) (X Y : Nat), RdS w wr X Y i ∧ RT T rest k i ok more ∧ k ≤ 2 ∧ rest.length ≤ s.size ∧ ∃ u1 u3 u4 u7 u11 u12 u13 u14 u15 u16 u17 u18 u19 u20 u21 u22 u23 u24 u25 u26 u27 u28 u29 u30 u31 u32 u33 u34 u35 u36 u37 u38 u39 u40 u41 u42 u43 u44 u45 u46 u47 u48 u49 u50 u51 u52 u53 u54 u55 u56 u57 u58 u59 u60 u61 u62 u63 u64 u65 u66 u67 u68 u69 u70 u71 : Value, a = { tmps := #[.string s, u1, .pointer (some ⟨w.heap.size, 0, none⟩), u3, u4, .string (str rest), .bool more, u7, .bool ok, .pointer (some ⟨X, 0, none⟩), fldV Y k, u11, u12, u13, u14, u15, u16, u17, u18, u19, u20, u21, u22, u23, u24, u25, u26, u27, u28, u29, u30, u31, u32, u33, u34, u35, u36, u37, u38, u39, u40, u41, u42, u43, u44, u45, u46, u47, u48, u49, u50, u51, u52, u53, u54, u55, u56, u57, u58, u59, u60, u61, u62, u63, u64, u65, u66, u67, u68, u69, u70, u71], defers := [] }
def strLen : Value → Nat
  | .string s => s.size + 1
  | _ => 0
def rdM (a : Act) : Nat := match a.tmps.getD 6 undef with | .bool true => strLen (a.tmps.getD 5 undef) | _ => 0
theorem two_old (w : World) (a b : Obj) : ((w.alloc a).alloc b).heap[w.heap.size]? = some a := by
  rw [heap_alloc_old _ _ (by simp)]
  exact heap_alloc_last w a
theorem two_new (w : World) (a b : Obj) : ((w.alloc a).alloc b).heap[w.heap.size + 1]? = some b := by
  have := heap_alloc_last (w.alloc a) b
  simpa using this
theorem rd_less {rest rest2 : Bs} {more2 : Bool} (h : more2 = true → rest2.length < rest.length) : (match (Value.bool more2) with | .bool true => strLen (.string (str rest2)) | _ => 0) < strLen (.string (str rest)) := by
  cases more2 with
  | false => exact Nat.succ_pos _
  | true => have := h rfl; show (str rest2).size + 1 < (str rest).size + 1; rw [str_size, str_size]; omega
theorem cutB_len1 (c : UInt8) : ∀ l, (cutB c l).1.length ≤ l.length
  | [] => Nat.le_refl _
  | x :: l => by
    unfold cutB
    by_cases e : x = c
    · rw [if_pos e]; simp
    · rw [if_neg e]; have := cutB_len1 c l; simp; omega
theorem cutB_len2 (c : UInt8) : ∀ l, (cutB c l).2.1.length ≤ l.length
  | [] => Nat.le_refl _
  | x :: l => by
    unfold cutB
    by_cases e : x = c
    · rw [if_pos e]; simp
    · rw [if_neg e]; have := cutB_len2 c l; simp; omega
theorem RdS.step {w wr w' : World} {X Y : Nat} {i : In} (h : RdS w wr X Y i) (hb : Below wr.heap.size wr w') : RdS w w' X Y i := by
  have hw := h.below.size
  have hx : X < wr.heap.size := block_lt h.row
  have hy : Y < wr.heap.size := block_lt h.ptr
  have hr : w.heap.size < wr.heap.size := block_lt h.res
  exact ⟨by rw [hb.block _ hx]; exact h.row, by rw [hb.block _ hy]; exact h.ptr, by rw [hb.block _ hr]; exact h.res, h.below.trans (hb.mono hw), h.hX, h.hY⟩
theorem RdS.put {w wr : World} {X Y : Nat} {i j : In} (h : RdS w wr X Y i) (q : Nat) (v : Value) (e : (#[.int .i64 i.op, .int .i64 i.a, .int .i64 i.b, .int .i64 i.imm] : Array Value).setIfInBounds q v = #[.int .i64 j.op, .int .i64 j.a, .int .i64 j.b, .int .i64 j.imm]) : RdS w (wr.setCell ⟨X, q, none⟩ v) X Y j := by
  have h1 := h.hX
  have h2 := h.hY
  refine ⟨?_, ?_, ?_, h.below.setCell (by show _ ≤ X; omega) _, h.hX, h.hY⟩
  · rw [set1 h.row, e]
  · rw [Below.heap_setCell _ _ _ _ (by show Y ≠ X; omega)]; exact h.ptr
  · rw [Below.heap_setCell _ _ _ _ (by show w.heap.size ≠ X; omega)]; exact h.res
theorem pre_cons (tl : Bs) : Lib.hasPrefix (114 :: tl) [114] = true ∧ Lib.trimPrefix (114 :: tl) [114] = tl := by
  have : Lib.hasPrefix (114 :: tl) [114] = true := by simp [Lib.hasPrefix]
  exact ⟨this, by unfold Lib.trimPrefix; rw [if_pos this]; rfl⟩
theorem pre_not (l : Bs) (h : l.head? ≠ some 114) : Lib.hasPrefix l [114] = false := by
  cases l with
  | nil => rfl
  | cons x l =>
    have : x ≠ 114 := fun e => h (by rw [e]; rfl)
    have h2 : ¬ (114 : UInt8) = x := fun e => this e.symm
    simp [Lib.hasPrefix, List.isPrefixOf, h2]
theorem rt_next {T : Option In} {wd rest2 : Bs} {more2 : Bool} {k k2 : Nat} {i i2 : In} (h : T = match wordI wd k i with
  | none => none
  | some x => if more2 = true then rdW rest2 x.1 x.2 else some x.2) (num : Bs) (hw : wordI wd k i = if digB num = true then some (k2, i2) else none) : RT T rest2 k2 i2 (digB num) more2 := by
  unfold RT
  rw [h, hw]
  cases digB num <;> rfl
theorem dig_some {l : Bs} {v : Int} (h : numE (Lib.atoiAll l) = some v) : digB l = true ∧ digN l = v := by
  unfold digB digN
  rw [h]
  cases e : Lib.atoiAll l with
  | ok x => rw [e] at h; exact ⟨rfl, Option.some.inj h⟩
  | «syntax» => rw [e] at h; cases h
  | range => rw [e] at h; cases h
theorem dig_none {l : Bs} (h : numE (Lib.atoiAll l) = none) : digB l = false := by
  unfold digB
  rw [h]
  rfl
theorem word_dig (wd : Bs) (k : Nat) (i : In) (h : ¬ (wd.head? = some 114 ∧ k < 2)) : wordI wd k i = if digB wd = true then some (k, { i with imm := digN wd }) else none := by
  unfold wordI
  rw [if_neg h]
  cases e : numE (Lib.atoiAll wd) with
  | none => rw [dig_none e]; rfl
  | some v => obtain ⟨h1, h2⟩ := dig_some e; rw [h1, h2]; rfl
theorem word_reg2 (tl : Bs) (k : Nat) (i : In) (h : k < 2) : wordI (114 :: tl) k i = if digB tl = true then some (k + 1, if k = 0 then { i with a := digN tl } else { i with b := digN tl }) else none := by
  unfold wordI
  rw [if_pos ⟨rfl, h⟩, List.tail_cons]
  cases e : numE (Lib.atoiAll tl) with
  | none => rw [dig_none e]; rfl
  | some v => obtain ⟨h1, h2⟩ := dig_some e; rw [h1, h2]; rfl
set_option maxRecDepth 100000 in
set_option maxHeartbeats 4000000 in
theorem read_any (s : ByteArray) (hs : s.size ≤ 281474976710656) (w : World) (hL : LaidV w) : Calls Tryd.prog 42 #[.string s] w (RdPost (readP s.data.toList) w) := by
  have KC := Lib.hid (fun w => cut_any s 32 (by omega) w)
  have KN := Lib.hid (fun w => num_any (str (cutB 32 s.data.toList).1) w)
  rw [str_list] at KN
  obtain ⟨T, hT⟩ : ∃ T, T = readP s.data.toList := ⟨_, rfl⟩
  have hlen : (cutB 32 s.data.toList).2.1.length ≤ s.size := Nat.le_trans (cutB_len2 32 _) (by rw [Array.length_toList]; exact Nat.le_refl _)
  rw [← hT]
  unfold readP at hT
  generalize cutB 32 s.data.toList = c at *
  obtain ⟨nm, rest, more⟩ := c
  dsimp only at *
  have hT2 : ∀ ok n, ok = numB nm → n = numV nm → RT T rest 0 ⟨n, 0, 0, 0⟩ ok more := by
    rintro _ _ rfl rfl
    unfold RT numB numV
    rw [hT]
    cases numP nm <;> simp
  have HT := Lib.hid hT2
  have HL := Lib.hid (And.intro hL (And.intro hs hlen))
  clear hT hT2 hs hL hlen
  obtain ⟨n, hn⟩ : ∃ n, n = numV nm := ⟨_, rfl⟩
  obtain ⟨ok, hok⟩ : ∃ n, n = numB nm := ⟨_, rfl⟩
  rw [← hn, ← hok] at KN
  have HN := Lib.hid (HT.out ok n hok hn)
  clear hn hok HT
  go_enter Tryd.func42, Tryd.ntmps42
  go_wp2
  refine wp_scope_loop 0 (RJ s T w) (fun a _ => rdM a) rfl ?_ ?_
  · clear KC KN HN
    rintro a wr ⟨rest, k, i, ok, more, X, Y, hS, hT, hk, hr, u1, u3, u4, u7, u11, u12, u13, u14, u15, u16, u17, u18, u19, u20, u21, u22, u23, u24, u25, u26, u27, u28, u29, u30, u31, u32, u33, u34, u35, u36, u37, u38, u39, u40, u41, u42, u43, u44, u45, u46, u47, u48, u49, u50, u51, u52, u53, u54, u55, u56, u57, u58, u59, u60, u61, u62, u63, u64, u65, u66, u67, u68, u69, u70, u71, rfl⟩
    have HR := Lib.hid (And.intro hT (And.intro hk hr))
    have KC2 : Hid (∀ w, Calls Tryd.prog 59 #[.string (str rest), .string ⟨#[32]⟩] w fun e w' => e = .returned (.tuple #[.string (str (cutB 32 rest).1), .string (str (cutB 32 rest).2.1), .bool (cutB 32 rest).2.2]) ∧ Below w.heap.size w w') := Lib.hid fun w1 => by
      have := cut_any (str rest) 32 (by rw [str_size]; have := HL.out.2.1; omega) w1
      rwa [str_list] at this
    obtain ⟨op, a, b, imm⟩ := i
    have x0 := cell_of_row wr X 0 _ _ _ hS.row
    have x1 := cell_of_row wr X 1 _ _ _ hS.row
    have x2 := cell_of_row wr X 2 _ _ _ hS.row
    have x3 := cell_of_row wr X 3 _ _ _ hS.row
    have r0 := cell_of_row wr w.heap.size 0 _ _ _ hS.res
    have r1 := cell_of_row wr w.heap.size 1 _ _ _ hS.res
    have r2 := cell_of_row wr w.heap.size 2 _ _ _ hS.res
    have r3 := cell_of_row wr w.heap.size 3 _ _ _ hS.res
    have f0 : ∀ k, wr.frozen? ⟨w.heap.size, k, none⟩ = false := fun k => by simp [World.frozen?, hS.res]
    have g0 := f0 0
    have g1 := f0 1
    have g2 := f0 2
    have g3 := f0 3
    simp at x0 x1 x2 x3 r0 r1 r2 r3
    have HS := Lib.hid hS
    clear hS hT hk hr f0
    by_cases hret : ok = true ∧ more = true
    · obtain ⟨rfl, rfl⟩ := hret
      have hcl := cutB_len 32 rest
      have hcl2 := cutB_len2 32 rest
      have hTT : T = rdW rest k ⟨op, a, b, imm⟩ := HR.out.1
      rw [rdW_eq] at hTT
      obtain ⟨wd, hwd⟩ : ∃ wd, wd = (cutB 32 rest).1 := ⟨_, rfl⟩
      obtain ⟨rest2, hrest2⟩ : ∃ x, x = (cutB 32 rest).2.1 := ⟨_, rfl⟩
      obtain ⟨more2, hmore2⟩ : ∃ x, x = (cutB 32 rest).2.2 := ⟨_, rfl⟩
      rw [← hwd, ← hrest2, ← hmore2] at KC2
      rw [← hwd, ← hrest2, ← hmore2] at hTT
      rw [← hrest2, ← hmore2] at hcl
      rw [← hrest2] at hcl2
      have hwl : wd.length ≤ rest.length := by rw [hwd]; exact cutB_len1 32 rest
      have KP := Lib.hid (fun w1 => Tryd.strings_CutPrefix (str wd) ⟨#[114]⟩ w1)
      rw [str_list] at KP
      have KD : Hid (∀ x : Bs, x.length ≤ wd.length → ∀ w1, Below wr.heap.size wr w1 → Calls Tryd.prog 62 #[.string (str x)] w1 fun e w' => e = .returned (.tuple #[.int .i64 (digN x), .bool (digB x)]) ∧ Below w1.heap.size w1 w') := Lib.hid fun x hx w1 hb => by
        have hh1 := HR.out.2.2
        have hh2 := HL.out.2.1
        have := dig_any (str x) (by rw [str_size]; omega) w1 (HL.out.1.below (HS.out.below.trans (hb.mono HS.out.below.size)))
        rwa [str_list] at this
      have HM : Hid (more2 = true → rest2.length < rest.length) := Lib.hid hcl
      have HZ : Hid (rest2.length ≤ s.size) := Lib.hid (Nat.le_trans hcl2 HR.out.2.2)
      have HTT := Lib.hid hTT
      clear hTT hcl hcl2 hwl hwd hrest2 hmore2 x0 r0 r1 r2 r3 g0 g1 g2 g3
      have y3 : wr.frozen? ⟨X, 3, none⟩ = false := by simp [World.frozen?, HS.out.row]
      have hXr : X < wr.heap.size := block_lt HS.out.row
      by_cases hp : wd.head? = some 114
      · obtain ⟨tl, rfl⟩ : ∃ tl, wd = 114 :: tl := by
          cases wd with
          | nil => cases hp
          | cons x l => exact ⟨l, by rw [Option.some.inj hp]⟩
        clear hp
        obtain ⟨hq1, hq2⟩ := pre_cons tl
        rw [show (⟨#[114]⟩ : ByteArray).data.toList = [114] from rfl, hq1, hq2] at KP
        obtain ⟨KQ⟩ : Nonempty (Hid (∀ w1, Calls Tryd.prog 61 #[.string (str (114 :: tl)), .string ⟨#[114]⟩] w1 fun e w' => e = .returned (.tuple #[.string (str tl), .bool true]) ∧ w' = w1)) := ⟨Lib.hid (fun w1 => KP.out w1)⟩
        clear KP
        have y1 : wr.frozen? ⟨X, 1, none⟩ = false := by simp [World.frozen?, HS.out.row]
        have y2 : wr.frozen? ⟨X, 2, none⟩ = false := by simp [World.frozen?, HS.out.row]
        have hYr : Y < wr.heap.size := block_lt HS.out.ptr
        have p0 := cell_of_row wr Y 0 _ _ _ HS.out.ptr
        have p1 := cell_of_row wr Y 1 _ _ _ HS.out.ptr
        simp at p0 p1
        have hk2 := HR.out.2.1
        have HXY : Hid (Y ≠ X) := Lib.hid (Nat.ne_of_gt HS.out.hY)
        obtain rfl | rfl | rfl : k = 0 ∨ k = 1 ∨ k = 2 := by omega
        · have hw := Lib.hid (rt_next (rest2 := rest2) (more2 := more2) HTT.out tl (word_reg2 tl 0 ⟨op, a, b, imm⟩ (by omega)))
          have KD2 := Lib.hid (KD.out tl (by simp))
          rw [show fldV Y 0 = .slice (some ⟨Y, 0, none⟩) 2 2 from rfl]
          clear KD hq1 hq2 HTT hk2
          go_upto_region 11 with (first
            | (go_at_call 59; (with_reducible refine (KC2.out _).mono ?_); rintro e w1 ⟨rfl, hb⟩; have HB1 := Lib.hid hb; have z1 := ((bcell hb).1 X 1 hXr).trans x1; have q1 := ((bcell hb).2 X 1 hXr).trans y1; have pp := ((bcell hb).1 Y 0 hYr).trans p0; have hX1 : X < w1.heap.size := Nat.lt_of_lt_of_le hXr hb.size; clear hb)
            | (go_at_call 61; (with_reducible refine (KQ.out _).mono ?_); rintro e w2 ⟨rfl, rfl⟩))
          clear x1 x2 x3 y1 y2 y3 p0 p1
          go_region_held3 (fun w' => w'.cell? ⟨Y, 0, none⟩ = some (.pointer (some ⟨X, 1, none⟩)))
            (first
              | exact pp
              | exact cell_below (W := w2.drew) pp hb3
              | (rw [set_other HXY.out]; exact cell_below (W := w2.drew) pp hb3))
            (first
              | (go_at_call 62; (with_reducible refine (KD2.out _ HB1.out.drew).mono ?_); rintro e w3 ⟨rfl, hb3⟩; have HB3 := Lib.hid hb3; have z4 := ((bcell hb3).1 X 1 hX1).trans z1; have q4 := ((bcell hb3).2 X 1 hX1).trans q1))
          go_wp2
          go_step3
          refine And.intro rfl (And.intro ?_ ?_)
          · exact ⟨rest2, 1, ⟨op, digN tl, b, imm⟩, digB tl, more2, X, Y, (HS.out.step (HB1.out.drew.trans (HB3.out.mono HB1.out.drew.size))).put 1 _ rfl, hw.out, by omega, HZ.out, by (repeat apply Exists.intro); rfl⟩
          · exact rd_less HM.out
        · have hw := Lib.hid (rt_next (rest2 := rest2) (more2 := more2) HTT.out tl (word_reg2 tl 1 ⟨op, a, b, imm⟩ (by omega)))
          have KD2 := Lib.hid (KD.out tl (by simp))
          rw [show fldV Y 1 = .slice (some ⟨Y, 1, none⟩) 1 1 from rfl]
          clear KD hq1 hq2 HTT hk2
          go_upto_region 11 with (first
            | (go_at_call 59; (with_reducible refine (KC2.out _).mono ?_); rintro e w1 ⟨rfl, hb⟩; have HB1 := Lib.hid hb; have z1 := ((bcell hb).1 X 2 hXr).trans x2; have q1 := ((bcell hb).2 X 2 hXr).trans y2; have pp := ((bcell hb).1 Y 1 hYr).trans p1; have hX1 : X < w1.heap.size := Nat.lt_of_lt_of_le hXr hb.size; clear hb)
            | (go_at_call 61; (with_reducible refine (KQ.out _).mono ?_); rintro e w2 ⟨rfl, rfl⟩))
          clear x1 x2 x3 y1 y2 y3 p0 p1
          go_region_held3 (fun w' => w'.cell? ⟨Y, 1, none⟩ = some (.pointer (some ⟨X, 2, none⟩)))
            (first
              | exact pp
              | exact cell_below (W := w2.drew) pp hb3
              | (rw [set_other HXY.out]; exact cell_below (W := w2.drew) pp hb3))
            (first
              | (go_at_call 62; (with_reducible refine (KD2.out _ HB1.out.drew).mono ?_); rintro e w3 ⟨rfl, hb3⟩; have HB3 := Lib.hid hb3; have z4 := ((bcell hb3).1 X 2 hX1).trans z1; have q4 := ((bcell hb3).2 X 2 hX1).trans q1))
          go_wp2
          go_step3
          refine And.intro rfl (And.intro ?_ ?_)
          · exact ⟨rest2, 2, ⟨op, a, digN tl, imm⟩, digB tl, more2, X, Y, (HS.out.step (HB1.out.drew.trans (HB3.out.mono HB1.out.drew.size))).put 2 _ rfl, hw.out, by omega, HZ.out, by (repeat apply Exists.intro); rfl⟩
          · exact rd_less HM.out
        · have hw := Lib.hid (rt_next (rest2 := rest2) (more2 := more2) HTT.out (114 :: tl) (word_dig (114 :: tl) 2 ⟨op, a, b, imm⟩ (fun e => absurd e.2 (by omega))))
          have KD2 := Lib.hid (KD.out (114 :: tl) (Nat.le_refl _))
          rw [show fldV Y 2 = .slice (some ⟨Y, 1, none⟩) 0 0 from rfl]
          clear KD hq1 hq2 HTT p0 p1 hk2 y1 y2 hYr
          go_wp2_with (first
            | (go_at_call 59; (with_reducible refine (KC2.out _).mono ?_); rintro e w1 ⟨rfl, hb⟩; have HB1 := Lib.hid hb; have z3 := ((bcell hb).1 X 3 hXr).trans x3; have q3 := ((bcell hb).2 X 3 hXr).trans y3; have hX1 : X < w1.heap.size := Nat.lt_of_lt_of_le hXr hb.size; clear hb)
            | (go_at_call 61; (with_reducible refine (KQ.out _).mono ?_); rintro e w2 ⟨rfl, rfl⟩)
            | (go_at_call 62; (with_reducible refine (KD2.out _ HB1.out).mono ?_); rintro e w3 ⟨rfl, hb⟩; have HB3 := Lib.hid hb; have z4 := ((bcell hb).1 X 3 hX1).trans z3; have q4 := ((bcell hb).2 X 3 hX1).trans q3; clear hb))
          go_step3
          refine And.intro rfl (And.intro ?_ ?_)
          · exact ⟨rest2, 2, ⟨op, a, b, digN (114 :: tl)⟩, digB (114 :: tl), more2, X, Y, (HS.out.step (HB1.out.trans (HB3.out.mono HB1.out.size))).put 3 _ rfl, hw.out, by omega, HZ.out, by (repeat apply Exists.intro); rfl⟩
          · exact rd_less HM.out
      · have hq := pre_not wd hp
        have hw := Lib.hid (rt_next (rest2 := rest2) (more2 := more2) HTT.out wd (word_dig wd k ⟨op, a, b, imm⟩ (fun e => hp e.1)))
        rw [show (⟨#[114]⟩ : ByteArray).data.toList = [114] from rfl, hq] at KP
        have KD2 := Lib.hid (KD.out wd (Nat.le_refl _))
        clear KD hp hq HTT
        go_wp2_with (first
          | (go_at_call 59; (with_reducible refine (KC2.out _).mono ?_); rintro e w1 ⟨rfl, hb⟩; have HB1 := Lib.hid hb; have z3 := ((bcell hb).1 X 3 hXr).trans x3; have q3 := ((bcell hb).2 X 3 hXr).trans y3; have hX1 : X < w1.heap.size := Nat.lt_of_lt_of_le hXr hb.size; clear hb)
          | (go_at_call 61; (with_reducible refine (KP.out _).mono ?_); rintro e w2 ⟨rfl, rfl⟩)
          | (go_at_call 62; (with_reducible refine (KD2.out _ HB1.out).mono ?_); rintro e w3 ⟨rfl, hb⟩; have HB3 := Lib.hid hb; have z4 := ((bcell hb).1 X 3 hX1).trans z3; have q4 := ((bcell hb).2 X 3 hX1).trans q3; clear hb))
        go_step3
        refine And.intro rfl (And.intro ?_ ?_)
        · exact ⟨rest2, k, ⟨op, a, b, digN wd⟩, digB wd, more2, X, Y, (HS.out.step (HB1.out.trans (HB3.out.mono HB1.out.size))).put 3 _ rfl, hw.out, HR.out.2.1, HZ.out, by (repeat apply Exists.intro); rfl⟩
        · exact rd_less HM.out
    · have HF : Hid (T.isSome = ok ∧ ∀ j, T = some j → (⟨op, a, b, imm⟩ : In) = j) := Lib.hid (by
        have := HR.out.1
        unfold RT at this
        cases ok <;> cases more <;> simp_all)
      clear KC2
      have hh := Lib.hid (set4 (HS.out.res) (.int .i64 op) (.int .i64 a) (.int .i64 b) (.int .i64 imm))
      have hbw := Lib.hid (below4 HS.out.below (Nat.le_refl _) (.int .i64 op) (.int .i64 a) (.int .i64 b) (.int .i64 imm))
      cases ok
      · clear hret
        go_wp2
        exact bodyPost_ret_by (results_ct Tryd.results42 _ _ w.heap.size 30 _ (0, 0) _ _ rfl rfl hh.out Tryd.underlying30 rfl (by kernel_rfl)) rfl ⟨⟨⟨op, a, b, imm⟩, by rw [HF.out.1]; rfl, HF.out.2⟩, hbw.out⟩
      · cases more
        · clear hret
          go_wp2
          exact bodyPost_ret_by (results_ct Tryd.results42 _ _ w.heap.size 30 _ (0, 0) _ _ rfl rfl hh.out Tryd.underlying30 rfl (by kernel_rfl)) rfl ⟨⟨⟨op, a, b, imm⟩, by rw [HF.out.1]; rfl, HF.out.2⟩, hbw.out⟩
        · exact absurd ⟨rfl, rfl⟩ hret
  · intro again
    have AG := Lib.hid again
    clear again
    go_wp2_with (first
      | (go_at_call 59; (with_reducible refine (KC.out _).mono ?_); rintro e w1 ⟨rfl, hb⟩; have HB1 := Lib.hid hb; have hz1 : w.heap.size < w1.heap.size := (by have := hb.size; simp at this; omega); clear hb)
      | (go_at_call 60; (with_reducible refine (KN.out _).mono ?_); rintro e w2 ⟨rfl, hb⟩; have HB2 := Lib.hid hb; have hz2 : w.heap.size < w2.heap.size := (by have := hb.size; omega); clear hb))
    go_step3
    rename_i hK
    refine hK _ _ ?_
    refine AG.out _ _ ?_
    have h0 := HB1.out
    have h1 := HB2.out
    have hz0 : (w.alloc (.cells #[.int .i64 0, .int .i64 0, .int .i64 0, .int .i64 0] 30)).heap.size = w.heap.size + 1 := by simp
    have hbw : Below w.heap.size w w2 := ((((Below.refl _ w).alloc (Nat.le_refl _) _).trans (h0.mono (by omega))).trans (h1.mono (by omega)))
    have hr : w2.heap[w.heap.size]? = some (.cells #[.int .i64 0, .int .i64 0, .int .i64 0, .int .i64 0] 30) := by
      rw [h1.block _ hz1, h0.block _ (by omega)]
      exact heap_alloc_last w _
    refine ⟨rest, 0, ⟨n, 0, 0, 0⟩, ok, more, w2.heap.size, w2.heap.size + 1, ⟨two_old _ _ _, two_new _ _ _, ?_, (hbw.alloc (by omega) _).alloc (by simp; omega) _, hz2, Nat.lt_succ_self _⟩, HN.out, by omega, HL.out.2.2, ?_⟩
    · rw [heap_alloc_old _ _ (by simp; omega), heap_alloc_old _ _ hz2]
      exact hr
    · repeat apply Exists.intro
      rfl
end Go.Proofs.YtmclcobklcjmnaaDoor
