/- A block's bytes by the code, and what it says of a sector: what each call returns; nothing that was there turns. Conditions: an int is within 64 bits, a string is no longer than a machine holds. -/
import Derived.Test.YtnecbbflcpngcaaBlk
import Derived.Test.YtnecbbflcpngcaaCMeth
import Derived.Test.YtnecbbflcpngcaaDsk
import Derived.Lib.AppendStr
import Derived.Laws.CopyOwn
namespace Go.Proofs.Ytnecbbflcpngcaa
open Go.RowKit Go.Maps Go.Lib
set_option maxRecDepth 20000
set_option linter.unusedVariables false

set_option maxHeartbeats 400000 in
theorem isStamp_any (n : Int) (w : World) : Calls Try.prog 40 #[.int .i64 n] w fun e w' => e = .returned (.bool (decide (stOk n))) ∧ w = w' := by
  by_cases a : 0 ≤ n
  · by_cases b : n ≤ 4611686018427387904
    · rw [show decide (stOk n) = true from decide_eq_true ⟨a, b⟩]
      go_enter Try.func40, Try.ntmps40
      go_wp2
      go_ret
      exact ⟨rfl, rfl⟩
    · rw [show decide (stOk n) = false from decide_eq_false (fun h => b h.2)]
      go_enter Try.func40, Try.ntmps40
      go_wp2
      go_ret
      exact ⟨rfl, rfl⟩
  · rw [show decide (stOk n) = false from decide_eq_false (fun h => a h.1)]
    go_enter Try.func40, Try.ntmps40
    go_wp2
    go_ret
    exact ⟨rfl, rfl⟩
theorem sumOf_any (s : ByteArray) (w : World) (hs : s.size ≤ maxLen) :
    Calls Try.prog 41 #[.string s] w fun e w' => e = .returned (.string (ofL (sumB s.data.toList))) ∧ Below w.heap.size w w' := by
  have k1 := Cd.sum32_any s w hs
  have k2 : ∀ W, Calls Try.prog 42 #[.int .i64 ((Cd.crc s.data.toList : Nat) : Int), .int .i64 4] W _ := fun W => Cd.put_any ((Cd.crc s.data.toList : Nat) : Int) 4 W (by omega) (by omega)
  have hc := Cd.crc_lt s.data.toList
  have hw : wrap64 ((Cd.crc s.data.toList : Nat) : Int) = ((Cd.crc s.data.toList : Nat) : Int) := by unfold wrap64; omega
  generalize hcc : ((Cd.crc s.data.toList : Nat) : Int) = c at *
  go_enter Try.func41, Try.ntmps41
  go_wp2_with (go_at_call 78; refine k1.mono ?_; rintro e w' ⟨rfl, rfl⟩)
  go_wp2_with (go_at_call 42; refine (k2 _).mono ?_; rintro e w' ⟨rfl, hb⟩)
  go_ret
  refine ⟨?_, hb⟩
  unfold sumB ofL
  rw [hcc]
  rfl
theorem wpList_append_run2 {ops : Array Oper} {rest : List Oper} {o : Oper} {a : Act} {w : World} {Q : Exit → Act → World → Prop} (hgd : o.guard = none) (s x : Operand) (t u : TypeId)
    (ho : o.op = .call { callee := .builtin .append, args := #[s, x], argTypes := #[t, u] }) (vs vx v' : Value) (w' : World) (hs : a.eval s = vs) (hx : a.eval x = vx)
    (hr : (Builtin.append_ #[t, u] o.type #[vs, vx]).run Try.prog w = .ok v' w') (hk : wpList Try.prog ops Q rest (a.put o.dst v') w') : wpList Try.prog ops Q (o :: rest) a w := by
  refine wpList_plain hgd fun K hK => ?_
  unfold Oper.wp execOp
  simp only [ho, resolve, invoke, builtin, Sem.run_bind, Sem.run_pure, Result.andThen_ok, List.map_toArray, List.map_cons, List.map_nil, hs, hx, hr]
  exact hK _ _ hk
theorem Try.info5' : (Try.prog.info? 5).map (·.size) = some 1 := by kernel_rfl
/-- an array of bytes -/
def Ar (w : World) (g : Nat) (l : Bts) : Prop := w.heap[g]? = some (.cells (l.map cellB).toArray 79 (0, 0))
theorem Ar.lt {w : World} {g : Nat} {l : Bts} (h : Ar w g l) : g < w.heap.size := block_lt h
theorem Ar.below {w w' : World} {g : Nat} {l : Bts} (h : Ar w g l) (hb : Below w.heap.size w w') : Ar w' g l := (hb.block g h.lt).trans h
theorem strCells_cellB (s : ByteArray) : Lib.strCells s = s.data.toList.map cellB := rfl
theorem Ar.copy {w : World} {g : Nat} {l : Bts} (h : Ar w g l) (s : ByteArray) (ty : TypeId) (hs : s.size ≤ l.length) :
    ∃ W, (Builtin.copy_ #[30, 9] ty #[.slice (some ⟨g, 0, none⟩) l.length l.length, .string s]).run Try.prog w = .ok (goInt s.size) W ∧ Ar W g (s.data.toList ++ l.drop s.size) ∧ W = w.setRow g ((s.data.toList ++ l.drop s.size).map cellB).toArray := by
  have := Lib.run_copy_row_string (P := Try.prog) w 30 9 ty 5 g 0 l.length l.length s _ 79 Try.underlying30 Try.info5' h hs (by simp; omega)
  have e : (((l.map cellB).toArray.toList.take 0 ++ Lib.byteCells s.data.toList ++ (l.map cellB).toArray.toList.drop (0 + s.size)).toArray : Array Value) = ((s.data.toList ++ l.drop s.size).map cellB).toArray := by
    rw [List.toList_toArray, List.take_zero, List.nil_append, Nat.zero_add, List.map_append, List.map_drop]
    rfl
  rw [e] at this
  exact ⟨_, this, setRow_heap _ _ _ _ _ _ h, rfl⟩
theorem Ar.append {w : World} {g : Nat} {l : Bts} (h : Ar w g l) (n cap : Nat) (s : ByteArray) (ty : TypeId) (hn : n + s.size ≤ cap) (hc : n + s.size ≤ l.length) :
    ∃ W, (Builtin.append_ #[30, 9] ty #[.slice (some ⟨g, 0, none⟩) n cap, .string s]).run Try.prog w = .ok (.slice (some ⟨g, 0, none⟩) (n + s.size) cap) W ∧ Ar W g (l.take n ++ s.data.toList ++ l.drop (n + s.size)) ∧ W = w.setRow g ((l.take n ++ s.data.toList ++ l.drop (n + s.size)).map cellB).toArray := by
  obtain ⟨i, hi, hs1⟩ : ∃ i, Try.prog.info? 5 = some i ∧ i.size = 1 := by
    have := Try.info5'
    cases hq : Try.prog.info? 5 with
    | none => simp [hq] at this
    | some i => exact ⟨i, rfl, by simpa [hq] using this⟩
  have hf := Lib.run_firstCells_string (P := Try.prog) w 1 s
  have hst := run_storeCells_at Try.prog g n 79 (Lib.strCells s) 0 _ w h (by simp [Lib.strCells_length]; omega) (Lib.strCells_oneCell s)
  simp only [Nat.add_zero, Lib.strCells_length] at hst
  have e : (((l.map cellB).toArray.toList.take n ++ Lib.strCells s ++ (l.map cellB).toArray.toList.drop (n + s.size)).toArray : Array Value) = ((l.take n ++ s.data.toList ++ l.drop (n + s.size)).map cellB).toArray := by
    rw [List.toList_toArray, List.map_append, List.map_append, List.map_drop, List.map_take]
    rfl
  rw [e] at hst
  refine ⟨_, ?_, setRow_heap _ _ _ _ _ _ h, rfl⟩
  simp [Builtin.append_, run_underlying Try.underlying30, run_underlying Try.underlying9, sizeOf, typeInfo, hi, hs1, Builtin.lenOf, hn, hf, Addr.add_lit, hst]
theorem Ar.string {w W : World} {g : Nat} {l : Bts} (h : Ar w g l) (n c : Nat) (hn : n ≤ l.length) (hw : W.heap = w.heap) :
    (convert 30 9 (.slice (some ⟨g, 0, none⟩) n c)).run Try.prog W = .ok (.string (ofL (l.take n))) W := by
  have e : (l.take n).length = n := by simp; omega
  have := run_convert_bytes_back (P := Try.prog) W 30 9 5 ⟨g, 0, none⟩ c (l.take n) Try.underlying30 Try.underlying5 Try.underlying9 (fun j hj => by
    rw [e] at hj
    have hh : W.heap[g]? = some (.cells (l.map cellB).toArray 79 (0, 0)) := by rw [hw]; exact h
    rw [addr_at, Nat.zero_add, cell_of_row W g j _ _ _ hh]
    have hj' : j < l.length := by omega
    simp [cellB, List.getElem?_eq_getElem hj'])
  rw [e] at this
  exact this
theorem zero79 : Try.zeroCells79 = ((List.replicate 128 (0 : UInt8)).map cellB).toArray := by kernel_rfl
theorem Ar.made (w : World) : Ar (w.alloc (.cells Try.zeroCells79 79)) w.heap.size (List.replicate 128 0) := by
  unfold Ar; rw [zero79]; exact block_new _ _
set_option maxHeartbeats 1000000 in
theorem bytes_any (d : ByteArray) (n : Int) (w : World) (hs : d.size ≤ 281474976710656) :
    Calls Try.prog 10 #[.string d, .int .i64 n] w fun e w' => e = .returned (.tuple #[.string (ofL (bytS d.data.toList n)), .int .i64 (bytE d.data.toList n)]) ∧ Below w.heap.size w w' := by
  have hl : d.data.toList.length = d.size := baList d
  by_cases a : 116 < d.size
  · have e1 : bytE d.data.toList n = 152 := by unfold bytE; rw [if_pos (by omega)]
    have e2 : bytS d.data.toList n = [] := by unfold bytS; rw [e1]; rfl
    rw [e1, e2]
    clear hl
    go_enter Try.func10, Try.ntmps10
    go_wp2
    go_ret2
    exact ⟨rfl, Below.refl _ _⟩
  · by_cases b : stOk n
    · have e1 : bytE d.data.toList n = 0 := bytE_of (by omega) b
      have e2 := bytS_of e1
      rw [e1, e2]
      have k := isStamp_any n w
      rw [show decide (stOk n) = true from decide_eq_true b] at k
      clear hl e1 e2 b
      have hA := Ar.made w
      obtain ⟨W1, hcp, hA1, hW1⟩ := hA.copy d 3 (by simp; omega)
      rw [List.length_replicate] at hcp
      have hb1 : Below w.heap.size w W1 := by rw [hW1]; exact below_setRow ((Below.refl _ w).alloc (Nat.le_refl _) _) (Nat.le_refl _) _
      obtain ⟨P, hP⟩ : ∃ P, P = padB d.data.toList := ⟨_, rfl⟩
      have hPl : P.length = 116 := by rw [hP]; exact padB_len (by rw [baList]; omega)
      have eA : d.data.toList ++ (List.replicate 128 (0 : UInt8)).drop d.size = P ++ List.replicate 12 0 := by
        rw [hP]; unfold padB
        rw [List.append_assoc, List.replicate_append_replicate, List.drop_replicate, baList]
        congr 2; omega
      rw [eA] at hA1
      have hcv := hA1.string (W := W1) 116 128 (by simp; omega) rfl
      rw [List.take_append_of_le_length (by omega), List.take_of_length_le (by omega)] at hcv
      have ks := sumOf_any (ofL P) W1 (by rw [ofL_size]; unfold maxLen; omega)
      rw [ofL_list] at ks
      have HP := Lib.hid hP
      have HA1 := Lib.hid hA1
      have HB1 := Lib.hid hb1
      have HPl := Lib.hid hPl
      clear hP hA1 hb1 hA hW1 eA hPl
      go_enter Try.func10, Try.ntmps10
      go_wp2_with (go_at_call 40; refine k.mono ?_; rintro e w' ⟨rfl, rfl⟩)
      have k3 : Hid (∀ W, Calls Try.prog 42 #[.int .i64 n, .int .i64 8] W fun e w' => e = .returned (.string (ofL (Cd.putS n 8))) ∧ Below W.heap.size W w') := fun W => Cd.put_any n 8 W (by omega) (by omega)
      have s4 : (ofL (sumB P)).size = 4 := by rw [ofL_size, sumB_len]
      have s8 : (ofL (Cd.putS n 8)).size = 8 := by rw [ofL_size, Cd.putS_length]
      have HS := Lib.hid (And.intro s4 s8)
      clear s4 s8
      have HF1 : Hid (∀ w2, Below W1.heap.size W1 w2 → ∃ W3, (Builtin.append_ #[30, 9] 30 #[.slice (some ⟨w.heap.size, 0, none⟩) 116 128, .string (ofL (sumB P))]).run Try.prog w2 = .ok (.slice (some ⟨w.heap.size, 0, none⟩) 120 128) W3 ∧ Ar W3 w.heap.size (P ++ sumB P ++ List.replicate 8 0) ∧ Below w.heap.size w W3) := by
        intro w2 hb2
        obtain ⟨W3, h1, h2, h3⟩ := (HA1.out.below hb2).append 116 128 (ofL (sumB P)) 30 (by rw [HS.out.1]; omega) (by rw [HS.out.1]; simp [HPl.out])
        rw [HS.out.1] at h1 h2
        refine ⟨W3, h1, ?_, ?_⟩
        · rw [List.take_append_of_le_length (by rw [HPl.out]; omega), List.take_of_length_le (by rw [HPl.out]; omega), List.drop_append, HPl.out, List.drop_of_length_le (by rw [HPl.out]; omega), List.nil_append, List.drop_replicate, ofL_list] at h2
          exact h2
        · rw [h3]; exact below_setRow (HB1.out.trans (hb2.mono HB1.out.size)) (Nat.le_refl _) _
      have HF2 : Hid (∀ W3 w4, Ar W3 w.heap.size (P ++ sumB P ++ List.replicate 8 0) → Below w.heap.size w W3 → Below W3.heap.size W3 w4 → ∃ W5, (Builtin.append_ #[30, 9] 30 #[.slice (some ⟨w.heap.size, 0, none⟩) 120 128, .string (ofL (Cd.putS n 8))]).run Try.prog w4 = .ok (.slice (some ⟨w.heap.size, 0, none⟩) 128 128) W5 ∧ (convert 30 9 (.slice (some ⟨w.heap.size, 0, none⟩) 128 128)).run Try.prog W5 = .ok (.string (ofL (blkB d.data.toList n))) W5 ∧ Below w.heap.size w W5) := by
        intro W3 w4 hA hb hb4
        have hl : (P ++ sumB P).length = 120 := by rw [List.length_append, HPl.out, sumB_len]
        obtain ⟨W5, h1, h2, h3⟩ := (hA.below hb4).append 120 128 (ofL (Cd.putS n 8)) 30 (by rw [HS.out.2]; omega) (by rw [HS.out.2, List.length_append, hl]; simp)
        rw [HS.out.2] at h1 h2
        rw [List.take_append_of_le_length (by rw [hl]; omega), List.take_of_length_le (by rw [hl]; omega), List.drop_of_length_le (by rw [List.length_append, hl]; simp), List.append_nil, ofL_list, HP.out] at h2
        have h4 := h2.string (W := W5) 128 128 (by have := blkB_len (d := d.data.toList) n (by rw [baList]; omega); unfold blkB at this; omega) rfl
        refine ⟨W5, h1, ?_, ?_⟩
        · rw [List.take_of_length_le (by have := blkB_len (d := d.data.toList) n (by rw [baList]; omega); unfold blkB at this; omega)] at h4
          exact h4
        · rw [h3]; exact below_setRow (hb.trans (hb4.mono hb.size)) (Nat.le_refl _) _
      go_wp2_with (first
        | (go_at_call 41; refine ks.mono ?_; rintro e w2 ⟨rfl, hb2⟩; obtain ⟨W3, hr3, hw3⟩ := HF1.out w2 hb2; have HR3 := Lib.hid hr3; have HW3 := Lib.hid hw3; clear hr3 hw3 hb2)
        | (go_at_call 42; refine (k3.out _).mono ?_; rintro e w4 ⟨rfl, hb4⟩; obtain ⟨W5, hr5, hcv5, hb5⟩ := HF2.out _ w4 HW3.out.1 HW3.out.2 hb4; have HR5 := Lib.hid hr5; have HB5 := Lib.hid hb5; clear hr5 hb4 hb5)
        | (at_builtin; refine wpList_append_run2 rfl (.tmp 18) (.tmp 21) 30 9 rfl _ _ _ _ rfl rfl HR3.out ?_)
        | (at_builtin; refine wpList_append_run2 rfl (.tmp 23) (.tmp 25) 30 9 rfl _ _ _ _ rfl rfl HR5.out ?_))
      go_ret2
      exact ⟨rfl, HB5.out⟩
    · have e1 : bytE d.data.toList n = 1 := by unfold bytE; rw [if_neg (by omega), if_neg b]
      have e2 : bytS d.data.toList n = [] := by unfold bytS; rw [e1]; rfl
      rw [e1, e2]
      have k := isStamp_any n w
      rw [show decide (stOk n) = false from decide_eq_false b] at k
      clear hl e1 e2 b
      go_enter Try.func10, Try.ntmps10
      go_wp2_with (go_at_call 40; refine k.mono ?_; rintro e w' ⟨rfl, rfl⟩)
      go_ret2
      exact ⟨rfl, Below.refl _ _⟩
theorem gr_belowC {w w' : World} {b : Nat} (h : w.grownBy w' (some b)) (B : Nat) (hB : B ≤ w.heap.size) (hb : B ≤ b) : Below B w w' :=
  ⟨h.os, h.tape, h.output, h.size, fun k hk => h.block k (by omega) (fun e => by injection e with e; omega)⟩
theorem bsub_list (s : ByteArray) (a b : Nat) : (s.extract a b).data.toList = (s.data.toList.drop a).take (b - a) := by
  simp [ByteArray.data_extract]
set_option maxHeartbeats 1000000 in
theorem parse_any (s : ByteArray) (w : World) (hs : s.size ≤ 281474976710656) :
    Calls Try.prog 12 #[.string s] w fun e w' => e = .returned (.tuple #[.string (ofL (parD s.data.toList)), .int .i64 (parN s.data.toList), .int .i64 (parE s.data.toList)]) ∧ Below w.heap.size w w' := by
  have hl : s.data.toList.length = s.size := baList s
  by_cases a : s.size = 128
  · obtain ⟨D, hD⟩ : ∃ D, D = s.extract 0 116 := ⟨_, rfl⟩
    obtain ⟨C, hC⟩ : ∃ C, C = s.extract 116 120 := ⟨_, rfl⟩
    obtain ⟨N, hN⟩ : ∃ N, N = Cd.numS (s.data.toList.drop 120) := ⟨_, rfl⟩
    have hDl : D.data.toList = s.data.toList.take 116 := by rw [hD, bsub_list]; simp
    have hCl : C.data.toList = (s.data.toList.drop 116).take 4 := by rw [hC, bsub_list]
    have hDs : D.size ≤ maxLen := by rw [← baList, hDl]; unfold maxLen; simp; omega
    have e1 : Cd.bytesR s 0 0 116 = (D, 116, 0) := by
      unfold Cd.bytesR; rw [if_neg (by omega), if_neg (by omega), if_neg (by omega), hD]; rfl
    have e2 : Cd.bytesR s 116 0 4 = (C, 120, 0) := by
      unfold Cd.bytesR; rw [if_neg (by omega), if_neg (by omega), if_neg (by omega), hC]; rfl
    have e3 : Cd.numR s 120 0 8 = (N, 128, 0) := by
      unfold Cd.numR; rw [if_neg (by omega), if_neg (by omega), if_neg (by omega), hN, List.take_of_length_le (by rw [List.length_drop, hl, a]; decide)]; rfl
    have kn := Cd.new_any s w
    have r0 : Cd.Rdr (w.alloc (.cells #[.string s, .int .i64 0, .int .i64 0] 121)) w.heap.size s 0 0 := block_new _ _
    have k1 := Cd.bytes_any (w.alloc (.cells #[.string s, .int .i64 0, .int .i64 0] 121)) w.heap.size s 0 0 116 r0 (by omega) hs
    rw [e1] at k1
    have k2 : Hid (∀ W, Cd.Rdr W w.heap.size s 116 0 → Calls Try.prog 47 #[.pointer (some ⟨w.heap.size, 0, none⟩), .int .i64 4] W (Cd.Reads W w.heap.size s (.string C) 120 0)) := fun W r => by
      have := Cd.bytes_any W w.heap.size s 116 0 4 r (by omega) hs
      rwa [e2] at this
    have k3 : Hid (∀ W, Cd.Rdr W w.heap.size s 120 0 → Calls Try.prog 48 #[.pointer (some ⟨w.heap.size, 0, none⟩), .int .i64 8] W (Cd.Reads W w.heap.size s (.int .i64 N) 128 0)) := fun W r => by
      have := Cd.num_any W w.heap.size s 120 0 8 r (by omega) hs
      rwa [e3] at this
    have HB0 : Hid (Below w.heap.size w (w.alloc (.cells #[.string s, .int .i64 0, .int .i64 0] 121))) := (Below.refl _ w).alloc (Nat.le_refl _) _
    have ks : Hid (∀ W, Calls Try.prog 41 #[.string D] W fun e w' => e = .returned (.string (ofL (sumB (s.data.toList.take 116)))) ∧ Below W.heap.size W w') := fun W => by
      have := sumOf_any D W hDs
      rwa [hDl] at this
    have ki : Hid (∀ W, Calls Try.prog 40 #[.int .i64 N] W fun e w' => e = .returned (.bool (decide (stOk N))) ∧ W = w') := fun W => isStamp_any N W
    have HE : Hid (s.data.toList.length = 128 ∧ C.data.toList = (s.data.toList.drop 116).take 4 ∧ N = Cd.numS (s.data.toList.drop 120) ∧ D.data.toList = s.data.toList.take 116) := ⟨by omega, hCl, hN, hDl⟩
    have ht : (C.toList == (ofL (sumB (s.data.toList.take 116))).toList) = decide ((s.data.toList.drop 116).take 4 = sumB (s.data.toList.take 116)) := by
      rw [ByteArray.toList_eq, ByteArray.toList_eq, ofL_list, hCl]
      by_cases q : (s.data.toList.drop 116).take 4 = sumB (s.data.toList.take 116)
      · rw [decide_eq_true q, q]; simp
      · rw [decide_eq_false q]; simp [q]
    obtain ⟨T, hT⟩ : ∃ T, T = ofL (sumB (s.data.toList.take 116)) := ⟨_, rfl⟩
    rw [← hT] at ks ht
    clear hl hD hC hN hDl hCl hDs e1 e2 e3 r0 hT
    have HT := Lib.hid ht
    clear ht
    by_cases q : (s.data.toList.drop 116).take 4 = sumB (s.data.toList.take 116)
    · rw [decide_eq_true q] at HT
      by_cases r : stOk N
      · have E1 : Hid (parE s.data.toList = 0 ∧ parD s.data.toList = s.data.toList.take 116 ∧ parN s.data.toList = N) := by
          have e : parE s.data.toList = 0 := by
            unfold parE; rw [if_neg (by have := HE.out.1; omega), if_pos ⟨q, by rw [← HE.out.2.2.1]; exact r⟩]
          exact ⟨e, by unfold parD; rw [if_pos e], by unfold parN; rw [if_pos e, ← HE.out.2.2.1]⟩
        rw [E1.out.1, E1.out.2.1, E1.out.2.2]
        rw [decide_eq_true r] at ki
        have HD : Hid (ofL (s.data.toList.take 116) = D) := by unfold Hid; rw [← HE.out.2.2.2, ofL_of]
        rw [HD.out]
        have ht := HT.out
        clear q r
        go_enter Try.func12, Try.ntmps12
        go_wp2_with (first
          | (go_at_call 46; refine kn.mono ?_; rintro e w1 ⟨rfl, rfl⟩)
          | (go_at_call 47; (with_reducible refine k1.mono ?_); rintro e w2 ⟨rfl, r2, g2⟩; have R2 := Lib.hid r2; have B2 : Hid (Below w.heap.size w w2) := HB0.out.trans (gr_belowC g2 _ HB0.out.size (Nat.le_refl _)); clear r2 g2)
          | (go_at_call 47; (with_reducible refine (k2.out _ R2.out).mono ?_); rintro e w3 ⟨rfl, r3, g3⟩; have R3 := Lib.hid r3; have B3 : Hid (Below w.heap.size w w3) := B2.out.trans (gr_belowC g3 _ B2.out.size (Nat.le_refl _)); clear r3 g3)
          | (go_at_call 48; refine (k3.out _ R3.out).mono ?_; rintro e w4 ⟨rfl, r4, g4⟩; have B4 : Hid (Below w.heap.size w w4) := B3.out.trans (gr_belowC g4 _ B3.out.size (Nat.le_refl _)); clear r4 g4)
          | (go_at_call 41; refine (ks.out _).mono ?_; rintro e w5 ⟨rfl, b5⟩; have B5 : Hid (Below w.heap.size w w5) := B4.out.trans (b5.mono B4.out.size); clear b5)
          | (go_at_call 40; refine (ki.out _).mono ?_; rintro e w6 ⟨rfl, rfl⟩))
        go_ret3
        exact ⟨rfl, B5.out⟩
      · have E1 : Hid (parE s.data.toList = 153 ∧ parD s.data.toList = [] ∧ parN s.data.toList = 0) := by
          have e : parE s.data.toList = 153 := by
            unfold parE; rw [if_neg (by have := HE.out.1; omega), if_neg (fun z => r (by rw [HE.out.2.2.1]; exact z.2))]
          exact ⟨e, by unfold parD; rw [e]; rfl, by unfold parN; rw [e]; rfl⟩
        rw [E1.out.1, E1.out.2.1, E1.out.2.2]
        rw [decide_eq_false r] at ki
        have ht := HT.out
        clear q r
        go_enter Try.func12, Try.ntmps12
        go_wp2_with (first
          | (go_at_call 46; refine kn.mono ?_; rintro e w1 ⟨rfl, rfl⟩)
          | (go_at_call 47; (with_reducible refine k1.mono ?_); rintro e w2 ⟨rfl, r2, g2⟩; have R2 := Lib.hid r2; have B2 : Hid (Below w.heap.size w w2) := HB0.out.trans (gr_belowC g2 _ HB0.out.size (Nat.le_refl _)); clear r2 g2)
          | (go_at_call 47; (with_reducible refine (k2.out _ R2.out).mono ?_); rintro e w3 ⟨rfl, r3, g3⟩; have R3 := Lib.hid r3; have B3 : Hid (Below w.heap.size w w3) := B2.out.trans (gr_belowC g3 _ B2.out.size (Nat.le_refl _)); clear r3 g3)
          | (go_at_call 48; refine (k3.out _ R3.out).mono ?_; rintro e w4 ⟨rfl, r4, g4⟩; have B4 : Hid (Below w.heap.size w w4) := B3.out.trans (gr_belowC g4 _ B3.out.size (Nat.le_refl _)); clear r4 g4)
          | (go_at_call 41; refine (ks.out _).mono ?_; rintro e w5 ⟨rfl, b5⟩; have B5 : Hid (Below w.heap.size w w5) := B4.out.trans (b5.mono B4.out.size); clear b5)
          | (go_at_call 40; refine (ki.out _).mono ?_; rintro e w6 ⟨rfl, rfl⟩))
        go_ret3
        exact ⟨rfl, B5.out⟩
    · have E1 : Hid (parE s.data.toList = 153 ∧ parD s.data.toList = [] ∧ parN s.data.toList = 0) := by
        have e : parE s.data.toList = 153 := by
          unfold parE; rw [if_neg (by have := HE.out.1; omega), if_neg (fun z => q z.1)]
        exact ⟨e, by unfold parD; rw [e]; rfl, by unfold parN; rw [e]; rfl⟩
      rw [E1.out.1, E1.out.2.1, E1.out.2.2]
      rw [decide_eq_false q] at HT
      have ht := HT.out
      clear q
      go_enter Try.func12, Try.ntmps12
      go_wp2_with (first
        | (go_at_call 46; refine kn.mono ?_; rintro e w1 ⟨rfl, rfl⟩)
        | (go_at_call 47; (with_reducible refine k1.mono ?_); rintro e w2 ⟨rfl, r2, g2⟩; have R2 := Lib.hid r2; have B2 : Hid (Below w.heap.size w w2) := HB0.out.trans (gr_belowC g2 _ HB0.out.size (Nat.le_refl _)); clear r2 g2)
        | (go_at_call 47; (with_reducible refine (k2.out _ R2.out).mono ?_); rintro e w3 ⟨rfl, r3, g3⟩; have R3 := Lib.hid r3; have B3 : Hid (Below w.heap.size w w3) := B2.out.trans (gr_belowC g3 _ B2.out.size (Nat.le_refl _)); clear r3 g3)
        | (go_at_call 48; refine (k3.out _ R3.out).mono ?_; rintro e w4 ⟨rfl, r4, g4⟩; have B4 : Hid (Below w.heap.size w w4) := B3.out.trans (gr_belowC g4 _ B3.out.size (Nat.le_refl _)); clear r4 g4)
        | (go_at_call 41; refine (ks.out _).mono ?_; rintro e w5 ⟨rfl, b5⟩; have B5 : Hid (Below w.heap.size w w5) := B4.out.trans (b5.mono B4.out.size); clear b5)
        | (go_at_call 40; refine (ki.out _).mono ?_; rintro e w6 ⟨rfl, rfl⟩))
      go_ret3
      exact ⟨rfl, B5.out⟩
  · have e1 : parE s.data.toList = 152 := by unfold parE; rw [if_pos (by omega)]
    have e2 : parD s.data.toList = [] := by unfold parD; rw [e1]; rfl
    have e3 : parN s.data.toList = 0 := by unfold parN; rw [e1]; rfl
    rw [e1, e2, e3]
    clear e1 e2 e3 hl
    go_enter Try.func12, Try.ntmps12
    go_wp2
    go_ret3
    exact ⟨rfl, Below.refl _ _⟩
end Go.Proofs.Ytnecbbflcpngcaa
