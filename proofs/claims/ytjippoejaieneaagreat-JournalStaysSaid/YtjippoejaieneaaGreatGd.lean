/- Gd: Blk Byt Cch Del Dev in one text. What each asks of its input stands at its head. -/
import Derived.Test.YtjippoejaieneaaGreatGb
import Derived.Test.YtjippoejaieneaaGreatGa
import Derived.Lib.AppendStr
import Derived.Laws.CopyOwn
import Derived.Deep.LoopGhost
import Derived.Deep.RegionHeld3
import Derived.Shelf.SlicesQ.Load
import Derived.Deep.RegionLaw
import Derived.Lib.SliceRun
import Derived.Lib.SlicesDelete
import Derived.Test.YtjippoejaieneaaGreatGc
import Derived.Maps.AppendAt
import Derived.Laws.ResultCell

/- A block's bytes, and what a sector says: nothing of the program. No conditions. -/
namespace Go.Proofs.YtjippoejaieneaaGreat
set_option linter.unusedVariables false

def padB (d : Bts) : Bts := d ++ List.replicate (116 - d.length) 0
def sumB (d : Bts) : Bts := Cd.putS ((Cd.crc d : Nat) : Int) 4
def blkB (d : Bts) (n : Int) : Bts := padB d ++ sumB (padB d) ++ Cd.putS n 8
def stOk (n : Int) : Prop := 0 ≤ n ∧ n ≤ 4611686018427387904
instance (n : Int) : Decidable (stOk n) := by unfold stOk; infer_instance
def bytE (d : Bts) (n : Int) : Int := if 116 < d.length then 152 else if stOk n then 0 else 1
def bytS (d : Bts) (n : Int) : Bts := if bytE d n = 0 then blkB d n else []
def parE (s : Bts) : Int := if s.length ≠ 128 then 152 else if (s.drop 116).take 4 = sumB (s.take 116) ∧ stOk (Cd.numS (s.drop 120)) then 0 else 153
def parD (s : Bts) : Bts := if parE s = 0 then s.take 116 else []
def parN (s : Bts) : Int := if parE s = 0 then Cd.numS (s.drop 120) else 0
theorem padB_len {d : Bts} (h : d.length ≤ 116) : (padB d).length = 116 := by simp [padB]; omega
theorem sumB_len (d : Bts) : (sumB d).length = 4 := Cd.putS_length _ _
theorem blkB_len {d : Bts} (n : Int) (h : d.length ≤ 116) : (blkB d n).length = 128 := by
  unfold blkB; rw [List.length_append, List.length_append, padB_len h, sumB_len, Cd.putS_length]
theorem bytE_ok {d : Bts} {n : Int} (h : bytE d n = 0) : d.length ≤ 116 ∧ stOk n := by
  unfold bytE at h
  split at h
  · cases h
  · split at h
    · exact ⟨by omega, by assumption⟩
    · cases h
theorem bytE_of {d : Bts} {n : Int} (h : d.length ≤ 116) (k : stOk n) : bytE d n = 0 := by
  unfold bytE; rw [if_neg (by omega), if_pos k]
theorem bytS_of {d : Bts} {n : Int} (h : bytE d n = 0) : bytS d n = blkB d n := by unfold bytS; rw [if_pos h]
theorem blkB_take {d : Bts} (n : Int) (h : d.length ≤ 116) : (blkB d n).take 116 = padB d := by
  unfold blkB
  rw [List.append_assoc, List.take_append_of_le_length (by rw [padB_len h]; omega), List.take_of_length_le (by rw [padB_len h]; omega)]
theorem blkB_mid {d : Bts} (n : Int) (h : d.length ≤ 116) : ((blkB d n).drop 116).take 4 = sumB (padB d) := by
  unfold blkB
  rw [List.append_assoc, List.drop_append, padB_len h, List.drop_of_length_le (by rw [padB_len h]; omega), List.nil_append, Nat.sub_self, List.drop_zero,
    List.take_append_of_le_length (by rw [sumB_len]; omega), List.take_of_length_le (by rw [sumB_len]; omega)]
theorem blkB_end {d : Bts} (n : Int) (h : d.length ≤ 116) : (blkB d n).drop 120 = Cd.putS n 8 := by
  unfold blkB
  rw [List.drop_append, List.drop_of_length_le (by rw [List.length_append, padB_len h, sumB_len]; omega), List.nil_append, List.length_append, padB_len h, sumB_len]
  rfl
theorem num_stOk {n : Int} (h : stOk n) : Cd.numS (Cd.putS n 8) = n := by unfold stOk at h; exact Cd.num_back8 n (by omega) (by omega)
theorem par_blk {d : Bts} {n : Int} (h : d.length ≤ 116) (k : stOk n) : parE (blkB d n) = 0 := by
  unfold parE
  rw [if_neg (by rw [blkB_len n h]; omega), blkB_take n h, blkB_mid n h, blkB_end n h, num_stOk k, if_pos ⟨rfl, k⟩]
theorem parD_blk {d : Bts} {n : Int} (h : d.length ≤ 116) (k : stOk n) : parD (blkB d n) = padB d := by
  unfold parD; rw [if_pos (par_blk h k), blkB_take n h]
theorem parN_blk {d : Bts} {n : Int} (h : d.length ≤ 116) (k : stOk n) : parN (blkB d n) = n := by
  unfold parN; rw [if_pos (par_blk h k), blkB_end n h, num_stOk k]
theorem parE_cases (s : Bts) : parE s = 0 ∨ parE s = 152 ∨ parE s = 153 := by
  unfold parE; split
  · exact .inr (.inl rfl)
  · split
    · exact .inl rfl
    · exact .inr (.inr rfl)
theorem parE_ok {s : Bts} (h : parE s = 0) : s.length = 128 ∧ (s.drop 116).take 4 = sumB (s.take 116) ∧ stOk (Cd.numS (s.drop 120)) := by
  unfold parE at h
  split at h
  · cases h
  · split at h
    · rename_i h1 h2; exact ⟨by omega, h2.1, h2.2⟩
    · cases h
/-- a sum turned is another one -/
theorem sumB_inj {a b : Bts} (h : sumB a = sumB b) : Cd.crc a = Cd.crc b := by
  have h1 := Cd.be_putS ((Cd.crc a : Nat) : Int) 4
  have h2 := Cd.be_putS ((Cd.crc b : Nat) : Int) 4
  unfold sumB at h
  rw [h] at h1
  have h3 := Cd.crc_lt a
  have h4 := Cd.crc_lt b
  rw [h1] at h2
  have e : (256 : Int) ^ 4 = 4294967296 := by decide
  rw [e] at h2
  omega
end Go.Proofs.YtjippoejaieneaaGreat

/- A block's bytes by the code, and what it says of a sector: what each call returns; nothing that was there turns. Conditions: an int is within 64 bits, a string is no longer than a machine holds. -/
namespace Go.Proofs.YtjippoejaieneaaGreat
open Go.RowKit Go.Maps Go.Lib
set_option maxRecDepth 20000
set_option linter.unusedVariables false

set_option maxHeartbeats 400000 in
theorem isStamp_any (n : Int) (w : World) : Calls Tryz.prog 103 #[.int .i64 n] w fun e w' => e = .returned (.bool (decide (stOk n))) ∧ w = w' := by
  by_cases a : 0 ≤ n
  · by_cases b : n ≤ 4611686018427387904
    · rw [show decide (stOk n) = true from decide_eq_true ⟨a, b⟩]
      go_enter Tryz.func103, Tryz.ntmps103
      go_wp2
      go_ret
      exact ⟨rfl, rfl⟩
    · rw [show decide (stOk n) = false from decide_eq_false (fun h => b h.2)]
      go_enter Tryz.func103, Tryz.ntmps103
      go_wp2
      go_ret
      exact ⟨rfl, rfl⟩
  · rw [show decide (stOk n) = false from decide_eq_false (fun h => a h.1)]
    go_enter Tryz.func103, Tryz.ntmps103
    go_wp2
    go_ret
    exact ⟨rfl, rfl⟩
theorem sumOf_any (s : ByteArray) (w : World) (hs : s.size ≤ maxLen) :
    Calls Tryz.prog 151 #[.string s] w fun e w' => e = .returned (.string (ofL (sumB s.data.toList))) ∧ Below w.heap.size w w' := by
  have k1 := Cd.sum32_any s w hs
  have k2 : ∀ W, Calls Tryz.prog 121 #[.int .i64 ((Cd.crc s.data.toList : Nat) : Int), .int .i64 4] W _ := fun W => Cd.put_any ((Cd.crc s.data.toList : Nat) : Int) 4 W (by omega) (by omega)
  have hc := Cd.crc_lt s.data.toList
  have hw : wrap64 ((Cd.crc s.data.toList : Nat) : Int) = ((Cd.crc s.data.toList : Nat) : Int) := by unfold wrap64; omega
  generalize hcc : ((Cd.crc s.data.toList : Nat) : Int) = c at *
  go_enter Tryz.func151, Tryz.ntmps151
  go_wp2_with (go_at_call 159; refine k1.mono ?_; rintro e w' ⟨rfl, rfl⟩)
  go_wp2_with (go_at_call 121; refine (k2 _).mono ?_; rintro e w' ⟨rfl, hb⟩)
  go_ret
  refine ⟨?_, hb⟩
  unfold sumB ofL
  rw [hcc]
  rfl
theorem wpList_append_run2 {ops : Array Oper} {rest : List Oper} {o : Oper} {a : Act} {w : World} {Q : Exit → Act → World → Prop} (hgd : o.guard = none) (s x : Operand) (t u : TypeId)
    (ho : o.op = .call { callee := .builtin .append, args := #[s, x], argTypes := #[t, u] }) (vs vx v' : Value) (w' : World) (hs : a.eval s = vs) (hx : a.eval x = vx)
    (hr : (Builtin.append_ #[t, u] o.type #[vs, vx]).run Tryz.prog w = .ok v' w') (hk : wpList Tryz.prog ops Q rest (a.put o.dst v') w') : wpList Tryz.prog ops Q (o :: rest) a w := by
  refine wpList_plain hgd fun K hK => ?_
  unfold Oper.wp execOp
  simp only [ho, resolve, invoke, builtin, Sem.run_bind, Sem.run_pure, Result.andThen_ok, List.map_toArray, List.map_cons, List.map_nil, hs, hx, hr]
  exact hK _ _ hk
theorem Tryz.info5' : (Tryz.prog.info? 5).map (·.size) = some 1 := by kernel_rfl
/-- an array of bytes -/
def Ar (w : World) (g : Nat) (l : Bts) : Prop := w.heap[g]? = some (.cells (l.map cellB).toArray 181 (0, 0))
theorem Ar.lt {w : World} {g : Nat} {l : Bts} (h : Ar w g l) : g < w.heap.size := block_lt h
theorem Ar.below {w w' : World} {g : Nat} {l : Bts} (h : Ar w g l) (hb : Below w.heap.size w w') : Ar w' g l := (hb.block g h.lt).trans h
theorem strCells_cellB (s : ByteArray) : Lib.strCells s = s.data.toList.map cellB := rfl
theorem Ar.copy {w : World} {g : Nat} {l : Bts} (h : Ar w g l) (s : ByteArray) (ty : TypeId) (hs : s.size ≤ l.length) :
    ∃ W, (Builtin.copy_ #[77, 9] ty #[.slice (some ⟨g, 0, none⟩) l.length l.length, .string s]).run Tryz.prog w = .ok (goInt s.size) W ∧ Ar W g (s.data.toList ++ l.drop s.size) ∧ W = w.setRow g ((s.data.toList ++ l.drop s.size).map cellB).toArray := by
  have := Lib.run_copy_row_string (P := Tryz.prog) w 77 9 ty 5 g 0 l.length l.length s _ 181 Tryz.underlying77 Tryz.info5' h hs (by simp; omega)
  have e : (((l.map cellB).toArray.toList.take 0 ++ Lib.byteCells s.data.toList ++ (l.map cellB).toArray.toList.drop (0 + s.size)).toArray : Array Value) = ((s.data.toList ++ l.drop s.size).map cellB).toArray := by
    rw [List.toList_toArray, List.take_zero, List.nil_append, Nat.zero_add, List.map_append, List.map_drop]
    rfl
  rw [e] at this
  exact ⟨_, this, setRow_heap _ _ _ _ _ _ h, rfl⟩
theorem Ar.append {w : World} {g : Nat} {l : Bts} (h : Ar w g l) (n cap : Nat) (s : ByteArray) (ty : TypeId) (hn : n + s.size ≤ cap) (hc : n + s.size ≤ l.length) :
    ∃ W, (Builtin.append_ #[77, 9] ty #[.slice (some ⟨g, 0, none⟩) n cap, .string s]).run Tryz.prog w = .ok (.slice (some ⟨g, 0, none⟩) (n + s.size) cap) W ∧ Ar W g (l.take n ++ s.data.toList ++ l.drop (n + s.size)) ∧ W = w.setRow g ((l.take n ++ s.data.toList ++ l.drop (n + s.size)).map cellB).toArray := by
  obtain ⟨i, hi, hs1⟩ : ∃ i, Tryz.prog.info? 5 = some i ∧ i.size = 1 := by
    have := Tryz.info5'
    cases hq : Tryz.prog.info? 5 with
    | none => simp [hq] at this
    | some i => exact ⟨i, rfl, by simpa [hq] using this⟩
  have hf := Lib.run_firstCells_string (P := Tryz.prog) w 1 s
  have hst := run_storeCells_at Tryz.prog g n 181 (Lib.strCells s) 0 _ w h (by simp [Lib.strCells_length]; omega) (Lib.strCells_oneCell s)
  simp only [Nat.add_zero, Lib.strCells_length] at hst
  have e : (((l.map cellB).toArray.toList.take n ++ Lib.strCells s ++ (l.map cellB).toArray.toList.drop (n + s.size)).toArray : Array Value) = ((l.take n ++ s.data.toList ++ l.drop (n + s.size)).map cellB).toArray := by
    rw [List.toList_toArray, List.map_append, List.map_append, List.map_drop, List.map_take]
    rfl
  rw [e] at hst
  refine ⟨_, ?_, setRow_heap _ _ _ _ _ _ h, rfl⟩
  simp [Builtin.append_, run_underlying Tryz.underlying77, run_underlying Tryz.underlying9, sizeOf, typeInfo, hi, hs1, Builtin.lenOf, hn, hf, Addr.add_lit, hst]
theorem Ar.string {w W : World} {g : Nat} {l : Bts} (h : Ar w g l) (n c : Nat) (hn : n ≤ l.length) (hw : W.heap = w.heap) :
    (convert 77 9 (.slice (some ⟨g, 0, none⟩) n c)).run Tryz.prog W = .ok (.string (ofL (l.take n))) W := by
  have e : (l.take n).length = n := by simp; omega
  have := run_convert_bytes_back (P := Tryz.prog) W 77 9 5 ⟨g, 0, none⟩ c (l.take n) Tryz.underlying77 Tryz.underlying5 Tryz.underlying9 (fun j hj => by
    rw [e] at hj
    have hh : W.heap[g]? = some (.cells (l.map cellB).toArray 181 (0, 0)) := by rw [hw]; exact h
    rw [addr_at, Nat.zero_add, cell_of_row W g j _ _ _ hh]
    have hj' : j < l.length := by omega
    simp [cellB, List.getElem?_eq_getElem hj'])
  rw [e] at this
  exact this
theorem zero181 : Tryz.zeroCells181 = ((List.replicate 128 (0 : UInt8)).map cellB).toArray := by kernel_rfl
theorem Ar.made (w : World) : Ar (w.alloc (.cells Tryz.zeroCells181 181)) w.heap.size (List.replicate 128 0) := by
  unfold Ar; rw [zero181]; exact block_new _ _
set_option maxHeartbeats 1000000 in
theorem bytes_any (d : ByteArray) (n : Int) (w : World) (hs : d.size ≤ 281474976710656) :
    Calls Tryz.prog 137 #[.string d, .int .i64 n] w fun e w' => e = .returned (.tuple #[.string (ofL (bytS d.data.toList n)), .int .i64 (bytE d.data.toList n)]) ∧ Below w.heap.size w w' := by
  have hl : d.data.toList.length = d.size := baList d
  by_cases a : 116 < d.size
  · have e1 : bytE d.data.toList n = 152 := by unfold bytE; rw [if_pos (by omega)]
    have e2 : bytS d.data.toList n = [] := by unfold bytS; rw [e1]; rfl
    rw [e1, e2]
    clear hl
    go_enter Tryz.func137, Tryz.ntmps137
    go_wp2
    go_ret2
    exact ⟨rfl, Below.refl _ _⟩
  · by_cases b : stOk n
    · have e1 : bytE d.data.toList n = 0 := bytE_of (by omega) b
      have e2 := bytS_of e1
      rw [e1, e2]
      have k := isStamp_any n w
      rw [show decide (stOk n) = true from decide_eq_true b] at k
      clear hl e1 e2 b
      have hA := Ar.made w
      obtain ⟨W1, hcp, hA1, hW1⟩ := hA.copy d 3 (by simp; omega)
      rw [List.length_replicate] at hcp
      have hb1 : Below w.heap.size w W1 := by rw [hW1]; exact below_setRow ((Below.refl _ w).alloc (Nat.le_refl _) _) (Nat.le_refl _) _
      obtain ⟨P, hP⟩ : ∃ P, P = padB d.data.toList := ⟨_, rfl⟩
      have hPl : P.length = 116 := by rw [hP]; exact padB_len (by rw [baList]; omega)
      have eA : d.data.toList ++ (List.replicate 128 (0 : UInt8)).drop d.size = P ++ List.replicate 12 0 := by
        rw [hP]; unfold padB
        rw [List.append_assoc, List.replicate_append_replicate, List.drop_replicate, baList]
        congr 2; omega
      rw [eA] at hA1
      have hcv := hA1.string (W := W1) 116 128 (by simp; omega) rfl
      rw [List.take_append_of_le_length (by omega), List.take_of_length_le (by omega)] at hcv
      have ks := sumOf_any (ofL P) W1 (by rw [ofL_size]; unfold maxLen; omega)
      rw [ofL_list] at ks
      have HP := Lib.hid hP
      have HA1 := Lib.hid hA1
      have HB1 := Lib.hid hb1
      have HPl := Lib.hid hPl
      clear hP hA1 hb1 hA hW1 eA hPl
      go_enter Tryz.func137, Tryz.ntmps137
      go_wp2_with (go_at_call 103; refine k.mono ?_; rintro e w' ⟨rfl, rfl⟩)
      have k3 : Hid (∀ W, Calls Tryz.prog 121 #[.int .i64 n, .int .i64 8] W fun e w' => e = .returned (.string (ofL (Cd.putS n 8))) ∧ Below W.heap.size W w') := fun W => Cd.put_any n 8 W (by omega) (by omega)
      have s4 : (ofL (sumB P)).size = 4 := by rw [ofL_size, sumB_len]
      have s8 : (ofL (Cd.putS n 8)).size = 8 := by rw [ofL_size, Cd.putS_length]
      have HS := Lib.hid (And.intro s4 s8)
      clear s4 s8
      have HF1 : Hid (∀ w2, Below W1.heap.size W1 w2 → ∃ W3, (Builtin.append_ #[77, 9] 77 #[.slice (some ⟨w.heap.size, 0, none⟩) 116 128, .string (ofL (sumB P))]).run Tryz.prog w2 = .ok (.slice (some ⟨w.heap.size, 0, none⟩) 120 128) W3 ∧ Ar W3 w.heap.size (P ++ sumB P ++ List.replicate 8 0) ∧ Below w.heap.size w W3) := by
        intro w2 hb2
        obtain ⟨W3, h1, h2, h3⟩ := (HA1.out.below hb2).append 116 128 (ofL (sumB P)) 77 (by rw [HS.out.1]; omega) (by rw [HS.out.1]; simp [HPl.out])
        rw [HS.out.1] at h1 h2
        refine ⟨W3, h1, ?_, ?_⟩
        · rw [List.take_append_of_le_length (by rw [HPl.out]; omega), List.take_of_length_le (by rw [HPl.out]; omega), List.drop_append, HPl.out, List.drop_of_length_le (by rw [HPl.out]; omega), List.nil_append, List.drop_replicate, ofL_list] at h2
          exact h2
        · rw [h3]; exact below_setRow (HB1.out.trans (hb2.mono HB1.out.size)) (Nat.le_refl _) _
      have HF2 : Hid (∀ W3 w4, Ar W3 w.heap.size (P ++ sumB P ++ List.replicate 8 0) → Below w.heap.size w W3 → Below W3.heap.size W3 w4 → ∃ W5, (Builtin.append_ #[77, 9] 77 #[.slice (some ⟨w.heap.size, 0, none⟩) 120 128, .string (ofL (Cd.putS n 8))]).run Tryz.prog w4 = .ok (.slice (some ⟨w.heap.size, 0, none⟩) 128 128) W5 ∧ (convert 77 9 (.slice (some ⟨w.heap.size, 0, none⟩) 128 128)).run Tryz.prog W5 = .ok (.string (ofL (blkB d.data.toList n))) W5 ∧ Below w.heap.size w W5) := by
        intro W3 w4 hA hb hb4
        have hl : (P ++ sumB P).length = 120 := by rw [List.length_append, HPl.out, sumB_len]
        obtain ⟨W5, h1, h2, h3⟩ := (hA.below hb4).append 120 128 (ofL (Cd.putS n 8)) 77 (by rw [HS.out.2]; omega) (by rw [HS.out.2, List.length_append, hl]; simp)
        rw [HS.out.2] at h1 h2
        rw [List.take_append_of_le_length (by rw [hl]; omega), List.take_of_length_le (by rw [hl]; omega), List.drop_of_length_le (by rw [List.length_append, hl]; simp), List.append_nil, ofL_list, HP.out] at h2
        have h4 := h2.string (W := W5) 128 128 (by have := blkB_len (d := d.data.toList) n (by rw [baList]; omega); unfold blkB at this; omega) rfl
        refine ⟨W5, h1, ?_, ?_⟩
        · rw [List.take_of_length_le (by have := blkB_len (d := d.data.toList) n (by rw [baList]; omega); unfold blkB at this; omega)] at h4
          exact h4
        · rw [h3]; exact below_setRow (hb.trans (hb4.mono hb.size)) (Nat.le_refl _) _
      go_wp2_with (first
        | (go_at_call 151; refine ks.mono ?_; rintro e w2 ⟨rfl, hb2⟩; obtain ⟨W3, hr3, hw3⟩ := HF1.out w2 hb2; have HR3 := Lib.hid hr3; have HW3 := Lib.hid hw3; clear hr3 hw3 hb2)
        | (go_at_call 121; refine (k3.out _).mono ?_; rintro e w4 ⟨rfl, hb4⟩; obtain ⟨W5, hr5, hcv5, hb5⟩ := HF2.out _ w4 HW3.out.1 HW3.out.2 hb4; have HR5 := Lib.hid hr5; have HB5 := Lib.hid hb5; clear hr5 hb4 hb5)
        | (at_builtin; refine wpList_append_run2 rfl (.tmp 18) (.tmp 21) 77 9 rfl _ _ _ _ rfl rfl HR3.out ?_)
        | (at_builtin; refine wpList_append_run2 rfl (.tmp 23) (.tmp 25) 77 9 rfl _ _ _ _ rfl rfl HR5.out ?_))
      go_ret2
      exact ⟨rfl, HB5.out⟩
    · have e1 : bytE d.data.toList n = 1 := by unfold bytE; rw [if_neg (by omega), if_neg b]
      have e2 : bytS d.data.toList n = [] := by unfold bytS; rw [e1]; rfl
      rw [e1, e2]
      have k := isStamp_any n w
      rw [show decide (stOk n) = false from decide_eq_false b] at k
      clear hl e1 e2 b
      go_enter Tryz.func137, Tryz.ntmps137
      go_wp2_with (go_at_call 103; refine k.mono ?_; rintro e w' ⟨rfl, rfl⟩)
      go_ret2
      exact ⟨rfl, Below.refl _ _⟩
theorem gr_belowC {w w' : World} {b : Nat} (h : w.grownBy w' (some b)) (B : Nat) (hB : B ≤ w.heap.size) (hb : B ≤ b) : Below B w w' :=
  ⟨h.os, h.tape, h.output, h.size, fun k hk => h.block k (by omega) (fun e => by injection e with e; omega)⟩
theorem bsub_list (s : ByteArray) (a b : Nat) : (s.extract a b).data.toList = (s.data.toList.drop a).take (b - a) := by
  simp [ByteArray.data_extract]
set_option maxHeartbeats 1000000 in
theorem parse_any (s : ByteArray) (w : World) (hs : s.size ≤ 281474976710656) :
    Calls Tryz.prog 135 #[.string s] w fun e w' => e = .returned (.tuple #[.string (ofL (parD s.data.toList)), .int .i64 (parN s.data.toList), .int .i64 (parE s.data.toList)]) ∧ Below w.heap.size w w' := by
  have hl : s.data.toList.length = s.size := baList s
  by_cases a : s.size = 128
  · obtain ⟨D, hD⟩ : ∃ D, D = s.extract 0 116 := ⟨_, rfl⟩
    obtain ⟨C, hC⟩ : ∃ C, C = s.extract 116 120 := ⟨_, rfl⟩
    obtain ⟨N, hN⟩ : ∃ N, N = Cd.numS (s.data.toList.drop 120) := ⟨_, rfl⟩
    have hDl : D.data.toList = s.data.toList.take 116 := by rw [hD, bsub_list]; simp
    have hCl : C.data.toList = (s.data.toList.drop 116).take 4 := by rw [hC, bsub_list]
    have hDs : D.size ≤ maxLen := by rw [← baList, hDl]; unfold maxLen; simp; omega
    have e1 : Cd.bytesR s 0 0 116 = (D, 116, 0) := by
      unfold Cd.bytesR; rw [if_neg (by omega), if_neg (by omega), if_neg (by omega), hD]; rfl
    have e2 : Cd.bytesR s 116 0 4 = (C, 120, 0) := by
      unfold Cd.bytesR; rw [if_neg (by omega), if_neg (by omega), if_neg (by omega), hC]; rfl
    have e3 : Cd.numR s 120 0 8 = (N, 128, 0) := by
      unfold Cd.numR; rw [if_neg (by omega), if_neg (by omega), if_neg (by omega), hN, List.take_of_length_le (by rw [List.length_drop, hl, a]; decide)]; rfl
    have kn := Cd.new_any s w
    have r0 : Cd.Rdr (w.alloc (.cells #[.string s, .int .i64 0, .int .i64 0] 167)) w.heap.size s 0 0 := block_new _ _
    have k1 := Cd.bytes_any (w.alloc (.cells #[.string s, .int .i64 0, .int .i64 0] 167)) w.heap.size s 0 0 116 r0 (by omega) hs
    rw [e1] at k1
    have k2 : Hid (∀ W, Cd.Rdr W w.heap.size s 116 0 → Calls Tryz.prog 150 #[.pointer (some ⟨w.heap.size, 0, none⟩), .int .i64 4] W (Cd.Reads W w.heap.size s (.string C) 120 0)) := fun W r => by
      have := Cd.bytes_any W w.heap.size s 116 0 4 r (by omega) hs
      rwa [e2] at this
    have k3 : Hid (∀ W, Cd.Rdr W w.heap.size s 120 0 → Calls Tryz.prog 102 #[.pointer (some ⟨w.heap.size, 0, none⟩), .int .i64 8] W (Cd.Reads W w.heap.size s (.int .i64 N) 128 0)) := fun W r => by
      have := Cd.num_any W w.heap.size s 120 0 8 r (by omega) hs
      rwa [e3] at this
    have HB0 : Hid (Below w.heap.size w (w.alloc (.cells #[.string s, .int .i64 0, .int .i64 0] 167))) := (Below.refl _ w).alloc (Nat.le_refl _) _
    have ks : Hid (∀ W, Calls Tryz.prog 151 #[.string D] W fun e w' => e = .returned (.string (ofL (sumB (s.data.toList.take 116)))) ∧ Below W.heap.size W w') := fun W => by
      have := sumOf_any D W hDs
      rwa [hDl] at this
    have ki : Hid (∀ W, Calls Tryz.prog 103 #[.int .i64 N] W fun e w' => e = .returned (.bool (decide (stOk N))) ∧ W = w') := fun W => isStamp_any N W
    have HE : Hid (s.data.toList.length = 128 ∧ C.data.toList = (s.data.toList.drop 116).take 4 ∧ N = Cd.numS (s.data.toList.drop 120) ∧ D.data.toList = s.data.toList.take 116) := ⟨by omega, hCl, hN, hDl⟩
    have ht : (C.toList == (ofL (sumB (s.data.toList.take 116))).toList) = decide ((s.data.toList.drop 116).take 4 = sumB (s.data.toList.take 116)) := by
      rw [ByteArray.toList_eq, ByteArray.toList_eq, ofL_list, hCl]
      by_cases q : (s.data.toList.drop 116).take 4 = sumB (s.data.toList.take 116)
      · rw [decide_eq_true q, q]; simp
      · rw [decide_eq_false q]; simp [q]
    obtain ⟨T, hT⟩ : ∃ T, T = ofL (sumB (s.data.toList.take 116)) := ⟨_, rfl⟩
    rw [← hT] at ks ht
    clear hl hD hC hN hDl hCl hDs e1 e2 e3 r0 hT
    have HT := Lib.hid ht
    clear ht
    by_cases q : (s.data.toList.drop 116).take 4 = sumB (s.data.toList.take 116)
    · rw [decide_eq_true q] at HT
      by_cases r : stOk N
      · have E1 : Hid (parE s.data.toList = 0 ∧ parD s.data.toList = s.data.toList.take 116 ∧ parN s.data.toList = N) := by
          have e : parE s.data.toList = 0 := by
            unfold parE; rw [if_neg (by have := HE.out.1; omega), if_pos ⟨q, by rw [← HE.out.2.2.1]; exact r⟩]
          exact ⟨e, by unfold parD; rw [if_pos e], by unfold parN; rw [if_pos e, ← HE.out.2.2.1]⟩
        rw [E1.out.1, E1.out.2.1, E1.out.2.2]
        rw [decide_eq_true r] at ki
        have HD : Hid (ofL (s.data.toList.take 116) = D) := by unfold Hid; rw [← HE.out.2.2.2, ofL_of]
        rw [HD.out]
        have ht := HT.out
        clear q r
        go_enter Tryz.func135, Tryz.ntmps135
        go_wp2_with (first
          | (go_at_call 101; refine kn.mono ?_; rintro e w1 ⟨rfl, rfl⟩)
          | (go_at_call 150; (with_reducible refine k1.mono ?_); rintro e w2 ⟨rfl, r2, g2⟩; have R2 := Lib.hid r2; have B2 : Hid (Below w.heap.size w w2) := HB0.out.trans (gr_belowC g2 _ HB0.out.size (Nat.le_refl _)); clear r2 g2)
          | (go_at_call 150; (with_reducible refine (k2.out _ R2.out).mono ?_); rintro e w3 ⟨rfl, r3, g3⟩; have R3 := Lib.hid r3; have B3 : Hid (Below w.heap.size w w3) := B2.out.trans (gr_belowC g3 _ B2.out.size (Nat.le_refl _)); clear r3 g3)
          | (go_at_call 102; refine (k3.out _ R3.out).mono ?_; rintro e w4 ⟨rfl, r4, g4⟩; have B4 : Hid (Below w.heap.size w w4) := B3.out.trans (gr_belowC g4 _ B3.out.size (Nat.le_refl _)); clear r4 g4)
          | (go_at_call 151; refine (ks.out _).mono ?_; rintro e w5 ⟨rfl, b5⟩; have B5 : Hid (Below w.heap.size w w5) := B4.out.trans (b5.mono B4.out.size); clear b5)
          | (go_at_call 103; refine (ki.out _).mono ?_; rintro e w6 ⟨rfl, rfl⟩))
        go_ret3
        exact ⟨rfl, B5.out⟩
      · have E1 : Hid (parE s.data.toList = 153 ∧ parD s.data.toList = [] ∧ parN s.data.toList = 0) := by
          have e : parE s.data.toList = 153 := by
            unfold parE; rw [if_neg (by have := HE.out.1; omega), if_neg (fun z => r (by rw [HE.out.2.2.1]; exact z.2))]
          exact ⟨e, by unfold parD; rw [e]; rfl, by unfold parN; rw [e]; rfl⟩
        rw [E1.out.1, E1.out.2.1, E1.out.2.2]
        rw [decide_eq_false r] at ki
        have ht := HT.out
        clear q r
        go_enter Tryz.func135, Tryz.ntmps135
        go_wp2_with (first
          | (go_at_call 101; refine kn.mono ?_; rintro e w1 ⟨rfl, rfl⟩)
          | (go_at_call 150; (with_reducible refine k1.mono ?_); rintro e w2 ⟨rfl, r2, g2⟩; have R2 := Lib.hid r2; have B2 : Hid (Below w.heap.size w w2) := HB0.out.trans (gr_belowC g2 _ HB0.out.size (Nat.le_refl _)); clear r2 g2)
          | (go_at_call 150; (with_reducible refine (k2.out _ R2.out).mono ?_); rintro e w3 ⟨rfl, r3, g3⟩; have R3 := Lib.hid r3; have B3 : Hid (Below w.heap.size w w3) := B2.out.trans (gr_belowC g3 _ B2.out.size (Nat.le_refl _)); clear r3 g3)
          | (go_at_call 102; refine (k3.out _ R3.out).mono ?_; rintro e w4 ⟨rfl, r4, g4⟩; have B4 : Hid (Below w.heap.size w w4) := B3.out.trans (gr_belowC g4 _ B3.out.size (Nat.le_refl _)); clear r4 g4)
          | (go_at_call 151; refine (ks.out _).mono ?_; rintro e w5 ⟨rfl, b5⟩; have B5 : Hid (Below w.heap.size w w5) := B4.out.trans (b5.mono B4.out.size); clear b5)
          | (go_at_call 103; refine (ki.out _).mono ?_; rintro e w6 ⟨rfl, rfl⟩))
        go_ret3
        exact ⟨rfl, B5.out⟩
    · have E1 : Hid (parE s.data.toList = 153 ∧ parD s.data.toList = [] ∧ parN s.data.toList = 0) := by
        have e : parE s.data.toList = 153 := by
          unfold parE; rw [if_neg (by have := HE.out.1; omega), if_neg (fun z => q z.1)]
        exact ⟨e, by unfold parD; rw [e]; rfl, by unfold parN; rw [e]; rfl⟩
      rw [E1.out.1, E1.out.2.1, E1.out.2.2]
      rw [decide_eq_false q] at HT
      have ht := HT.out
      clear q
      go_enter Tryz.func135, Tryz.ntmps135
      go_wp2_with (first
        | (go_at_call 101; refine kn.mono ?_; rintro e w1 ⟨rfl, rfl⟩)
        | (go_at_call 150; (with_reducible refine k1.mono ?_); rintro e w2 ⟨rfl, r2, g2⟩; have R2 := Lib.hid r2; have B2 : Hid (Below w.heap.size w w2) := HB0.out.trans (gr_belowC g2 _ HB0.out.size (Nat.le_refl _)); clear r2 g2)
        | (go_at_call 150; (with_reducible refine (k2.out _ R2.out).mono ?_); rintro e w3 ⟨rfl, r3, g3⟩; have R3 := Lib.hid r3; have B3 : Hid (Below w.heap.size w w3) := B2.out.trans (gr_belowC g3 _ B2.out.size (Nat.le_refl _)); clear r3 g3)
        | (go_at_call 102; refine (k3.out _ R3.out).mono ?_; rintro e w4 ⟨rfl, r4, g4⟩; have B4 : Hid (Below w.heap.size w w4) := B3.out.trans (gr_belowC g4 _ B3.out.size (Nat.le_refl _)); clear r4 g4)
        | (go_at_call 151; refine (ks.out _).mono ?_; rintro e w5 ⟨rfl, b5⟩; have B5 : Hid (Below w.heap.size w w5) := B4.out.trans (b5.mono B4.out.size); clear b5)
        | (go_at_call 103; refine (ki.out _).mono ?_; rintro e w6 ⟨rfl, rfl⟩))
      go_ret3
      exact ⟨rfl, B5.out⟩
  · have e1 : parE s.data.toList = 152 := by unfold parE; rw [if_pos (by omega)]
    have e2 : parD s.data.toList = [] := by unfold parD; rw [e1]; rfl
    have e3 : parN s.data.toList = 0 := by unfold parN; rw [e1]; rfl
    rw [e1, e2, e3]
    clear e1 e2 e3 hl
    go_enter Tryz.func135, Tryz.ntmps135
    go_wp2
    go_ret3
    exact ⟨rfl, Below.refl _ _⟩
end Go.Proofs.YtjippoejaieneaaGreat

/- The cache's row: where a block stands in it. No conditions. -/
namespace Go.Proofs.YtjippoejaieneaaGreat
open Go.RowKit Go.Maps Go.Lib
set_option maxRecDepth 20000
set_option linter.unusedVariables false

structure Bk where
  at' : Nat
  data : Bts
  st : Int
def Bk.cells (b : Bk) : List Value := [.int .i64 (b.at' : Int), .string (ofL b.data), .int .i64 b.st]
def Bk.agg (b : Bk) : Value := .agg #[.int .i64 (b.at' : Int), .string (ofL b.data), .int .i64 b.st]
def rowL (l : List Bk) : List Value := l.flatMap Bk.cells
theorem rowL_cons (b : Bk) (l : List Bk) : rowL (b :: l) = b.cells ++ rowL l := rfl
theorem rowL_append (l m : List Bk) : rowL (l ++ m) = rowL l ++ rowL m := by unfold rowL; rw [List.flatMap_append]
theorem rowL_len (l : List Bk) : (rowL l).length = l.length * 3 := by
  induction l with
  | nil => rfl
  | cons b l ih => rw [rowL_cons, List.length_append, ih]; show 3 + l.length * 3 = (l.length + 1) * 3; omega
theorem rowL_get (l : List Bk) (i j : Nat) (hj : j < 3) (b : Bk) (hi : l[i]? = some b) : (rowL l)[i * 3 + j]? = b.cells[j]? := by
  induction l generalizing i with
  | nil => cases hi
  | cons c l ih =>
    rw [rowL_cons]
    cases i with
    | zero =>
      injection hi with hi
      subst hi
      rw [List.getElem?_append_left (by show 0 * 3 + j < 3; omega)]
      congr 1; omega
    | succ i =>
      rw [List.getElem?_append_right (by show 3 ≤ _; omega)]
      have := ih i hi
      rw [← this]
      congr 1
      show (i + 1) * 3 + j - 3 = _
      omega
theorem rowL_one (l : List Bk) : ∀ u ∈ rowL l, u.oneCell' = true := by
  intro u hu
  unfold rowL at hu
  obtain ⟨b, _, hb⟩ := List.mem_flatMap.1 hu
  unfold Bk.cells at hb
  simp only [List.mem_cons, List.not_mem_nil, or_false] at hb
  rcases hb with rfl | rfl | rfl <;> rfl
/-- the first place at which a block stands; behind them all, if none does -/
def posL (a : Int) : List Bk → Nat
  | [] => 0
  | b :: r => if (b.at' : Int) = a then 0 else posL a r + 1
def posI (a : Int) (l : List Bk) : Int := if posL a l < l.length then (posL a l : Int) else -1
theorem posL_hit (a : Int) : ∀ (l : List Bk) (k : Nat) (b : Bk), l[k]? = some b → (b.at' : Int) = a → (∀ (j : Nat) (c : Bk), j < k → l[j]? = some c → (c.at' : Int) ≠ a) → posL a l = k
  | [], k, b, h, _, _ => by cases h
  | c :: r, 0, b, h, hb, _ => by injection h with h; subst h; unfold posL; rw [if_pos hb]
  | c :: r, k + 1, b, h, hb, hn => by
    unfold posL
    rw [if_neg (hn 0 c (by omega) rfl), posL_hit a r k b h hb (fun j d hj hd => hn (j + 1) d (by omega) hd)]
theorem posL_miss (a : Int) : ∀ (l : List Bk), (∀ (j : Nat) (c : Bk), l[j]? = some c → (c.at' : Int) ≠ a) → posL a l = l.length
  | [], _ => rfl
  | c :: r, hn => by
    unfold posL
    rw [if_neg (hn 0 c rfl), posL_miss a r (fun j d hd => hn (j + 1) d hd)]
    rfl
theorem posI_hit {a : Int} {l : List Bk} {k : Nat} {b : Bk} (h : l[k]? = some b) (hb : (b.at' : Int) = a) (hn : ∀ (j : Nat) (c : Bk), j < k → l[j]? = some c → (c.at' : Int) ≠ a) : posI a l = (k : Int) := by
  have e := posL_hit a l k b h hb hn
  have := (List.getElem?_eq_some_iff.1 h).1
  unfold posI
  rw [e, if_pos this]
theorem posI_miss {a : Int} {l : List Bk} (hn : ∀ (j : Nat) (c : Bk), l[j]? = some c → (c.at' : Int) ≠ a) : posI a l = -1 := by
  unfold posI
  rw [posL_miss a l hn, if_neg (by omega)]
/-- the closure: is the block's place that one? -/
theorem here_any (b : Bk) (a : Int) (bx : Nat) (w : World) (hc : w.cell? ⟨bx, 0, none⟩ = some (.int .i64 a)) :
    Calls Tryz.prog 149 #[b.agg, .pointer (some ⟨bx, 0, none⟩)] w fun e w' => e = .returned (.bool (decide ((b.at' : Int) = a))) ∧ Below w.heap.size w w' := by
  unfold Bk.agg
  have hc2 := Lib.cell?_alloc_some (.cells #[.int .i64 (b.at' : Int), .string (ofL b.data), .int .i64 b.st] 149) hc
  by_cases q : (b.at' : Int) = a
  · rw [decide_eq_true q]
    subst q
    go_enter Tryz.func149, Tryz.ntmps149
    go_wp2
    go_ret
    exact ⟨rfl, (Below.refl _ w).alloc (Nat.le_refl _) _⟩
  · rw [decide_eq_false q]
    generalize (b.at' : Int) = c at *
    have e : (c == a) = false := by simp [q]
    go_enter Tryz.func149, Tryz.ntmps149
    go_wp2
    go_ret
    exact ⟨rfl, (Below.refl _ w).alloc (Nat.le_refl _) _⟩
set_option maxHeartbeats 2000000 in
theorem idx_any (v : Value) (l : List Bk) (a : Int) (bx : Nat) (w : World) (hc : w.cell? ⟨bx, 0, none⟩ = some (.int .i64 a)) (h : w.ownsRow 0 149 3 v l.length (rowL l)) :
    Calls Tryz.prog 148 #[v, .func (.func 149) #[] #[.pointer (some ⟨bx, 0, none⟩)]] w fun e w' => e = .returned (.int .i64 (posI a l)) ∧ Below w.heap.size w w' := by
  obtain ⟨q, cap, rfl, hq⟩ : ∃ q cap, v = .slice q l.length cap ∧ (0 < l.length → ∃ g, q = some ⟨g, 0, none⟩ ∧ ∀ i u, (rowL l)[i]? = some u → w.cell? ⟨g, i, none⟩ = some u) := by
    rcases h.2 with ⟨e1, e2⟩ | ⟨g, c, cur, e1, _⟩
    · exact ⟨none, 0, by rw [e1, e2], fun z => by omega⟩
    · refine ⟨_, c, e1, fun _ => ⟨g, rfl, fun i u hu => ?_⟩⟩
      have := h.cells (g := g) (by rw [e1]; rfl) i u hu
      rwa [addr_at, Nat.zero_add] at this
  have hmax : l.length ≤ 9223372036854775807 := by
    rcases h.2 with ⟨_, e2⟩ | ⟨g, c, cur, _, _, _, h1, h2, _⟩
    · omega
    · unfold maxLen at h2; omega
  clear h
  have hbl := block_lt_of_cell hc
  obtain ⟨n, hn⟩ : ∃ n, n = l.length := ⟨_, rfl⟩
  rw [← hn] at hq hmax ⊢
  have hrow : Hid (∀ (W : World), Below w.heap.size w W → ∀ j b, l[j]? = some b → ∃ g, q = some ⟨g, 0, none⟩ ∧ W.cell? ⟨g, j * 3, none⟩ = some (.int .i64 (b.at' : Int)) ∧ W.cell? ⟨g, j * 3 + 1, none⟩ = some (.string (ofL b.data)) ∧ W.cell? ⟨g, j * 3 + 2, none⟩ = some (.int .i64 b.st)) := fun W hW j b hj => by
    have hlt := (List.getElem?_eq_some_iff.1 hj).1
    obtain ⟨g, hg, hcell⟩ := hq (by omega)
    refine ⟨g, hg, ?_, ?_, ?_⟩
    · have := hcell (j * 3) _ (by rw [← Nat.add_zero (j * 3), rowL_get l j 0 (by omega) b hj]; rfl)
      rw [hW.cell (p := ⟨g, j * 3, none⟩) (block_lt_of_cell this)]; exact this
    · have := hcell (j * 3 + 1) _ (by rw [rowL_get l j 1 (by omega) b hj]; rfl)
      rw [hW.cell (p := ⟨g, j * 3 + 1, none⟩) (block_lt_of_cell this)]; exact this
    · have := hcell (j * 3 + 2) _ (by rw [rowL_get l j 2 (by omega) b hj]; rfl)
      rw [hW.cell (p := ⟨g, j * 3 + 2, none⟩) (block_lt_of_cell this)]; exact this
  have HC : Hid (∀ (W : World), Below w.heap.size w W → W.cell? ⟨bx, 0, none⟩ = some (.int .i64 a)) := fun W hW => by
    rw [hW.cell (p := ⟨bx, 0, none⟩) hbl]; exact hc
  have HN := Lib.hid hn
  clear hq hc hbl hn
  go_enter Tryz.func148, Tryz.ntmps148
  go_wp2
  go_loopg [5, 8] n (fun gg _ s8 wr => ∃ kk : Nat, kk ≤ n ∧ n - kk ≤ gg ∧ s8 = .int .i64 kk ∧ Aside (Below w.heap.size w wr) ∧ Aside (∀ (j : Nat) (c : Bk), j < kk → l[j]? = some c → (c.at' : Int) ≠ a))
  case atStart => exact ⟨0, Nat.zero_le _, by omega, rfl, Below.refl _ w, fun j c hj => absurd hj (Nat.not_lt_zero _)⟩
  case round =>
    obtain ⟨kk, hkk, hg, rfl, BW, A⟩ := hrel
    by_cases hlt : kk < n
    · have hltz : (kk : Int) < (n : Int) := by omega
      obtain ⟨b, hb⟩ : ∃ b, l[kk]? = some b := ⟨_, List.getElem?_eq_getElem (by have := HN.out; omega)⟩
      obtain ⟨g, rfl, c0, c1, c2⟩ := hrow.out wr BW.out kk b hb
      have hcall := here_any b a bx wr (HC.out wr BW.out)
      have HB := Lib.hid hb
      clear hb
      unfold Bk.agg at hcall
      by_cases q : (b.at' : Int) = a
      · rw [decide_eq_true q] at hcall
        have Q := Lib.hid q
        clear q
        go_wp2_with (go_at_call 149; refine hcall.mono ?_; rintro e w' ⟨rfl, hb'⟩)
        go_ret
        refine ⟨?_, BW.out.trans (hb'.mono BW.out.size)⟩
        rw [posI_hit HB.out Q.out A.out]
        rfl
      · rw [decide_eq_false q] at hcall
        have Q := Lib.hid q
        clear q
        go_wp2_with (go_at_call 149; refine hcall.mono ?_; rintro e w' ⟨rfl, hb'⟩)
        go_roundg (n - (kk + 1))
        case measure => omega
        case rel =>
          refine ⟨kk + 1, by omega, by omega, by go_num, BW.out.trans (hb'.mono BW.out.size), (show Aside _ from fun j c hj hc => ?_)⟩
          by_cases e : j = kk
          · subst e
            have := HB.out
            rw [this] at hc
            injection hc with hc
            rw [← hc]; exact Q.out
          · exact A.out j c (by omega) hc
    · have hltz : ¬ (kk : Int) < (n : Int) := by omega
      have hk : kk = n := by omega
      subst hk
      go_wp2
      go_ret
      refine ⟨?_, BW.out⟩
      rw [posI_miss (fun j c hc => A.out j c (by have := (List.getElem?_eq_some_iff.1 hc).1; have := HN.out; omega) hc)]
      rfl
end Go.Proofs.YtjippoejaieneaaGreat

/- A block taken out of the cache's row. No conditions. -/
namespace Go.Proofs.YtjippoejaieneaaGreat
open Go.RowKit Go.Maps Go.Lib
set_option maxRecDepth 20000
set_option linter.unusedVariables false

theorem setCells_heap (b : Nat) (t : TypeId) (fr : Nat × Nat) : ∀ (vs : List Value) (o : Nat) (w : World) (cur : Array Value), w.heap[b]? = some (.cells cur t fr) → o + vs.length ≤ cur.size →
    (w.setCells b o vs).heap[b]? = some (.cells (cur.toList.take o ++ vs ++ cur.toList.drop (o + vs.length)).toArray t fr)
  | [], o, w, cur, h, _ => by
    show w.heap[b]? = _
    rw [List.append_nil, List.length_nil, Nat.add_zero, List.take_append_drop]; exact h
  | v :: r, o, w, cur, h, hl => by
    have hl2 : o + (r.length + 1) ≤ cur.size := hl
    have ih := setCells_heap b t fr r (o + 1) (w.setCell ⟨b, o, none⟩ v) _ (block_setCell (o := o) (u := v) h) (by rw [Array.size_setIfInBounds]; omega)
    show ((w.setCell ⟨b, o, none⟩ v).setCells b (o + 1) r).heap[b]? = _
    rw [ih]
    have e := list_seg_step cur.toList o v r (by rw [Array.length_toList]; omega)
    rw [List.length_cons, ← e, Array.toList_setIfInBounds]
theorem setCells_else (b : Nat) : ∀ (vs : List Value) (o : Nat) (w : World), (w.setCells b o vs).heap.size = w.heap.size ∧ (w.setCells b o vs).os = w.os ∧ (w.setCells b o vs).tape = w.tape ∧ (w.setCells b o vs).output = w.output ∧ ∀ k, k ≠ b → (w.setCells b o vs).heap[k]? = w.heap[k]?
  | [], o, w => ⟨rfl, rfl, rfl, rfl, fun _ _ => rfl⟩
  | v :: r, o, w => by
    obtain ⟨h1, h2, h3, h4, h5⟩ := setCells_else b r (o + 1) (w.setCell ⟨b, o, none⟩ v)
    exact ⟨by show ((w.setCell ⟨b, o, none⟩ v).setCells b (o + 1) r).heap.size = _; rw [h1]; simp [World.setCell], h2, h3, h4, fun k hk => (h5 k hk).trans (block_setCell_other (x := ⟨b, o, none⟩) hk)⟩
/-- block g alone has turned -/
structure On (g : Nat) (w w' : World) : Prop where
  os : w'.os = w.os
  tape : w'.tape = w.tape
  output : w'.output = w.output
  size : w'.heap.size = w.heap.size
  block : ∀ k, k ≠ g → w'.heap[k]? = w.heap[k]?
theorem On.setCells (g : Nat) (vs : List Value) (o : Nat) (w : World) : On g w (w.setCells g o vs) := by
  obtain ⟨h1, h2, h3, h4, h5⟩ := setCells_else g vs o w
  exact ⟨h2, h3, h4, h1, h5⟩
theorem On.trans {g : Nat} {a b c : World} (h : On g a b) (k : On g b c) : On g a c := ⟨k.os.trans h.os, k.tape.trans h.tape, k.output.trans h.output, k.size.trans h.size, fun i hi => (k.block i hi).trans (h.block i hi)⟩
theorem On.drew {g : Nat} {a b : World} (h : On g a.drew b) : On g a b := ⟨h.os, h.tape, h.output, h.size, h.block⟩
def zeroBk : List Value := [.int .i64 0, .string ByteArray.empty, .int .i64 0]
theorem clear_one (w : World) (ty : TypeId) (b o c : Nat) (hc : ∀ j, j < 3 → (w.cell? ⟨b, o + j, none⟩).isSome = true) (hf : ∀ j, j < 3 → w.frozen? ⟨b, o + j, none⟩ = false) :
    (Builtin.clear_ #[115] ty #[.slice (some ⟨b, o, none⟩) 1 c]).run Tryz.prog w = .ok (.tuple #[]) (w.setCells b o zeroBk) := by
  have hst := run_storeCells_cells (P := Tryz.prog) b o zeroBk 0 w (by simpa [zeroBk] using hc) (by simpa [zeroBk] using hf) (by intro v hv; unfold zeroBk at hv; simp only [List.mem_cons, List.not_mem_nil, or_false] at hv; rcases hv with rfl | rfl | rfl <;> rfl)
  simp only [Nat.add_zero] at hst
  have hz : ∀ w, (zeroValue 149).run Tryz.prog w = .ok (.agg #[.int .i64 0, .string ByteArray.empty, .int .i64 0]) w := fun w => by kernel_rfl
  have hzc : (Builtin.zeroCells (Value.agg #[.int .i64 0, .string ByteArray.empty, .int .i64 0]).cells 1).toList = zeroBk := by kernel_rfl
  simp [Builtin.clear_, run_underlying Tryz.underlying115, hz, hzc, hst]
theorem Tryz.info149 : (Tryz.prog.info? 149).map (fun i => (i.zero, i.size, i.bytes)) = some (some (.agg #[.int .i64 0, .string ByteArray.empty, .int .i64 0]), 3, 32) := by kernel_rfl
theorem erase_row (l : List Bk) (k : Nat) : rowL (l.eraseIdx k) = rowL (l.take k) ++ rowL (l.drop (k + 1)) := by
  rw [List.eraseIdx_eq_take_drop_succ, rowL_append]
theorem rowL_take (l : List Bk) (k : Nat) (hk : k ≤ l.length) : rowL (l.take k) = (rowL l).take (k * 3) := by
  have e : rowL l = rowL (l.take k) ++ rowL (l.drop k) := by rw [← rowL_append, List.take_append_drop]
  have el : (rowL (l.take k)).length = k * 3 := by rw [rowL_len, List.length_take]; congr 1; omega
  rw [e, List.take_append_of_le_length (by omega), List.take_of_length_le (l := rowL (l.take k)) (by omega)]
theorem rowL_drop (l : List Bk) (k : Nat) (hk : k ≤ l.length) : rowL (l.drop k) = (rowL l).drop (k * 3) := by
  have e : rowL l = rowL (l.take k) ++ rowL (l.drop k) := by rw [← rowL_append, List.take_append_drop]
  have el : (rowL (l.take k)).length = k * 3 := by rw [rowL_len, List.length_take]; congr 1; omega
  rw [e, List.drop_append, List.drop_of_length_le (l := rowL (l.take k)) (by omega), el, Nat.sub_self]; rfl
set_option maxHeartbeats 4000000 in
theorem del_any (g cap k : Nat) (l : List Bk) (w : World) (hk : k < l.length) (h : w.ownsRow 0 149 3 (.slice (some ⟨g, 0, none⟩) l.length cap) l.length (rowL l)) :
    Calls Tryz.prog 136 #[.slice (some ⟨g, 0, none⟩) l.length cap, .int .i64 (k : Int), .int .i64 ((k : Int) + 1)] w fun e w' => e = .returned (.slice (some ⟨g, 0, none⟩) (l.length - 1) cap) ∧
      w'.ownsRow 0 149 3 (.slice (some ⟨g, 0, none⟩) (l.length - 1) cap) (l.eraseIdx k).length (rowL (l.eraseIdx k)) ∧ On g w w' := by
  rcases h.2 with ⟨e1, _⟩ | ⟨g', c, cur, e1, h1, hg, hn, hcm, hcs, htk⟩
  · cases e1
  · injection e1 with e1 e2 e3
    injection e1 with e1
    injection e1 with e1
    subst e1; subst e3
    obtain ⟨n, hn'⟩ : ∃ n, n = l.length := ⟨_, rfl⟩
    rw [← hn'] at hk hn htk ⊢
    obtain ⟨i0, hi0, hz0, hz1, hz2⟩ := info_parts Tryz.info149
    obtain ⟨news, hnews⟩ : ∃ news, news = rowL (l.drop (k + 1)) := ⟨_, rfl⟩
    have hlen : news.length = (n - (k + 1)) * 3 := by rw [hnews, rowL_len, List.length_drop, hn']
    have hget : ∀ t u, news[t]? = some u → w.cell? ⟨g, (k + 1) * 3 + t, none⟩ = some u := by
      intro t u hu
      have ht := (List.getElem?_eq_some_iff.1 hu).1
      rw [hnews, rowL_drop l (k + 1) (by omega), List.getElem?_drop, ← htk, List.getElem?_take, if_pos (by omega), Array.getElem?_toList] at hu
      rw [cell_of_row _ _ _ _ _ _ hg]; exact hu
    obtain ⟨A, hA, hsrc⟩ : ∃ A : Addr, (if cap = k + 1 then some (⟨g, 0, none⟩ : Addr) else some ⟨g, (k + 1) * 3, none⟩) = some A ∧ Hid (∀ t u, news[t]? = some u → w.drew.cell? (A.add t) = some u) := by
      by_cases q : cap = k + 1
      · refine ⟨⟨g, 0, none⟩, by simp [q], fun t u hu => ?_⟩
        have h0 : news.length = 0 := by rw [hlen]; omega
        rw [List.length_eq_zero_iff.1 h0] at hu
        simp at hu
      · refine ⟨⟨g, (k + 1) * 3, none⟩, by simp [q], fun t u hu => ?_⟩
        rw [addr_at]
        exact hget t u hu
    have s1 := Lib.hid hlen
    have s2 : Hid (∀ u ∈ news, u.oneCell' = true) := by rw [hnews]; exact rowL_one _
    have hsome : ∀ j, j < cap * 3 → (w.cell? ⟨g, j, none⟩).isSome = true := fun j hj => by
      rw [cell_of_row _ _ _ _ _ _ hg, Array.getElem?_eq_getElem (by omega)]; rfl
    have s3 : Hid (∀ t, t < news.length → (w.drew.cell? ⟨g, 0 + k * 3 + t, none⟩).isSome = true ∧ w.drew.frozen? ⟨g, 0 + k * 3 + t, none⟩ = false) := by
      intro t ht
      rw [hlen] at ht
      exact ⟨hsome _ (by omega), block_free hg⟩
    obtain ⟨W1, hW1⟩ : ∃ W1, W1 = w.drew.setCells g (0 + k * 3) news := ⟨_, rfl⟩
    obtain ⟨cur1, hcur1⟩ : ∃ c, c = (cur.toList.take (0 + k * 3) ++ news ++ cur.toList.drop (0 + k * 3 + news.length)).toArray := ⟨_, rfl⟩
    have hb1 : W1.heap[g]? = some (.cells cur1 149 (0, 0)) := by
      rw [hW1, hcur1]; exact setCells_heap g 149 (0, 0) news _ w.drew cur hg (by rw [hlen]; omega)
    have hc1 : cur1.size = cap * 3 := by rw [hcur1]; simp [hlen]; omega
    have hcl := clear_one W1 0 g ((n - 1) * 3) (cap - (n - 1)) (fun j hj => by rw [cell_of_row _ _ _ _ _ _ hb1, Array.getElem?_eq_getElem (by omega)]; rfl) (fun j hj => block_free hb1)
    have hb2 := setCells_heap g 149 (0, 0) zeroBk ((n - 1) * 3) W1 cur1 hb1 (by show _ + 3 ≤ _; omega)
    have hon : On g w (W1.setCells g ((n - 1) * 3) zeroBk) := by
      refine On.trans ?_ (On.setCells g zeroBk _ W1)
      rw [hW1]; exact On.drew (On.setCells g news _ w.drew)
    have hfin : Hid ((W1.setCells g ((n - 1) * 3) zeroBk).ownsRow 0 149 3 (.slice (some ⟨g, 0, none⟩) (n - 1) cap) (l.eraseIdx k).length (rowL (l.eraseIdx k)) ∧ On g w (W1.setCells g ((n - 1) * 3) zeroBk)) := by
      have el : (l.eraseIdx k).length = n - 1 := by rw [List.length_eraseIdx]; rw [if_pos (by omega)]; omega
      refine ⟨⟨by rw [rowL_len], .inr ⟨g, cap, _, by rw [el], Nat.zero_le _, hb2, by rw [el]; omega, hcm, ?_, ?_⟩⟩, hon⟩
      · simp [hc1, zeroBk]; omega
      · rw [el, List.toList_toArray, List.append_assoc, List.take_append_of_le_length (by rw [List.length_take, Array.length_toList]; omega), List.take_take, Nat.min_self, hcur1, List.toList_toArray]
        have e1 : (List.take (0 + k * 3) cur.toList).length = k * 3 := by rw [List.length_take, Array.length_toList]; omega
        rw [List.take_append_of_le_length (by rw [List.length_append, e1, hlen]; omega), List.take_of_length_le (by rw [List.length_append, e1, hlen]; omega), erase_row, ← hnews, rowL_take l k (by omega), ← htk, List.take_take, Nat.zero_add]
        congr 2; omega
    have hW : Hid (W1 = w.drew.setCells g (0 + k * 3) news) := hW1
    obtain ⟨j, hj⟩ : ∃ j, j = k + 1 := ⟨_, rfl⟩
    rw [← hj] at hA s1
    rw [show (k : Int) + 1 = (j : Int) by omega]
    have hic : k ≤ cap := by omega
    have hjc : j ≤ cap := by omega
    have hkj : k < j := by omega
    have hne : ¬ k = j := by omega
    have hjn : j ≤ n := by omega
    obtain ⟨m, hm⟩ : ∃ m, m = k + (n - j) := ⟨_, rfl⟩
    have hm1 : n - 1 = m := by omega
    have hm2 : n - m = 1 := by omega
    rw [hm1] at hcl hfin ⊢
    rw [← hm2] at hcl
    have hmn : m < n := by omega
    have hroom : k + (n - j) ≤ cap := by omega
    have HM := Lib.hid hm
    clear hm hm1 hm2
    have HJ := Lib.hid hj
    clear hW1 hb1 hb2 hon hget hnews hlen hg hcs htk hsome hc1 hcur1 h h1 hn' hj
    have mixed : Tryz.prog.follows Departure.mixedOrders = true := by kernel_rfl
    go_enter Tryz.func136, Tryz.ntmps136
    go_wp2_with fail
    go_region_law_o (refine step_append_room rfl (.tmp 22) (.tmp 25) 115 rfl 149 i0 3 Tryz.underlying115 hi0 hz1 g 0 k cap (by simp [Act.eval, Act.put]) A (n - j) (cap - j) news (by simp [Act.eval, Act.put]) s1.out hsrc.out s2.out hroom s3.out ?_; rw [← hW.out, ← HM.out])
    go_wp2
    go_ret
    exact ⟨rfl, hfin.out⟩
end Go.Proofs.YtjippoejaieneaaGreat

/- What a world holds of an extent; where a block stands in its cache. No conditions. -/
namespace Go.Proofs.YtjippoejaieneaaGreat
open Go.RowKit Go.Maps Go.Lib
set_option maxRecDepth 20000
set_option linter.unusedVariables false

structure Dv where
  first : Nat
  cnt : Nat
  l : List Bk
  most : Nat
  mis : Nat
structure Dv.ok (V : Dv) : Prop where
  cnt : 1 ≤ V.cnt
  hi : V.first + V.cnt ≤ 4096
  most : V.most ≤ 16
  len : V.l.length ≤ V.most
def dvCells (p : Nat) (v : Value) (V : Dv) : Array Value := #[.pointer (some ⟨p, 0, none⟩), .int .i64 (V.first : Int), .int .i64 (V.cnt : Int), v, .int .i64 (V.most : Int), .int .i64 (V.mis : Int)]
/-- an extent V over the disk at p lies at x, its blocks in F -/
def IsV (w : World) (F : Nat → Prop) (x p : Nat) (V : Dv) : Prop :=
  F x ∧ ∃ v, w.heap[x]? = some (.cells (dvCells p v V) 117 (0, 0)) ∧ w.ownsRow 0 149 3 v V.l.length (rowL V.l) ∧ (∀ j, v.ownBlock = some j → F j) ∧ V.l.length ≤ 17
theorem own_tag {w : World} {b e s n : Nat} {v : Value} {xs : List Value} (h : w.ownsRow b e s v n xs) {j : Nat} (hj : v.ownBlock = some j) : ∃ cur, w.heap[j]? = some (.cells cur e (0, 0)) := by
  rcases h.2 with ⟨e1, _⟩ | ⟨g, c, cur, e1, hb, hg, _⟩
  · rw [e1] at hj; cases hj
  · rw [e1] at hj; injection hj with hj; subst hj; exact ⟨cur, hg⟩
theorem own_ne {w : World} {b s n : Nat} {v : Value} {xs : List Value} (h : w.ownsRow b 149 s v n xs) {x : Nat} {C : Array Value} {fr : Nat × Nat} (hx : w.heap[x]? = some (.cells C 117 fr)) {j : Nat} (hj : v.ownBlock = some j) : j ≠ x := by
  obtain ⟨cur, hg⟩ := own_tag h hj
  intro e; subst e; rw [hg] at hx; injection hx with hx; injection hx with _ hx; cases hx
theorem own_keep {w W : World} {b e s n : Nat} {v : Value} {xs : List Value} (h : w.ownsRow b e s v n xs) (hk : ∀ j, v.ownBlock = some j → W.heap[j]? = w.heap[j]?) : W.ownsRow b e s v n xs := by
  refine ⟨h.1, ?_⟩
  rcases h.2 with e1 | ⟨g, c, cur, e1, h1, hg, h2⟩
  · exact .inl e1
  · exact .inr ⟨g, c, cur, e1, h1, (hk g (by rw [e1]; rfl)).trans hg, h2⟩
theorem own_lt {w : World} {b e s n : Nat} {v : Value} {xs : List Value} (h : w.ownsRow b e s v n xs) {j : Nat} (hj : v.ownBlock = some j) : j < w.heap.size := by
  obtain ⟨cur, hg⟩ := own_tag h hj; exact block_lt hg
theorem IsV.lt {w : World} {F : Nat → Prop} {x p : Nat} {V : Dv} (h : IsV w F x p V) : x < w.heap.size := by obtain ⟨_, v, hx, _⟩ := h; exact block_lt hx
theorem IsV.of_heap {w w' : World} {F : Nat → Prop} {x p : Nat} {V : Dv} (h : IsV w F x p V) (e : ∀ k, k < w.heap.size → F k → w'.heap[k]? = w.heap[k]?) : IsV w' F x p V := by
  obtain ⟨h0, v, hx, ho, hF, few⟩ := h
  exact ⟨h0, v, (e x (block_lt hx) h0).trans hx, own_keep ho fun j hj => e j (own_lt ho hj) (hF j hj), hF, few⟩
theorem IsV.below {w w' : World} {F : Nat → Prop} {x p : Nat} {V : Dv} (h : IsV w F x p V) (hb : Below w.heap.size w w') : IsV w' F x p V := h.of_heap fun k hk _ => hb.block k hk
theorem IsV.mono {w : World} {F F' : Nat → Prop} {x p : Nat} {V : Dv} (h : IsV w F x p V) (e : ∀ k, F k → F' k) : IsV w F' x p V := by
  obtain ⟨h0, v, hx, ho, hF, few⟩ := h
  exact ⟨e _ h0, v, hx, ho, (fun j hj => e _ (hF j hj)), few⟩
theorem own_sl {w : World} {b e s n : Nat} {v : Value} {xs : List Value} (h : w.ownsRow b e s v n xs) : ∃ q cap, v = .slice q n cap := by
  rcases h.2 with ⟨e1, e2⟩ | ⟨g, c, cur, e1, _⟩
  · exact ⟨none, 0, by rw [e1, e2]⟩
  · exact ⟨_, _, e1⟩
def ToV (F : Nat → Prop) (w w' : World) (x p : Nat) (V : Dv) : Prop := ∃ F', IsV w' F' x p V ∧ Gr F F' w w' ∧ Ch F w w'
theorem ToV.of_below {F : Nat → Prop} {w w' : World} {x p : Nat} {V : Dv} (h : IsV w F x p V) (hb : Below w.heap.size w w') : ToV F w w' x p V := ⟨F, h.below hb, Gr.refl _ _ _, Ch.of_below hb⟩
theorem ToV.trans {F F1 : Nat → Prop} {w w1 w2 : World} {x p : Nat} {V : Dv} (g : Gr F F1 w w1) (c : Ch F w w1) (h : ToV F1 w1 w2 x p V) : ToV F w w2 x p V := by
  obtain ⟨F2, i, g2, c2⟩ := h
  exact ⟨F2, i, g.trans g2 c.size c2.size, c.trans g c2⟩
theorem IsV.cells {w : World} {F : Nat → Prop} {x p : Nat} {V : Dv} {v : Value} (h : w.heap[x]? = some (.cells (dvCells p v V) 117 (0, 0))) :
    w.cell? ⟨x, 0, none⟩ = some (.pointer (some ⟨p, 0, none⟩)) ∧ w.cell? ⟨x, 1, none⟩ = some (.int .i64 (V.first : Int)) ∧ w.cell? ⟨x, 2, none⟩ = some (.int .i64 (V.cnt : Int)) ∧ w.cell? ⟨x, 3, none⟩ = some v ∧ w.cell? ⟨x, 4, none⟩ = some (.int .i64 (V.most : Int)) ∧ w.cell? ⟨x, 5, none⟩ = some (.int .i64 (V.mis : Int)) ∧ ∀ o, w.frozen? ⟨x, o, none⟩ = false := by
  refine ⟨?_, ?_, ?_, ?_, ?_, ?_, fun o => block_free h⟩ <;> (rw [cell_of_row w x _ _ _ _ h]; rfl)
set_option maxHeartbeats 1000000 in
theorem placeOf_any (F : Nat → Prop) (x p : Nat) (V : Dv) (a : Int) (w : World) (h : IsV w F x p V) :
    Calls Tryz.prog 134 #[.pointer (some ⟨x, 0, none⟩), .int .i64 a] w fun e w' => e = .returned (.int .i64 (posI a V.l)) ∧ Below w.heap.size w w' := by
  have hb1 : Below w.heap.size w (w.alloc (.cells #[.int .i64 a] 3)) := (Below.refl _ w).alloc (Nat.le_refl _) _
  obtain ⟨h0, v, hx, ho, hF, few⟩ := h.below hb1
  obtain ⟨_, _, _, c3, _⟩ := IsV.cells (F := F) hx
  have k := idx_any v V.l a w.heap.size _ (by rw [cell_of_row _ _ _ _ _ _ (block_new w _)]; rfl) ho
  have hmf : ∀ W : World, (Instr.makeFunc (Fn.func 149) #[] #[.pointer (some ⟨w.heap.size, 0, none⟩)]).run Tryz.prog W = .ok (.func (.func 149) #[] #[.pointer (some ⟨w.heap.size, 0, none⟩)]) W := fun W => by kernel_rfl
  have HB1 := Lib.hid hb1
  clear hb1 h h0 hx ho hF
  go_enter Tryz.func134, Tryz.ntmps134
  go_wp2_with (go_at_call 148; refine k.mono ?_; rintro e w' ⟨rfl, hb⟩)
  go_ret
  exact ⟨rfl, HB1.out.trans (hb.mono HB1.out.size)⟩
def zeroAg : Value := .agg #[.int .i64 0, .string ByteArray.empty, .int .i64 0]
theorem posL_some {a : Int} : ∀ {l : List Bk}, posL a l < l.length → ∃ b, l[posL a l]? = some b ∧ (b.at' : Int) = a
  | [], h => absurd h (Nat.not_lt_zero _)
  | c :: r, h => by
    unfold posL at h ⊢
    by_cases q : (c.at' : Int) = a
    · rw [if_pos q]; exact ⟨c, rfl, q⟩
    · rw [if_neg q] at h ⊢
      obtain ⟨b, h1, h2⟩ := posL_some (l := r) (by simp at h; omega)
      exact ⟨b, h1, h2⟩
def fndV (a : Int) (l : List Bk) : Value := match l[posL a l]? with | some b => b.agg | none => zeroAg
def fndB (a : Int) (l : List Bk) : Bool := decide (posL a l < l.length)
theorem results_ct {P : Program} {fn : Func} {p u : Tmp} {ty : TypeId} (h : fn.results = #[.cell p ty, .tmp u]) (tmps : Array Value) (w : World) (g : Nat) (t : TypeId) (cs : Array Value) (fr : Nat × Nat) (d : TypeDesc) (v : Value)
    (hp : tmps.getD p undef = .pointer (some ⟨g, 0, none⟩)) (hv : tmps.getD u undef = v) (hg : w.heap[g]? = some (.cells cs t fr))
    (hu : P.underlying ty = some d) (hd : (match d with | .struct _ | .array _ _ => true | _ => false) = true) (hi : (P.info? ty).map (·.size) = some cs.size) :
    (results fn tmps).run P w = .ok (.tuple #[.agg cs, v]) w := by
  rw [results_cell_tmp h, hp, hv]
  simp [asAddr, run_loadVar_row w g t ty cs fr d hg hu hd hi]
theorem setAg3 {w : World} {g : Nat} {u0 u1 u2 : Value} {t : TypeId} {fr : Nat × Nat} (h : w.heap[g]? = some (.cells #[u0, u1, u2] t fr)) (v0 v1 v2 : Value) :
    (((w.setCell ⟨g, 0, none⟩ v0).setCell ⟨g, 1, none⟩ v1).setCell ⟨g, 2, none⟩ v2).heap[g]? = some (.cells #[v0, v1, v2] t fr) := block_setCell (block_setCell (block_setCell h))
theorem results_68 : Tryz.f111.results = #[.cell 4 149, .tmp 5] := by kernel_rfl
theorem results_69 : Tryz.f112.results = #[.cell 4 149, .tmp 5] := by kernel_rfl
set_option maxHeartbeats 1000000 in
theorem cached_any (F : Nat → Prop) (x p : Nat) (V : Dv) (a : Int) (w : World) (h : IsV w F x p V) :
    Calls Tryz.prog 111 #[.pointer (some ⟨x, 0, none⟩), .int .i64 a] w fun e w' => e = .returned (.tuple #[fndV a V.l, .bool (fndB a V.l)]) ∧ Below w.heap.size w w' := by
  have hb1 : Below w.heap.size w (w.alloc (.cells #[.int .i64 0, .string ⟨#[]⟩, .int .i64 0] 149)) := (Below.refl _ w).alloc (Nat.le_refl _) _
  have i1 := h.below hb1
  have kp := placeOf_any F x p V a _ i1
  have HB1 := Lib.hid hb1
  have HI := Lib.hid i1
  by_cases q : posL a V.l < V.l.length
  · have e1 : posI a V.l = (posL a V.l : Int) := by unfold posI; rw [if_pos q]
    have e2 : fndB a V.l = true := decide_eq_true q
    obtain ⟨b, hb, hat⟩ := posL_some q
    clear hat
    have e3 : fndV a V.l = b.agg := by unfold fndV; rw [hb]
    rw [e1] at kp
    rw [e2, e3]
    have HC : Hid (∀ W, Below (w.alloc (.cells #[.int .i64 0, .string ⟨#[]⟩, .int .i64 0] 149)).heap.size (w.alloc (.cells #[.int .i64 0, .string ⟨#[]⟩, .int .i64 0] 149)) W → ∃ g cap, W.cell? ⟨x, 3, none⟩ = some (.slice (some ⟨g, 0, none⟩) V.l.length cap) ∧ W.cell? ⟨g, posL a V.l * 3, none⟩ = some (.int .i64 (b.at' : Int)) ∧ W.cell? ⟨g, posL a V.l * 3 + 1, none⟩ = some (.string (ofL b.data)) ∧ W.cell? ⟨g, posL a V.l * 3 + 2, none⟩ = some (.int .i64 b.st)) := fun W hW => by
      obtain ⟨h0, v, hx, ho, hF, few⟩ := HI.out.below hW
      obtain ⟨_, _, _, c3, _⟩ := IsV.cells (F := F) hx
      rcases ho.2 with ⟨_, z⟩ | ⟨g, c, cur, e1, _⟩
      · omega
      · have hg := ho.cells (g := g) (by rw [e1]; rfl)
        simp only [addr_at, Nat.zero_add] at hg
        refine ⟨g, c, by rw [c3, e1], ?_, ?_, ?_⟩
        · exact hg _ _ (by rw [← Nat.add_zero (posL a V.l * 3), rowL_get _ _ 0 (by omega) b hb]; rfl)
        · exact hg _ _ (by rw [rowL_get _ _ 1 (by omega) b hb]; rfl)
        · exact hg _ _ (by rw [rowL_get _ _ 2 (by omega) b hb]; rfl)
    have hlen : V.l.length ≤ 17 := by obtain ⟨_, _, _, _, _, few⟩ := h; exact few
    generalize posL a V.l = k at *
    generalize V.l.length = n at *
    clear hb1 i1 h e1 e2 e3 hb
    go_enter Tryz.func111, Tryz.ntmps111
    go_wp2_with (go_at_call 134; refine kp.mono ?_; rintro e w2 ⟨rfl, hb2⟩; obtain ⟨g, cap, c3, d0, d1, d2⟩ := HC.out w2 hb2; have hr := (hb2.block w.heap.size (by simp)).trans (block_new w _); have e0 : w2.cell? ⟨w.heap.size, 0, none⟩ = some (.int .i64 0) := (by rw [cell_of_row _ _ _ _ _ _ hr]; rfl); have e1 : w2.cell? ⟨w.heap.size, 1, none⟩ = some (.string ⟨#[]⟩) := (by rw [cell_of_row _ _ _ _ _ _ hr]; rfl); have e2 : w2.cell? ⟨w.heap.size, 2, none⟩ = some (.int .i64 0) := (by rw [cell_of_row _ _ _ _ _ _ hr]; rfl); have f0 := block_free (o := 0) hr; have f1 := block_free (o := 1) hr; have f2 := block_free (o := 2) hr; have HR := Lib.hid (And.intro hr (HB1.out.trans (hb2.mono HB1.out.size))); clear hr hb2)
    exact bodyPost_ret_by (results_ct results_68 _ _ w.heap.size 149 _ (0, 0) _ _ rfl rfl (setAg3 HR.out.1 _ _ _) Tryz.underlying149 rfl (by kernel_rfl)) rfl ⟨rfl, (((HR.out.2.setCell (p := ⟨w.heap.size, 0, none⟩) (Nat.le_refl _) _).setCell (p := ⟨w.heap.size, 1, none⟩) (Nat.le_refl _) _).setCell (p := ⟨w.heap.size, 2, none⟩) (Nat.le_refl _) _)⟩
  · have e1 : posI a V.l = -1 := by unfold posI; rw [if_neg q]
    have e2 : fndB a V.l = false := decide_eq_false q
    have e3 : fndV a V.l = zeroAg := by unfold fndV; rw [List.getElem?_eq_none (by omega)]
    rw [e1] at kp
    rw [e2, e3]
    clear hb1 i1 h e1 e2 e3 q
    go_enter Tryz.func111, Tryz.ntmps111
    go_wp2_with (go_at_call 134; refine kp.mono ?_; rintro e w2 ⟨rfl, hb2⟩; have hr := (hb2.block w.heap.size (by simp)).trans (block_new w _); have e0 : w2.cell? ⟨w.heap.size, 0, none⟩ = some (.int .i64 0) := (by rw [cell_of_row _ _ _ _ _ _ hr]; rfl); have e1 : w2.cell? ⟨w.heap.size, 1, none⟩ = some (.string ⟨#[]⟩) := (by rw [cell_of_row _ _ _ _ _ _ hr]; rfl); have e2 : w2.cell? ⟨w.heap.size, 2, none⟩ = some (.int .i64 0) := (by rw [cell_of_row _ _ _ _ _ _ hr]; rfl); have f0 := block_free (o := 0) hr; have f1 := block_free (o := 1) hr; have f2 := block_free (o := 2) hr; have HR := Lib.hid (And.intro hr (HB1.out.trans (hb2.mono HB1.out.size))); clear hr hb2)
    exact bodyPost_ret_by (results_ct results_68 _ _ w.heap.size 149 _ (0, 0) _ _ rfl rfl (setAg3 HR.out.1 _ _ _) Tryz.underlying149 rfl (by kernel_rfl)) rfl ⟨rfl, (((HR.out.2.setCell (p := ⟨w.heap.size, 0, none⟩) (Nat.le_refl _) _).setCell (p := ⟨w.heap.size, 1, none⟩) (Nat.le_refl _) _).setCell (p := ⟨w.heap.size, 2, none⟩) (Nat.le_refl _) _)⟩
end Go.Proofs.YtjippoejaieneaaGreat
