/- BlockStamps' walk: of a torn block with the new stamp all is the new one. Conditions: ints are within 64 bits, strings are no longer than a machine holds. -/
import Derived.Test.YtnecbbflcpngcaaFxe
namespace Go.Proofs.Ytnecbbflcpngcaa
open Go.RowKit Go.Maps Go.Lib
set_option maxRecDepth 20000
set_option linter.unusedVariables false

def sZ : St := newS (List.replicate 128 0)
theorem sZ_ok : sZ.ok := St.ok.new (by simp) (by simp) (by simp)
theorem sZ_count : sZ.count = 1 := rfl
def vZ : Dv := newV 0 1 0
theorem vZ_new : nwE sZ 0 1 0 = 0 := by decide +kernel
/-- a disk of one sector, safe, that no power is armed for -/
structure Solo (S : St) : Prop where
  ok : S.ok
  cnt : S.count = 1
  arm : S.armed = 0
  dead : S.dead = false
theorem Solo.fit {S : St} (h : Solo S) {V : Dv} (hV : V.first = 0 ∧ V.cnt = 1) : Fit S V := by
  unfold Fit; rw [h.cnt, hV.1, hV.2]; omega
theorem Solo.refE {S : St} (h : Solo S) {V : Dv} (hV : V.first = 0 ∧ V.cnt = 1) : refE S V 0 = 0 := by
  unfold Go.Proofs.Ytnecbbflcpngcaa.refE; rw [h.dead, if_neg (by simp), if_neg (by rw [hV.2]; omega)]
theorem Solo.change {S : St} (h : Solo S) : S.change = (S, 0) := by unfold St.change; rw [if_pos h.arm]
theorem Solo.write {S : St} (h : Solo S) {V : Dv} (hV : V.first = 0 ∧ V.cnt = 1) (d : Bts) (n : Int) (hb : bytE d n = 0) :
    wrE S V 0 d n = 0 ∧ wrS S V 0 d n = S.put 0 (blkB d n) ∧ Solo (S.put 0 (blkB d n)) := by
  have hl := blkB_len n (bytE_ok hb).1
  have hr := h.refE hV
  have hp : Solo (S.put 0 (blkB d n)) := ⟨h.ok.put (by rw [h.cnt]; omega) hl, h.cnt, h.arm, h.dead⟩
  have hw : S.write ((V.first : Int) + 0) (blkB d n) = (S.put 0 (blkB d n), 0) := by
    unfold St.write
    rw [h.dead, if_neg (by simp), if_neg (by rw [hV.1, h.cnt]; omega), if_neg (by omega)]
    rw [show ((V.first : Int) + 0).toNat = 0 by rw [hV.1]; rfl]
    exact hp.change
  refine ⟨?_, ?_, hp⟩
  · unfold wrE; rw [if_neg (by simpa using hr), if_neg (by simpa using hb), hw]
  · unfold wrS; rw [if_neg (by rintro (z | z); exact z hr; exact z hb), hw]
theorem Solo.write_no {S : St} (h : Solo S) {V : Dv} (hV : V.first = 0 ∧ V.cnt = 1) (d : Bts) (n : Int) (hb : bytE d n ≠ 0) :
    wrE S V 0 d n = bytE d n := by
  unfold wrE; rw [if_neg (by simpa using h.refE hV), if_pos hb]
theorem Solo.flush {S : St} (h : Solo S) : S.flush ((0 : Nat) : Int) ((1 : Nat) : Int) = (S.calm 0 1, 0) ∧ Solo (S.calm 0 1) := by
  have hf := h.ok.flush ((0 : Nat) : Int) ((1 : Nat) : Int)
  have e : S.flush ((0 : Nat) : Int) ((1 : Nat) : Int) = (S.calm 0 1, 0) := by
    unfold St.flush
    rw [h.dead, if_neg (by simp), if_neg (by rw [h.cnt]; omega), h.change]; rfl
  rw [e] at hf
  exact ⟨e, hf.1, hf.2.trans h.cnt, h.arm, h.dead⟩
theorem Solo.sct {S : St} {V : Dv} (hV : V.first = 0 ∧ V.cnt = 1) : sct S V 0 = S.one full 0 := by
  unfold Go.Proofs.Ytnecbbflcpngcaa.sct; rw [hV.1]; rfl
theorem Solo.one_put {S : St} (h : Solo S) (d : Bts) (n : Int) (hb : bytE d n = 0) : (S.put 0 (blkB d n)).one full 0 = blkB d n := by
  rw [Go.Proofs.Ytnecbbflcpngcaa.one_put h.ok (by rw [h.cnt]; omega) (blkB_len n (bytE_ok hb).1), if_pos rfl]
theorem Solo.read {S : St} (h : Solo S) {V : Dv} (hV : V.first = 0 ∧ V.cnt = 1) : rdE S V 0 = parE (S.one full 0) ∧ rdD S V 0 = parD (S.one full 0) ∧ rdN S V 0 = parN (S.one full 0) := by
  have hr := h.refE hV
  have hs := Solo.sct (S := S) hV
  refine ⟨?_, ?_, ?_⟩
  · unfold rdE; rw [if_neg (by simpa using hr), hs]
  · unfold rdD; rw [if_neg (by simpa using hr), hs]
  · unfold rdN; rw [if_neg (by simpa using hr), hs]
theorem Solo.stamp {S : St} (h : Solo S) {V : Dv} (hV : V.first = 0 ∧ V.cnt = 1) : stE S V 0 = (if stOk (Cd.numS ((S.one full 0).drop 120)) then 0 else 153) ∧ stN S V 0 = (if stOk (Cd.numS ((S.one full 0).drop 120)) then Cd.numS ((S.one full 0).drop 120) else 0) := by
  have hr := h.refE hV
  have hs : rawN S V 0 = Cd.numS ((S.one full 0).drop 120) := by unfold rawN; rw [Solo.sct hV]
  refine ⟨?_, ?_⟩
  · unfold stE; rw [if_neg (by simpa using hr), hs]
  · unfold stN; rw [if_neg (by simpa using hr), hs]
/-- what a crash leaves of the sector -/
theorem lose_one {S : St} (ho : S.ok) (hc : S.count = 1) (ch : List Int) : (S.lose ch).revive.one full 0 = S.one (part ch) 0 := by
  have h1 : (S.lose ch).revive.wr 0 = none := rfl
  rw [one_none h1]
  show sec (S.left (part ch)) 0 = _
  unfold St.left
  exact sec_secs (c := S.count) (fun i hi => S.one_len ho (part ch) (part_le ch) i hi) 0 (by omega)
/-- put over the old block, then torn -/
theorem torn_one {S : St} {s : Bts} (hs : s.length = 128) (f : Nat → Nat) : (S.put 0 s).one f 0 = s.take (f 0) ++ (sec S.safe 0).drop (f 0) := by
  rw [one_some (i := 0) (s := s) (show (if (0 : Nat) = 0 then some s else S.wr 0) = some s by rw [if_pos rfl])]; rfl
/-- the numbers at the ends of two blocks: if a torn one has the new stamp, it is whole -/
theorem torn_stamp {a b : Bts} {old new : Int} (ha : a.length = 128) (hb : b.length = 128) (hao : a.drop 120 = Cd.putS old 8) (hbn : b.drop 120 = Cd.putS new 8) (ho : stOk old) (hn : stOk new) (hne : old ≠ new) (k : Nat) (hk : k ≤ 128)
    (h : Cd.numS ((b.take k ++ a.drop k).drop 120) = new) : b.take k ++ a.drop k = b := by
  have hl : ((b.take k ++ a.drop k).drop 120).length = 8 := by simp; omega
  have h8 := Cd.putS_num ((b.take k ++ a.drop k).drop 120) (by omega)
  rw [h, hl] at h8
  -- the ends are equal
  have he : (b.take k ++ a.drop k).drop 120 = b.drop 120 := by rw [hbn, ← h8]
  by_cases q : k ≤ 120
  · exfalso
    have e : (b.take k ++ a.drop k).drop 120 = a.drop 120 := by
      rw [List.drop_append, List.drop_of_length_le (by rw [List.length_take]; omega), List.nil_append, List.length_take, List.drop_drop]
      congr 1; omega
    rw [e, hao, hbn] at he
    have h1 := congrArg Cd.numS he
    rw [num_stOk ho, num_stOk hn] at h1
    exact hne h1
  · have e1 : (b.take k ++ a.drop k).take 120 = b.take 120 := by
      rw [List.take_append_of_le_length (by rw [List.length_take]; omega), List.take_take, Nat.min_eq_left (by omega)]
    rw [← List.take_append_drop 120 (b.take k ++ a.drop k), e1, he, List.take_append_drop]
theorem At.base {w : World} {B B' p : Nat} {S : St} (h : At w B' p S) (hb : B ≤ B') : At w B p S := by
  obtain ⟨F, d, g⟩ := h
  exact ⟨F, d, fun k hk => ⟨Nat.le_trans hb (g k hk).1, (g k hk).2⟩⟩
/-- what the law asks at its end -/
theorem stamps_end {A B : Bts} {old new c : Int} (ha : bytE A old = 0) (hb : bytE B new = 0) (hne : old ≠ new) (V : Dv) (hV : V.first = 0 ∧ V.cnt = 1) :
    let S := ((((sZ.put 0 (blkB A old)).calm 0 1).put 0 (blkB B new)).lose [c]).revive
    Solo S ∧ (stE S V 0 = 0 → stN S V 0 = new → rdE S V 0 = 0 ∧ rdD S V 0 = padB B ∧ rdN S V 0 = new) ∧ (¬ c < 128 → stN S V 0 = new) := by
  intro S
  have s0 : Solo sZ := ⟨sZ_ok, rfl, rfl, rfl⟩
  have s1 := (s0.write (V := vZ) ⟨rfl, rfl⟩ A old ha).2.2
  have s2 := s1.flush.2
  have s3 := (s2.write (V := vZ) ⟨rfl, rfl⟩ B new hb).2.2
  obtain ⟨hal, hast⟩ := bytE_ok ha
  obtain ⟨hbl, hbst⟩ := bytE_ok hb
  have hl := s3.ok.lose [c]
  have s5 : Solo S := ⟨hl.1.revive, hl.2.trans s3.cnt, rfl, rfl⟩
  have hsec : sec ((sZ.put 0 (blkB A old)).calm 0 1).safe 0 = blkB A old := by
    rw [calm_safe s1.ok 0 1 0 (by rw [s1.cnt]; omega), if_pos (by omega)]
    exact s0.one_put A old ha
  obtain ⟨k, hk⟩ : ∃ k, k = part [c] 0 := ⟨_, rfl⟩
  have hkl : k ≤ 128 := by rw [hk]; exact part_le _ _
  have hR : S.one full 0 = (blkB B new).take k ++ (blkB A old).drop k := by
    show (((((sZ.put 0 (blkB A old)).calm 0 1).put 0 (blkB B new)).lose [c]).revive).one full 0 = _
    rw [lose_one s3.ok s3.cnt [c], torn_one (blkB_len new hbl), hsec, ← hk]
  have key : Cd.numS ((S.one full 0).drop 120) = new → S.one full 0 = blkB B new := by
    intro h
    rw [hR] at h ⊢
    exact torn_stamp (blkB_len old hal) (blkB_len new hbl) (blkB_end old hal) (blkB_end new hbl) hast hbst hne k hkl h
  obtain ⟨e1, e2⟩ := s5.stamp hV
  obtain ⟨r1, r2, r3⟩ := s5.read hV
  refine ⟨s5, fun h1 h2 => ?_, fun h => ?_⟩
  · rw [e1] at h1
    rw [e2] at h2
    have hs : stOk (Cd.numS ((S.one full 0).drop 120)) := by
      by_cases q : stOk (Cd.numS ((S.one full 0).drop 120))
      · exact q
      · rw [if_neg q] at h1; cases h1
    rw [if_pos hs] at h2
    have e := key h2
    rw [r1, r2, r3, e]
    exact ⟨par_blk hbl hbst, parD_blk hbl hbst, parN_blk hbl hbst⟩
  · have hk128 : k = 128 := by
      rw [hk]; unfold part
      show (min (max c 0) 128).toNat = 128
      omega
    have e : S.one full 0 = blkB B new := by
      rw [hR, hk128, List.take_of_length_le (by rw [blkB_len new hbl]; omega), List.drop_of_length_le (by rw [blkB_len old hal]; omega), List.append_nil]
    rw [e2, e, blkB_end new hbl, num_stOk hbst, if_pos hbst]
def tornC (a b : ByteArray) (old new c : Int) : Obj := .cells #[.string a, .string b, .int .i64 old, .int .i64 new, .int .i64 c] 66
theorem torn_cells {w : World} {g : Nat} {a b : ByteArray} {old new c : Int} (h : w.heap[g]? = some (tornC a b old new c)) : w.cell? ⟨g, 0, none⟩ = some (.string a) ∧ w.cell? ⟨g, 1, none⟩ = some (.string b) ∧ w.cell? ⟨g, 2, none⟩ = some (.int .i64 old) ∧ w.cell? ⟨g, 3, none⟩ = some (.int .i64 new) ∧ w.cell? ⟨g, 4, none⟩ = some (.int .i64 c) := by
  unfold tornC at h
  refine ⟨?_, ?_, ?_, ?_, ?_⟩ <;> (rw [cell_of_row _ _ _ _ _ _ h]; rfl)
theorem cv_one (w : World) (c : Int) : CV (w.alloc (.cells #[.int .i64 c] 3)) (fun b => b = w.heap.size) (.slice (some ⟨w.heap.size, 0, none⟩) 1 1) [c] :=
  ⟨_, 1, rfl, Nat.le_refl _, fun _ => ⟨w.heap.size, 0, rfl, rfl, by simp, fun j hj => by
    have : j = 0 := by simpa using hj
    subst this
    rw [cell_of_row _ _ _ _ _ _ (block_new w _)]; rfl⟩⟩
set_option maxHeartbeats 8000000 in
theorem stamps_any (a b : ByteArray) (old new c : Int) (w : World) (ha : a.size ≤ 140737488351232) (hb : b.size ≤ 140737488351232) (ho : In64 old) (hn : In64 new) (hc : In64 c) :
    Calls Try.prog 6 #[.agg #[.string a, .string b, .int .i64 old, .int .i64 new, .int .i64 c]] w fun e w' => e = .returned (.bool true) ∧ Below w.heap.size w w' := by
  obtain ⟨W1, hW1⟩ : ∃ W1, W1 = w.alloc (tornC a b old new c) := ⟨_, rfl⟩
  obtain ⟨B, hB⟩ : ∃ B, B = W1.heap.size := ⟨_, rfl⟩
  obtain ⟨X, hX⟩ : ∃ X, X = w.heap.size := ⟨_, rfl⟩
  have hBx : X < B := by rw [hB, hX, hW1]; simp
  have hb1 : Below w.heap.size w W1 := by rw [hW1]; exact (Below.refl _ w).alloc (Nat.le_refl _) _
  have hbx : W1.heap[X]? = some (tornC a b old new c) := by rw [hW1, hX]; exact block_new w _
  have HX : Hid (∀ W, Below B W1 W → W.cell? ⟨X, 0, none⟩ = some (.string a) ∧ W.cell? ⟨X, 1, none⟩ = some (.string b) ∧ W.cell? ⟨X, 2, none⟩ = some (.int .i64 old) ∧ W.cell? ⟨X, 3, none⟩ = some (.int .i64 new) ∧ W.cell? ⟨X, 4, none⟩ = some (.int .i64 c)) := fun W h => torn_cells ((h.block X hBx).trans hbx)
  have HEND : Hid (∀ W, Below B W1 W → Below w.heap.size w W) := fun W h => hb1.trans (h.mono (by rw [hB]; exact hb1.size))
  have kf : Hid (∀ W, Calls Try.prog 14 #[] W fun e w' => e = .returned (.bool true) ∧ Below W.heap.size W w') := fun W => fixed_any W
  obtain ⟨Z, hZ⟩ : ∃ Z, Z = ofL (List.replicate 128 0) := ⟨_, rfl⟩
  have kn : Hid (∀ W, Calls Try.prog 15 #[.int .i64 128] W fun e w' => e = .returned (.string Z) ∧ Below W.heap.size W w') := fun W => by rw [hZ]; exact noughts_any 128 (by omega) W
  have kd : Hid (∀ W, B ≤ W.heap.size → Calls Try.prog 17 #[.string Z] W fun e w' => ∃ p, e = .returned (.tuple #[.pointer (some ⟨p, 0, none⟩), .int .i64 0]) ∧ At w' B p sZ ∧ Below W.heap.size W w') := fun W hWB => by
    have := new_at (ofL (List.replicate 128 0)) W (by rw [ofL_size]; simp) (by unfold Bad; rw [ofL_size]; simp)
    rw [ofL_list] at this
    rw [hZ]
    exact this.mono fun e w' ⟨p, q1, q2, q3⟩ => ⟨p, q1, q2.base hWB, q3⟩
  have kv : Hid (∀ W p S, At W B p S → Solo S → B ≤ W.heap.size → Calls Try.prog 19 #[.pointer (some ⟨p, 0, none⟩), .int .i64 0, .int .i64 1, .int .i64 0] W fun e w' => e = .returned (.tuple #[.pointer (some ⟨W.heap.size, 0, none⟩), .int .i64 0]) ∧ EAt w' B W.heap.size p S vZ ∧ Below W.heap.size W w') := fun W p S h hs hWB =>
    enew_at B p S 0 1 0 W h hWB (by unfold In64; omega) (by unfold In64; omega) (by unfold In64; omega) (by unfold nwE; rw [hs.cnt]; decide)
  have s0 : Solo sZ := ⟨sZ_ok, rfl, rfl, rfl⟩
  have HBB : Hid (B ≤ W1.heap.size) := by unfold Hid; omega
  have HS0 := Lib.hid s0
  have hW1' : w.alloc (.cells #[.string a, .string b, .int .i64 old, .int .i64 new, .int .i64 c] 66) = W1 := hW1.symm
  have HW1 := Lib.hid hW1'
  have HXE := Lib.hid hX
  by_cases q : old = new
  · subst q
    clear hW1 hb1 hbx hZ s0 hW1' hB hBx ha hb hn hc ho
    go_enter Try.func6, Try.ntmps6
    go_wp2_with fail
    rw [HW1.out, ← HXE.out]
    clear hX
    go_wp2_with (first
      | (go_at_call 15; refine (kn.out _).mono ?_; rintro e w2 ⟨rfl, hb2⟩; have HB2 : Hid (Below B W1 w2) := hb2.mono HBB.out; have HZ2 : Hid (B ≤ w2.heap.size) := Nat.le_trans HBB.out hb2.size; clear hb2)
      | (go_at_call 17; (refine (kd.out _ HZ2.out).mono ?_); rintro e w3 ⟨p, rfl, hat, hb3⟩; have HA3 := Lib.hid hat; have HB3 : Hid (Below B W1 w3) := HB2.out.trans (hb3.mono HZ2.out); have HZ3 : Hid (B ≤ w3.heap.size) := Nat.le_trans HZ2.out hb3.size; clear hat hb3)
      | (go_at_call 19; (with_reducible refine (kv.out _ _ _ HA3.out HS0.out HZ3.out).mono ?_); rintro e w4 ⟨rfl, he, hb4⟩; have HE4 := Lib.hid he; have HB4 : Hid (Below B W1 w4) := HB3.out.trans (hb4.mono HZ3.out); obtain ⟨x0, x1, x2, x3, x4⟩ := HX.out w4 HB4.out; clear he hb4)
      | (go_at_call 14; refine (kf.out _).mono ?_; rintro e w5 ⟨rfl, hb5⟩))
    go_ret
    exact ⟨rfl, HEND.out _ (HB4.out.trans (hb5.mono (Nat.le_trans HBB.out HB4.out.size)))⟩
  · have hbne : (old == new) = false := by simp [q]
    by_cases r : bytE a.data.toList old = 0
    · obtain ⟨S1, hS1⟩ : ∃ S, S = sZ.put 0 (blkB a.data.toList old) := ⟨_, rfl⟩
      obtain ⟨V1, hV1⟩ : ∃ V, V = wrV sZ vZ 0 a.data.toList old := ⟨_, rfl⟩
      obtain ⟨g1, g2, g3⟩ := s0.write (V := vZ) ⟨rfl, rfl⟩ a.data.toList old r
      obtain ⟨f1, f2, _, f4⟩ := wrV_cnt sZ vZ 0 a.data.toList old
      rw [← hS1] at g2 g3
      rw [← hV1] at f1 f2 f4
      have kw : Hid (∀ W x p, EAt W B x p sZ vZ → Calls Try.prog 32 #[.pointer (some ⟨x, 0, none⟩), .int .i64 0, .string a, .int .i64 old] W fun e w' => e = .returned (.int .i64 0) ∧ EAt w' B x p S1 V1 ∧ Below B W w') := fun W x p h => by
        have := ewrite_at B x p sZ vZ 0 a old W h (by omega)
        rw [g1, g2, ← hV1] at this
        exact this
      obtain ⟨S2, hS2⟩ : ∃ S, S = S1.calm 0 1 := ⟨_, rfl⟩
      obtain ⟨g4, g5⟩ := g3.flush
      rw [← hS2] at g4 g5
      have kba : Hid (∀ W x p, EAt W B x p S1 V1 → Calls Try.prog 33 #[.pointer (some ⟨x, 0, none⟩)] W fun e w' => e = .returned (.int .i64 0) ∧ EAt w' B x p S2 V1 ∧ Below B W w') := fun W x p h => by
        have := ebarrier_at B x p S1 V1 W h
        rw [f1, f2, show (vZ.first : Int) = ((0 : Nat) : Int) from rfl, show (vZ.cnt : Int) = ((1 : Nat) : Int) from rfl, g4] at this
        exact this
      have hVV1 : V1.first = 0 ∧ V1.cnt = 1 := ⟨f1, f2⟩
      by_cases t : bytE b.data.toList new = 0
      · obtain ⟨S3, hS3⟩ : ∃ S, S = S2.put 0 (blkB b.data.toList new) := ⟨_, rfl⟩
        obtain ⟨V2, hV2⟩ : ∃ V, V = wrV S2 V1 0 b.data.toList new := ⟨_, rfl⟩
        obtain ⟨h1, h2, h3⟩ := g5.write (V := V1) hVV1 b.data.toList new t
        obtain ⟨j1, j2, _, j4⟩ := wrV_cnt S2 V1 0 b.data.toList new
        have hone := g5.one_put b.data.toList new t
        rw [← hS3] at h2 h3 hone
        rw [← hV2] at j1 j2 j4
        have hVV2 : V2.first = 0 ∧ V2.cnt = 1 := ⟨j1.trans f1, j2.trans f2⟩
        have kw2 : Hid (∀ W x p, EAt W B x p S2 V1 → Calls Try.prog 32 #[.pointer (some ⟨x, 0, none⟩), .int .i64 0, .string b, .int .i64 new] W fun e w' => e = .returned (.int .i64 0) ∧ EAt w' B x p S3 V2 ∧ Below B W w') := fun W x p h => by
          have := ewrite_at B x p S2 V1 0 b new W h (by omega)
          rw [h1, h2, ← hV2] at this
          exact this
        obtain ⟨tl, ts⟩ := bytE_ok t
        obtain ⟨V3, hV3⟩ : ∃ V, V = rdV S3 V2 0 := ⟨_, rfl⟩
        obtain ⟨P, hP⟩ : ∃ P, P = ofL (padB b.data.toList) := ⟨_, rfl⟩
        have kr : Hid (∀ W x p, EAt W B x p S3 V2 → Calls Try.prog 34 #[.pointer (some ⟨x, 0, none⟩), .int .i64 0] W fun e w' => e = .returned (.tuple #[.string P, .int .i64 new, .int .i64 0]) ∧ EAt w' B x p S3 V3 ∧ Below B W w') := fun W x p h => by
          have := eread_at B x p S3 V2 0 W h (by rw [j4, f4]; decide)
          obtain ⟨r1, r2, r3⟩ := h3.read hVV2
          rw [hone, par_blk tl ts] at r1
          rw [hone, parD_blk tl ts] at r2
          rw [hone, parN_blk tl ts] at r3
          rw [r1, r2, r3, ← hP, ← hV3] at this
          exact this
        obtain ⟨S4, hS4⟩ : ∃ S, S = S3.lose [c] := ⟨_, rfl⟩
        have kcr : Hid (∀ W x p V, EAt W B x p S3 V → Calls Try.prog 35 #[.pointer (some ⟨p, 0, none⟩), .slice (some ⟨W.heap.size, 0, none⟩) 1 1] (W.alloc (.cells #[.int .i64 c] 3)) fun e w' => e = .returned (.int .i64 0) ∧ At w' B p S4 ∧ Below B W w') := fun W x p V h => by
          have hb' : Below W.heap.size W (W.alloc (.cells #[.int .i64 c] 3)) := (Below.refl _ W).alloc (Nat.le_refl _) _
          have := crash_at B p S3 _ (h.below hb').disk (Nat.le_trans h.base hb'.size) _ _ [c] (cv_one W c)
          unfold St.crash at this
          rw [h3.dead, if_neg (by simp), ← hS4] at this
          exact this.mono fun e w' z => ⟨z.1, z.2.1, (hb'.mono h.base).trans z.2.2⟩
        obtain ⟨S5, hS5⟩ : ∃ S, S = S4.revive := ⟨_, rfl⟩
        have krv : Hid (∀ W p, At W B p S4 → B ≤ W.heap.size → Calls Try.prog 36 #[.pointer (some ⟨p, 0, none⟩)] W fun e w' => e = .returned (.tuple #[]) ∧ At w' B p S5 ∧ Below B W w') := fun W p h hWB => by
          have := revive_at B p S4 W h hWB
          rw [← hS5] at this; exact this
        have hSE : ((((sZ.put 0 (blkB a.data.toList old)).calm 0 1).put 0 (blkB b.data.toList new)).lose [c]).revive = S5 := by rw [hS5, hS4, hS3, hS2, hS1]
        have hend := stamps_end (A := a.data.toList) (B := b.data.toList) (old := old) (new := new) (c := c) r t q vZ ⟨rfl, rfl⟩
        simp only [hSE] at hend
        obtain ⟨s5, he1, he2⟩ := hend
        obtain ⟨M, hM⟩ : ∃ M, M = stN S5 vZ 0 := ⟨_, rfl⟩
        obtain ⟨E, hE⟩ : ∃ E, E = stE S5 vZ 0 := ⟨_, rfl⟩
        obtain ⟨U, hU⟩ : ∃ U, U = ofL (rdD S5 vZ 0) := ⟨_, rfl⟩
        obtain ⟨K, hK⟩ : ∃ K, K = rdN S5 vZ 0 := ⟨_, rfl⟩
        obtain ⟨F, hF⟩ : ∃ F, F = rdE S5 vZ 0 := ⟨_, rfl⟩
        have kst : Hid (∀ W x p, EAt W B x p S5 vZ → Calls Try.prog 37 #[.pointer (some ⟨x, 0, none⟩), .int .i64 0] W fun e w' => e = .returned (.tuple #[.int .i64 M, .int .i64 E]) ∧ EAt w' B x p S5 vZ ∧ Below B W w') := fun W x p h => by
          have := estamp_at B x p S5 vZ 0 W h
          rw [← hM, ← hE] at this
          exact this.mono fun e w' z => ⟨z.1, z.2.1, z.2.2.mono h.base⟩
        have krd : Hid (∀ W x p, EAt W B x p S5 vZ → Calls Try.prog 34 #[.pointer (some ⟨x, 0, none⟩), .int .i64 0] W fun e w' => e = .returned (.tuple #[.string U, .int .i64 K, .int .i64 F]) ∧ Below B W w') := fun W x p h => by
          have := eread_at B x p S5 vZ 0 W h (by decide)
          rw [← hU, ← hK, ← hF] at this
          exact this.mono fun e w' z => ⟨z.1, z.2.2⟩
        have hx1 : E = 0 → M = new → F = 0 ∧ U = P ∧ K = new := fun z1 z2 => by
          obtain ⟨y1, y2, y3⟩ := he1 (by rw [← hE]; exact z1) (by rw [← hM]; exact z2)
          exact ⟨by rw [hF]; exact y1, by rw [hU, hP, y2], by rw [hK]; exact y3⟩
        have hx2 : ¬ c < 128 → M = new := fun z => by rw [hM]; exact he2 z
        have HS5 := Lib.hid s5
        clear hW1 hb1 hbx hZ s0 hW1' hB hBx ha hb hn hc ho hE q g1 g2 g3 g4 g5 f1 f2 f4 hVV1 hS1 hV1 hS2 r t tl ts hS3 hV2 h1 h2 h3 j1 j2 j4 hone hVV2 hV3 hP hS4 hS5 hSE s5 he1 he2 hM hU hK hF
        go_enter Try.func6, Try.ntmps6
        go_wp2_with fail
        rw [HW1.out, ← HXE.out]
        clear hX
        go_wp2_with (first
          | (go_at_call 15; refine (kn.out _).mono ?_; rintro e w2 ⟨rfl, hb2⟩; have HB2 : Hid (Below B W1 w2) := hb2.mono HBB.out; have HZ2 : Hid (B ≤ w2.heap.size) := Nat.le_trans HBB.out hb2.size; clear hb2)
          | (go_at_call 17; (refine (kd.out _ HZ2.out).mono ?_); rintro e w3 ⟨p, rfl, hat, hb3⟩; have HA3 := Lib.hid hat; have HB3 : Hid (Below B W1 w3) := HB2.out.trans (hb3.mono HZ2.out); have HZ3 : Hid (B ≤ w3.heap.size) := Nat.le_trans HZ2.out hb3.size; clear hat hb3)
          | (go_at_call 19; (with_reducible refine (kv.out _ _ _ HAb.out HS5.out HZb.out).mono ?_); rintro e vc ⟨rfl, he, hbv⟩; have HEc := Lib.hid he; have HBc : Hid (Below B W1 vc) := HBb.out.trans (hbv.mono HZb.out); clear he hbv)
          | (go_at_call 19; (with_reducible refine (kv.out _ _ _ HA3.out HS0.out HZ3.out).mono ?_); rintro e w4 ⟨rfl, he, hb4⟩; have HE4 := Lib.hid he; have HB4 : Hid (Below B W1 w4) := HB3.out.trans (hb4.mono HZ3.out); obtain ⟨x0, x1, x2, x3, x4⟩ := HX.out w4 HB4.out; clear he hb4)
          | (go_at_call 32; (with_reducible refine (kw.out _ _ _ HE4.out).mono ?_); rintro e v6 ⟨rfl, he, hbv⟩; have HE6 := Lib.hid he; have HB6 : Hid (Below B W1 v6) := HB4.out.trans hbv; obtain ⟨x0, x1, x2, x3, x4⟩ := HX.out _ HB6.out; clear he hbv)
          | (go_at_call 33; (with_reducible refine (kba.out _ _ _ HE6.out).mono ?_); rintro e v7 ⟨rfl, he, hbv⟩; have HE7 := Lib.hid he; have HB7 : Hid (Below B W1 v7) := HB6.out.trans hbv; obtain ⟨x0, x1, x2, x3, x4⟩ := HX.out _ HB7.out; clear he hbv)
          | (go_at_call 32; (with_reducible refine (kw2.out _ _ _ HE7.out).mono ?_); rintro e v8 ⟨rfl, he, hbv⟩; have HE8 := Lib.hid he; have HB8 : Hid (Below B W1 v8) := HB7.out.trans hbv; obtain ⟨x0, x1, x2, x3, x4⟩ := HX.out _ HB8.out; clear he hbv)
          | (go_at_call 34; (with_reducible refine (krd.out _ _ _ HEd.out).mono ?_); rintro e ve ⟨rfl, hbv⟩; have HBe : Hid (Below B W1 ve) := HBd.out.trans hbv; obtain ⟨x0, x1, x2, x3, x4⟩ := HX.out _ HBe.out; clear hbv)
          | (go_at_call 34; (with_reducible refine (kr.out _ _ _ HE8.out).mono ?_); rintro e v9 ⟨rfl, he, hbv⟩; have HE9 := Lib.hid he; have HB9 : Hid (Below B W1 v9) := HB8.out.trans hbv; obtain ⟨x0, x1, x2, x3, x4⟩ := HX.out _ HB9.out; clear he hbv)
          | (go_at_call 35; (with_reducible refine (kcr.out _ _ _ _ HE9.out).mono ?_); rintro e va ⟨rfl, he, hbv⟩; have HAa := Lib.hid he; have HBa : Hid (Below B W1 va) := HB9.out.trans hbv; have HZa : Hid (B ≤ va.heap.size) := Nat.le_trans HBB.out HBa.out.size; clear he hbv)
          | (go_at_call 36; (with_reducible refine (krv.out _ _ HAa.out HZa.out).mono ?_); rintro e vb ⟨rfl, he, hbv⟩; have HAb := Lib.hid he; have HBb : Hid (Below B W1 vb) := HBa.out.trans hbv; have HZb : Hid (B ≤ vb.heap.size) := Nat.le_trans HBB.out HBb.out.size; clear he hbv)
          | (go_at_call 37; (with_reducible refine (kst.out _ _ _ HEc.out).mono ?_); rintro e vd ⟨rfl, he, hbv⟩; have HEd := Lib.hid he; have HBd : Hid (Below B W1 vd) := HBc.out.trans hbv; clear he hbv)
          | (go_at_call 14; refine (kf.out _).mono ?_; rintro e w5 ⟨rfl, hb5⟩))
        all_goals
          (go_ret; exact ⟨rfl, HEND.out _ (HBe.out.trans (hb5.mono (Nat.le_trans HBB.out HBe.out.size)))⟩)
      · have kw2 : Hid (∀ W x p, EAt W B x p S2 V1 → Calls Try.prog 32 #[.pointer (some ⟨x, 0, none⟩), .int .i64 0, .string b, .int .i64 new] W fun e w' => e = .returned (.int .i64 (bytE b.data.toList new)) ∧ Below B W w') := fun W x p h => by
          have := ewrite_at B x p S2 V1 0 b new W h (by omega)
          rw [g5.write_no hVV1 _ _ t] at this
          exact this.mono fun e w' z => ⟨z.1, z.2.2⟩
        obtain ⟨E, hE⟩ : ∃ E, E = bytE b.data.toList new := ⟨_, rfl⟩
        rw [← hE] at kw2 t
        have hne : (E != 0) = true := by simp [t]
        clear hW1 hb1 hbx hZ s0 hW1' hB hBx ha hb hn hc ho hE q g1 g2 g3 g4 g5 f1 f2 f4 hVV1 hS1 hV1 hS2 r
        go_enter Try.func6, Try.ntmps6
        go_wp2_with fail
        rw [HW1.out, ← HXE.out]
        clear hX
        go_wp2_with (first
          | (go_at_call 15; refine (kn.out _).mono ?_; rintro e w2 ⟨rfl, hb2⟩; have HB2 : Hid (Below B W1 w2) := hb2.mono HBB.out; have HZ2 : Hid (B ≤ w2.heap.size) := Nat.le_trans HBB.out hb2.size; clear hb2)
          | (go_at_call 17; (refine (kd.out _ HZ2.out).mono ?_); rintro e w3 ⟨p, rfl, hat, hb3⟩; have HA3 := Lib.hid hat; have HB3 : Hid (Below B W1 w3) := HB2.out.trans (hb3.mono HZ2.out); have HZ3 : Hid (B ≤ w3.heap.size) := Nat.le_trans HZ2.out hb3.size; clear hat hb3)
          | (go_at_call 19; (with_reducible refine (kv.out _ _ _ HA3.out HS0.out HZ3.out).mono ?_); rintro e w4 ⟨rfl, he, hb4⟩; have HE4 := Lib.hid he; have HB4 : Hid (Below B W1 w4) := HB3.out.trans (hb4.mono HZ3.out); obtain ⟨x0, x1, x2, x3, x4⟩ := HX.out w4 HB4.out; clear he hb4)
          | (go_at_call 32; (with_reducible refine (kw.out _ _ _ HE4.out).mono ?_); rintro e v6 ⟨rfl, he, hbv⟩; have HE6 := Lib.hid he; have HB6 : Hid (Below B W1 v6) := HB4.out.trans hbv; obtain ⟨x0, x1, x2, x3, x4⟩ := HX.out _ HB6.out; clear he hbv)
          | (go_at_call 33; (with_reducible refine (kba.out _ _ _ HE6.out).mono ?_); rintro e v7 ⟨rfl, he, hbv⟩; have HE7 := Lib.hid he; have HB7 : Hid (Below B W1 v7) := HB6.out.trans hbv; obtain ⟨x0, x1, x2, x3, x4⟩ := HX.out _ HB7.out; clear he hbv)
          | (go_at_call 32; (with_reducible refine (kw2.out _ _ _ HE7.out).mono ?_); rintro e v4 ⟨rfl, hbv⟩; have HBv : Hid (Below B W1 v4) := HB7.out.trans hbv; clear hbv)
          | (go_at_call 14; refine (kf.out _).mono ?_; rintro e w5 ⟨rfl, hb5⟩))
        go_ret
        exact ⟨rfl, HEND.out _ (HBv.out.trans (hb5.mono (Nat.le_trans HBB.out HBv.out.size)))⟩
    · have kw : Hid (∀ W x p, EAt W B x p sZ vZ → Calls Try.prog 32 #[.pointer (some ⟨x, 0, none⟩), .int .i64 0, .string a, .int .i64 old] W fun e w' => e = .returned (.int .i64 (bytE a.data.toList old)) ∧ Below B W w') := fun W x p h => by
        have := ewrite_at B x p sZ vZ 0 a old W h (by omega)
        rw [s0.write_no ⟨rfl, rfl⟩ _ _ r] at this
        exact this.mono fun e w' z => ⟨z.1, z.2.2⟩
      obtain ⟨E, hE⟩ : ∃ E, E = bytE a.data.toList old := ⟨_, rfl⟩
      rw [← hE] at kw r
      have hne : (E != 0) = true := by simp [r]
      clear hW1 hb1 hbx hZ s0 hW1' hB hBx ha hb hn hc ho hE q
      go_enter Try.func6, Try.ntmps6
      go_wp2_with fail
      rw [HW1.out, ← HXE.out]
      clear hX
      go_wp2_with (first
        | (go_at_call 15; refine (kn.out _).mono ?_; rintro e w2 ⟨rfl, hb2⟩; have HB2 : Hid (Below B W1 w2) := hb2.mono HBB.out; have HZ2 : Hid (B ≤ w2.heap.size) := Nat.le_trans HBB.out hb2.size; clear hb2)
        | (go_at_call 17; (refine (kd.out _ HZ2.out).mono ?_); rintro e w3 ⟨p, rfl, hat, hb3⟩; have HA3 := Lib.hid hat; have HB3 : Hid (Below B W1 w3) := HB2.out.trans (hb3.mono HZ2.out); have HZ3 : Hid (B ≤ w3.heap.size) := Nat.le_trans HZ2.out hb3.size; clear hat hb3)
        | (go_at_call 19; (with_reducible refine (kv.out _ _ _ HA3.out HS0.out HZ3.out).mono ?_); rintro e w4 ⟨rfl, he, hb4⟩; have HE4 := Lib.hid he; have HB4 : Hid (Below B W1 w4) := HB3.out.trans (hb4.mono HZ3.out); obtain ⟨x0, x1, x2, x3, x4⟩ := HX.out w4 HB4.out; clear he hb4)
        | (go_at_call 32; (with_reducible refine (kw.out _ _ _ HE4.out).mono ?_); rintro e v4 ⟨rfl, hbv⟩; have HBv : Hid (Below B W1 v4) := HB4.out.trans hbv; clear hbv)
        | (go_at_call 14; refine (kf.out _).mono ?_; rintro e w5 ⟨rfl, hb5⟩))
      go_ret
      exact ⟨rfl, HEND.out _ (HBv.out.trans (hb5.mono (Nat.le_trans HBB.out HBv.out.size)))⟩
end Go.Proofs.Ytnecbbflcpngcaa
