/- BlockApart's walk: nothing outside the extent is changed. Conditions: ints are within 64 bits, strings and lists are no longer than a machine holds. -/
import Derived.Test.YtnecbbflcpngcaaFxe
import Derived.Test.YtnecbbflcpngcaaArg
namespace Go.Proofs.Ytnecbbflcpngcaa
open Go.RowKit Go.Maps
set_option maxRecDepth 20000
set_option linter.unusedVariables false

theorem calm_wrS {n : Nat} {S : St} (h : Calm n S) {V : Dv} (hf : Fit S V) (i : Int) (d : Bts) (m : Int) :
    (refE S V i = 0 ∧ bytE d m = 0 ∧ 0 ≤ i ∧ i < (V.cnt : Int) ∧ wrE S V i d m = 0 ∧ wrS S V i d m = S.put (V.first + i.toNat) (blkB d m)) ∨ (wrE S V i d m ≠ 0 ∧ wrS S V i d m = S) := by
  rcases wrS_cases h.ok hf i d m with ⟨h1, hz, hb, _⟩ | h2 | ⟨h1, h2, _⟩
  · obtain ⟨hdd, h0, hi⟩ := refE_ok hz
    refine .inl ⟨hz, hb, h0, hi, h1, ?_⟩
    have hl := blkB_len m (bytE_ok hb).1
    have e2 : wrS S V i d m = (S.write ((V.first : Int) + i) (blkB d m)).1 := by unfold wrS; rw [if_neg (by rintro (z | z); exact z hz; exact z hb)]
    rw [e2, write_ok h.ok hf hdd h0 hi hl]
    have : (S.put (V.first + i.toNat) (blkB d m)).change = (S.put (V.first + i.toNat) (blkB d m), 0) := by unfold St.change; rw [if_pos (show (S.put (V.first + i.toNat) (blkB d m)).armed = 0 from h.armed)]
    rw [this]
  · exact .inr h2
  · exfalso
    have hz : refE S V i = 0 := by
      by_cases q : refE S V i = 0
      · exact q
      · unfold wrS at h2; rw [if_pos (.inl q), h.dead] at h2; cases h2
    have hb : bytE d m = 0 := by
      by_cases q : bytE d m = 0
      · exact q
      · unfold wrS at h2; rw [if_pos (.inr q), h.dead] at h2; cases h2
    obtain ⟨hdd, h0, hi⟩ := refE_ok hz
    have hl := blkB_len m (bytE_ok hb).1
    have e2 : wrS S V i d m = (S.write ((V.first : Int) + i) (blkB d m)).1 := by unfold wrS; rw [if_neg (by rintro (z | z); exact z hz; exact z hb)]
    have hc := h.write ((V.first : Int) + i) (blkB d m)
    rw [e2, hc.dead] at h2
    cases h2
theorem calmWr {n : Nat} {S : St} (h : Calm n S) {V : Dv} (hf : Fit S V) (i : Int) (d : Bts) (m : Int) : Calm n (wrS S V i d m) := by
  unfold wrS
  split
  · exact h
  · exact h.write _ _
theorem calm_flush {n : Nat} {S : St} (h : Calm n S) {V : Dv} (hk : V.ok) (hf : Fit S V) : S.flush (V.first : Int) (V.cnt : Int) = (S.calm V.first (V.first + V.cnt), 0) := by
  have h1 := hk.cnt
  unfold Fit at hf
  unfold St.flush
  rw [h.dead, if_neg (by simp), if_neg (by omega), h.change]
  simp only [if_true, Int.toNat_natCast]
/-- outside the extent all is as it was -/
structure Apt (n : Nat) (R S : St) (f c : Nat) : Prop where
  calm : Calm n S
  cnt : S.count = R.count
  out : ∀ j, j < R.count → (j < f ∨ f + c ≤ j) → S.one full j = R.one full j ∧ sec S.safe j = sec R.safe j
theorem Apt.refl {n : Nat} {S : St} (h : Calm n S) (f c : Nat) : Apt n S S f c := ⟨h, rfl, fun _ _ _ => ⟨rfl, rfl⟩⟩
theorem Apt.write {n : Nat} {R S : St} {V : Dv} (h : Apt n R S V.first V.cnt) (hf : Fit S V) (i : Int) (d : Bts) (m : Int) : Apt n R (wrS S V i d m) V.first V.cnt := by
  have hc := calmWr h.calm hf i d m
  rcases calm_wrS h.calm hf i d m with ⟨hz, hb, h0, hi, _, e⟩ | ⟨_, e⟩
  · have hl := blkB_len m (bytE_ok hb).1
    refine ⟨hc, by rw [e]; exact h.cnt, fun j hj ho => ?_⟩
    obtain ⟨g1, g2⟩ := h.out j hj ho
    rw [e]
    unfold Fit at hf
    refine ⟨?_, g2⟩
    rw [one_put h.calm.ok (by omega) hl, if_neg (by omega)]
    exact g1
  · rw [e]; exact h
theorem Apt.flush {n : Nat} {R S : St} {V : Dv} (h : Apt n R S V.first V.cnt) (hk : V.ok) (hf : Fit S V) : Apt n R (S.flush (V.first : Int) (V.cnt : Int)).1 V.first V.cnt := by
  have hc := h.calm.flush (V.first : Int) (V.cnt : Int)
  rw [calm_flush h.calm hk hf] at hc ⊢
  refine ⟨hc, (S.calm_count h.calm.ok _ _).trans h.cnt, fun j hj ho => ?_⟩
  obtain ⟨g1, g2⟩ := h.out j hj ho
  have hj' : j < S.count := by rw [h.cnt]; exact hj
  refine ⟨(calm_one h.calm.ok _ _ j hj').trans g1, ?_⟩
  show sec (S.calm V.first (V.first + V.cnt)).safe j = _
  rw [calm_safe h.calm.ok _ _ j hj', if_neg (by omega)]
  exact g2
theorem sec_take {l : Bts} {f i : Nat} (hi : i < f) : sec (l.take (128 * f)) i = sec l i := by
  unfold sec
  rw [List.drop_take, List.take_take, Nat.min_eq_left (by omega)]
theorem sec_drop (l : Bts) (f i : Nat) : sec (l.drop (128 * f)) i = sec l (f + i) := by
  unfold sec
  rw [List.drop_drop]
  congr 2; omega
theorem take_same {a b : Bts} {n f : Nat} (ha : a.length = 128 * n) (hb : b.length = 128 * n) (hf : f ≤ n) (h : ∀ i, i < f → sec a i = sec b i) : a.take (128 * f) = b.take (128 * f) :=
  ext_sec (c := f) (by rw [List.length_take]; omega) (by rw [List.length_take]; omega) fun i hi => by rw [sec_take hi, sec_take hi, h i hi]
theorem drop_same {a b : Bts} {n f : Nat} (ha : a.length = 128 * n) (hb : b.length = 128 * n) (hf : f ≤ n) (h : ∀ i, f ≤ i → i < n → sec a i = sec b i) : a.drop (128 * f) = b.drop (128 * f) :=
  ext_sec (c := n - f) (by rw [List.length_drop]; omega) (by rw [List.length_drop]; omega) fun i hi => by rw [sec_drop, sec_drop, h _ (by omega) (by omega)]
theorem image_len {S : St} (h : S.ok) : S.image.length = 128 * S.count := S.left_len h full (fun _ => Nat.le_refl _)
theorem image_sec {S : St} (h : S.ok) (i : Nat) (hi : i < S.count) : sec S.image i = S.one full i := sec_secs (fun j hj => S.one_len h full (fun _ => Nat.le_refl _) j hj) i hi
/-- the four slices of the law are the same -/
theorem Apt.slices {n : Nat} {R S : St} {f c : Nat} (hR : Calm n R) (h : Apt n R S f c) (hfc : f + c ≤ R.count) :
    (ofL S.image).extract 0 (128 * f) = (ofL R.image).extract 0 (128 * f) ∧ (ofL S.image).extract (128 * (f + c)) n = (ofL R.image).extract (128 * (f + c)) n ∧
    (ofL S.safe).extract 0 (128 * f) = (ofL R.safe).extract 0 (128 * f) ∧ (ofL S.safe).extract (128 * (f + c)) n = (ofL R.safe).extract (128 * (f + c)) n := by
  have hn : n = 128 * R.count := by rw [← hR.len]; exact hR.ok.len
  have l1 := image_len h.calm.ok
  have l2 := image_len hR.ok
  have l3 : S.safe.length = 128 * R.count := by rw [h.calm.len, hn]
  have l4 : R.safe.length = 128 * R.count := hR.ok.len
  rw [h.cnt] at l1
  have i1 : ∀ i, i < R.count → sec S.image i = S.one full i := fun i hi => image_sec h.calm.ok i (by rw [h.cnt]; exact hi)
  have i2 : ∀ i, i < R.count → sec R.image i = R.one full i := fun i hi => image_sec hR.ok i hi
  have key : ∀ (a b : Bts), a.length = 128 * R.count → b.length = 128 * R.count → ∀ x y, (a.drop x).take (y - x) = (b.drop x).take (y - x) → (ofL a).extract x y = (ofL b).extract x y := fun a b _ _ x y e => by
    have : ((ofL a).extract x y).data.toList = ((ofL b).extract x y).data.toList := by rw [bsub_list, bsub_list, ofL_list, ofL_list]; exact e
    rw [← ofL_of ((ofL a).extract x y), this, ofL_of]
  refine ⟨key _ _ l1 l2 _ _ ?_, key _ _ l1 l2 _ _ ?_, key _ _ l3 l4 _ _ ?_, key _ _ l3 l4 _ _ ?_⟩
  · rw [List.drop_zero, List.drop_zero, Nat.sub_zero]
    exact take_same l1 l2 (by omega) fun i hi => by rw [i1 i (by omega), i2 i (by omega)]; exact (h.out i (by omega) (.inl hi)).1
  · rw [drop_same l1 l2 hfc fun i hi hi2 => by rw [i1 i hi2, i2 i hi2]; exact (h.out i hi2 (.inr hi)).1]
  · rw [List.drop_zero, List.drop_zero, Nat.sub_zero]
    exact take_same l3 l4 (by omega) fun i hi => (h.out i (by omega) (.inl hi)).2
  · rw [drop_same l3 l4 hfc fun i hi hi2 => (h.out i hi2 (.inr hi)).2]
/-- a call of the script, in whatever world the script's row lies -/
theorem op_at {W1 : World} {v : Value} {l : List Opr} (h : Script W1 v l) : ∃ q cap, v = .slice q l.length cap ∧ l.length ≤ cap ∧ l.length ≤ 2199023255552 ∧ ∀ k, k < l.length → ∃ o b O, o ∈ l ∧ l[k]? = some o ∧ o.ok W1 ∧ q = some ⟨b, O - k * 6, none⟩ ∧ k * 6 ≤ O ∧ b < W1.heap.size ∧
    ∀ W, Below W1.heap.size W1 W → W.cell? ⟨b, O, none⟩ = some (.int .i64 o.on) ∧ W.cell? ⟨b, O + 1, none⟩ = some (.int .i64 o.kind) ∧ W.cell? ⟨b, O + 2, none⟩ = some (.int .i64 o.a) ∧ W.cell? ⟨b, O + 3, none⟩ = some (.int .i64 o.b) ∧ W.cell? ⟨b, O + 4, none⟩ = some (.string o.s) ∧ W.cell? ⟨b, O + 5, none⟩ = some o.cv := by
  obtain ⟨q, cap, h1, h2, h3, h4⟩ := h
  refine ⟨q, cap, h1, h2, h3, fun k hk => ?_⟩
  obtain ⟨g1, b, o, g2, g3, g4⟩ := h4 k hk
  refine ⟨l[k], b, o + k * 6, List.getElem_mem hk, List.getElem?_eq_getElem hk, g1, by rw [g2]; congr 2; omega, by omega, g3, fun W hW => ?_⟩
  exact ⟨cell_below (g4 0 _ rfl) hW, cell_below (g4 1 _ rfl) hW, cell_below (g4 2 _ rfl) hW, cell_below (g4 3 _ rfl) hW, cell_below (g4 4 _ rfl) hW, cell_below (g4 5 _ rfl) hW⟩
theorem At.onto {w : World} {B B' p : Nat} {S : St} (h : At w B' p S) (hb : B ≤ B') : At w B p S := by
  obtain ⟨F, d, g⟩ := h
  exact ⟨F, d, fun k hk => ⟨Nat.le_trans hb (g k hk).1, (g k hk).2⟩⟩
theorem rdV_mis (S : St) (V : Dv) (i : Int) : (rdV S V i).mis ≤ V.mis + 1 := by
  have h : misOf V i ≤ V.mis + 1 := by unfold misOf; split <;> omega
  unfold rdV
  split
  · omega
  · split
    · exact h
    · exact h
theorem apt_nums (f c k : Nat) (h : f + c ≤ k) (hk : k ≤ 4096) : ∃ a1 a2 : Nat, a1 = 128 * f ∧ a2 = 128 * (f + c) ∧ IntKind.i64.wrap ((f : Int) + (c : Int)) = (f : Int) + (c : Int) ∧ IntKind.i64.wrap (128 * (f : Int)) = (a1 : Int) ∧ IntKind.i64.wrap (128 * ((f : Int) + (c : Int))) = (a2 : Int) ∧ (a1 : Int) ≤ 128 * (k : Int) ∧ (a2 : Int) ≤ 128 * (k : Int) := by
  refine ⟨128 * f, 128 * (f + c), rfl, rfl, ?_, ?_, ?_, ?_, ?_⟩
  · rw [IntKind.wrap_i64]; omega
  · rw [IntKind.wrap_i64]; omega
  · rw [IntKind.wrap_i64]; omega
  · omega
  · omega
theorem apart_fin {n k f c a1 a2 : Nat} {S T : St} (hS : Calm n S) (hn : n = 128 * k) (h : Apt (128 * k) S T f c) (hk : S.count = k) (hfc : f + c ≤ k) (h1 : a1 = 128 * f) (h2 : a2 = 128 * (f + c)) :
    (ofL T.image).size = 128 * k ∧ (ofL T.safe).size = 128 * k ∧ (ofL T.image).extract 0 a1 = (ofL S.image).extract 0 a1 ∧ (ofL T.image).extract a2 (128 * k) = (ofL S.image).extract a2 (128 * k) ∧ (ofL T.safe).extract 0 a1 = (ofL S.safe).extract 0 a1 ∧ (ofL T.safe).extract a2 (128 * k) = (ofL S.safe).extract a2 (128 * k) := by
  subst h1 h2
  have hS' : Calm (128 * k) S := by rw [← hn]; exact hS
  obtain ⟨g1, g2, g3, g4⟩ := h.slices hS' (by rw [hk]; exact hfc)
  exact ⟨by rw [ofL_size, image_len h.calm.ok, h.cnt, hk], by rw [ofL_size, h.calm.len], g1, g2, g3, g4⟩
def extC (f c m : Int) : Obj := .cells #[.int .i64 f, .int .i64 c, .int .i64 m] 34
theorem ext_cells {w : World} {g : Nat} {f c m : Int} (h : w.heap[g]? = some (extC f c m)) : w.cell? ⟨g, 0, none⟩ = some (.int .i64 f) ∧ w.cell? ⟨g, 1, none⟩ = some (.int .i64 c) ∧ w.cell? ⟨g, 2, none⟩ = some (.int .i64 m) := by
  unfold extC at h
  refine ⟨?_, ?_, ?_⟩ <;> (rw [cell_of_row _ _ _ _ _ _ h]; rfl)
theorem bar_calm {n : Nat} {S : St} (h : Calm n S) {V : Dv} (hk : V.ok) (hf : Fit S V) : (S.flush (V.first : Int) (V.cnt : Int)).2 = 0 := by rw [calm_flush h hk hf]
set_option maxHeartbeats 16000000 in
theorem apart_any (s : ByteArray) (f c m : Int) (v : Value) (l : List Opr) (w : World) (hs : s.size ≤ 140737488355328) (hf : In64 f) (hc : In64 c) (hm : In64 m) (hsc : Script w v l) :
    Calls Try.prog 7 #[.string s, .agg #[.int .i64 f, .int .i64 c, .int .i64 m], v] w fun e w' => e = .returned (.bool true) ∧ Below w.heap.size w w' := by
  obtain ⟨W1, hW1⟩ : ∃ W1, W1 = w.alloc (extC f c m) := ⟨_, rfl⟩
  obtain ⟨B, hB⟩ : ∃ B, B = W1.heap.size := ⟨_, rfl⟩
  obtain ⟨X, hX⟩ : ∃ X, X = w.heap.size := ⟨_, rfl⟩
  have hBx : X < B := by rw [hB, hX, hW1]; simp
  have hb1 : Below w.heap.size w W1 := by rw [hW1]; exact (Below.refl _ w).alloc (Nat.le_refl _) _
  have hbx : W1.heap[X]? = some (extC f c m) := by rw [hW1, hX]; exact block_new w _
  have HX : Hid (∀ W, Below B W1 W → W.cell? ⟨X, 0, none⟩ = some (.int .i64 f) ∧ W.cell? ⟨X, 1, none⟩ = some (.int .i64 c) ∧ W.cell? ⟨X, 2, none⟩ = some (.int .i64 m)) := fun W h => ext_cells ((h.block X hBx).trans hbx)
  have HEND : Hid (∀ W, Below B W1 W → Below w.heap.size w W) := fun W h => hb1.trans (h.mono (by rw [hB]; exact hb1.size))
  have kf : Hid (∀ W, Calls Try.prog 14 #[] W fun e w' => e = .returned (.bool true) ∧ Below W.heap.size W w') := fun W => fixed_any W
  have HBB : Hid (B ≤ W1.heap.size) := by unfold Hid; omega
  have hW1' : w.alloc (.cells #[.int .i64 f, .int .i64 c, .int .i64 m] 34) = W1 := hW1.symm
  have HW1 := Lib.hid hW1'
  have HXE := Lib.hid hX
  obtain ⟨q0, cap, hv, hlc, hll, hops⟩ := op_at (hsc.below hb1)
  rw [← hB] at hops
  have HOP := Lib.hid hops
  obtain ⟨L, hL⟩ : ∃ L, L = l.length := ⟨_, rfl⟩
  rw [← hL] at hv hlc hll HOP
  subst hv
  by_cases hbad : Bad s
  · have kd : Hid (∀ W, Calls Try.prog 17 #[.string s] W fun e w' => e = .returned (.tuple #[.pointer none, .int .i64 70]) ∧ Below W.heap.size W w') := fun W => new_bad s W hs hbad
    clear hW1 hb1 hbx hW1' hB hBx hs hf hc hm hsc hlc hll hops hbad hL
    go_enter Try.func7, Try.ntmps7
    go_wp2_with fail
    rw [HW1.out]
    clear hX
    go_wp2_with (first
      | (go_at_call 17; refine (kd.out _).mono ?_; rintro e w2 ⟨rfl, hb2⟩; have HB2 : Hid (Below B W1 w2) := hb2.mono HBB.out; clear hb2)
      | (go_at_call 14; refine (kf.out _).mono ?_; rintro e w5 ⟨rfl, hb5⟩))
    go_ret
    exact ⟨rfl, HEND.out _ (HB2.out.trans (hb5.mono (Nat.le_trans HBB.out HB2.out.size)))⟩
  · have kd : Hid (∀ W, B ≤ W.heap.size → Calls Try.prog 17 #[.string s] W fun e w' => ∃ p, e = .returned (.tuple #[.pointer (some ⟨p, 0, none⟩), .int .i64 0]) ∧ At w' B p (newS s.data.toList) ∧ Below W.heap.size W w') := fun W hWB =>
      (new_at s W hs hbad).mono fun e w' ⟨p, q1, q2, q3⟩ => ⟨p, q1, q2.onto hWB, q3⟩
    have hcalm := Calm.new hbad
    obtain ⟨N, hN⟩ : ∃ N, N = (newS s.data.toList).count := ⟨_, rfl⟩
    have hsN : s.size = 128 * N := by rw [hN, ← hcalm.ok.len, hcalm.len]
    have hN1 : N ≤ 4096 := by rw [hN]; exact hcalm.ok.hi
    obtain ⟨Z7, hZ7⟩ : ∃ Z, Z = ofL (List.replicate 127 0) := ⟨_, rfl⟩
    have hz7 : Z7.size = 127 := by rw [hZ7, ofL_size, List.length_replicate]
    have kn : Hid (∀ W, Calls Try.prog 15 #[.int .i64 127] W fun e w' => e = .returned (.string Z7) ∧ Below W.heap.size W w') := fun W => by rw [hZ7]; exact noughts_any 127 (by omega) W
    obtain ⟨Z8, hZ8⟩ : ∃ Z : ByteArray, Z7 ++ ByteArray.mk #[120] = Z := ⟨_, rfl⟩
    have hz8 : Z8.size = 128 := by rw [← hZ8, ByteArray.size_append, hz7]; rfl
    have HC0 := Lib.hid hcalm
    have HN := Lib.hid (And.intro hN hsN)
    clear hcalm hbad hZ7 hN hW1 hb1 hbx hW1' hB hBx
    go_enter Try.func7, Try.ntmps7
    go_wp2_with fail
    rw [HW1.out, ← HXE.out]
    clear hX
    go_wp2_with (go_at_call 17; refine (kd.out _ HBB.out).mono ?_; rintro e w2 ⟨p, rfl, hat, hb2⟩; have HA2 := Lib.hid hat; have HB2 : Hid (Below B W1 w2) := hb2.mono HBB.out; clear hat hb2)
    go_loopw [9] (fun i wr => ∃ (k : Nat) (S : St), k ≤ N ∧ i = .int .i64 (k : Int) ∧ At wr B p S ∧ Calm s.size S ∧ S.count = N ∧ Below B W1 wr) (fun i _ => N - (intOf i).toNat)
    case atStart => exact ⟨0, _, Nat.zero_le _, rfl, HA2.out, HC0.out, HN.out.1.symm, HB2.out⟩
    case round =>
      obtain ⟨k, S, hk, rfl, hat, hcl, hcnt, hbel⟩ := hrel
      have kc : Calls Try.prog 38 #[.pointer (some ⟨p, 0, none⟩)] wr fun e w' => e = .returned (.int .i64 (N : Int)) ∧ wr = w' := by
        obtain ⟨F, hd, _⟩ := hat
        have := count_any F p S wr hd
        rw [hcnt] at this; exact this
      by_cases hlt : k < N
      · have hki : (k : Int) < (N : Int) := by omega
        have ew : wrap64 ((k : Int) + 1) = ((k + 1 : Nat) : Int) := by unfold wrap64; omega
        have HWr : Hid (∀ W, Below wr.heap.size wr W → Calls Try.prog 39 #[.pointer (some ⟨p, 0, none⟩), .int .i64 (k : Int), .string Z8] W fun e w' => (∃ r, e = .returned (.int .i64 r)) ∧ At w' B p (S.write (k : Int) Z8.data.toList).1 ∧ Below B W w') := fun W hW =>
          (write_at B p S W (hat.below hW) (Nat.le_trans HBB.out (Nat.le_trans hbel.size hW.size)) (k : Int) Z8 (by unfold In64; omega) (by omega)).mono fun e w' q => ⟨⟨_, q.1⟩, q.2⟩
        have HF := Lib.hid (And.intro (hcl.write (k : Int) Z8.data.toList) (And.intro (hcl.ok.write (k : Int) Z8.data.toList) (And.intro hbel hcnt)))
        clear hat hcl hcnt hbel
        go_wp2_with (first
          | (go_at_call 38; refine kc.mono ?_; rintro e w3 ⟨rfl, rfl⟩)
          | (go_at_call 15; refine (kn.out _).mono ?_; rintro e w4 ⟨rfl, hb4⟩)
          | (go_at_call 39; refine (HWr.out _ hb4).mono ?_; rintro e w5 ⟨⟨r, rfl⟩, hat5, hb5⟩))
        have HG := Lib.hid (And.intro hat5 (HF.out.2.2.1.trans ((hb4.mono (Nat.le_trans HBB.out HF.out.2.2.1.size)).trans hb5)))
        clear hat5 hb5 hb4
        go_roundw
        case rel => exact ⟨k + 1, _, by omega, by first | go_num | rw [ew], HG.out.1, HF.out.1, HF.out.2.1.2.trans HF.out.2.2.2, HG.out.2⟩
        case measure => first | (simp [intOf]; omega) | (rw [ew]; simp only [intOf]; omega)
      · have hkN : k = N := by omega
        subst hkN
        have hsz := hbel.size
        by_cases hnw : nwE S f c m = 0
        · have hnn := hnw
          unfold nwE at hnn
          have hrg : ¬ (f < 0 ∨ c < 1 ∨ (S.count : Int) - c < f ∨ m < 0 ∨ 16 < m) := by
            intro z; rw [if_pos z] at hnn; cases hnn
          have kv := enew_at B p S f c m wr hat (Nat.le_trans HBB.out hsz) hf hc hm hnw
          obtain ⟨x0, x1, x2⟩ := HX.out wr hbel
          obtain ⟨f', rfl⟩ : ∃ n : Nat, f = (n : Int) := ⟨f.toNat, by omega⟩
          obtain ⟨c', rfl⟩ : ∃ n : Nat, c = (n : Int) := ⟨c.toNat, by omega⟩
          obtain ⟨V0, hV0⟩ : ∃ V, V = newV (f' : Int) (c' : Int) m := ⟨_, rfl⟩
          have hVf : V0.first = f' ∧ V0.cnt = c' ∧ V0.mis = 0 := by rw [hV0]; exact ⟨Int.toNat_natCast _, Int.toNat_natCast _, rfl⟩
          rw [← hV0] at kv
          have hfk : f' + c' ≤ k := by omega
          have hc1 : 1 ≤ c' := by omega
          have KI : Hid (∀ W T, At W B p T → Calls Try.prog 28 #[.pointer (some ⟨p, 0, none⟩)] W fun e w' => e = .returned (.string (ofL T.image)) ∧ Below W.heap.size W w') := fun W T ⟨F, hd, _⟩ => image_any F p T W hd
          have KS : Hid (∀ W T, At W B p T → Calls Try.prog 30 #[.pointer (some ⟨p, 0, none⟩)] W fun e w' => e = .returned (.string (ofL T.safe)) ∧ W = w') := fun W T ⟨F, hd, _⟩ => safe_any F p T W hd
          have HS := Lib.hid (And.intro hcl hcnt)
          obtain ⟨R1, hR1⟩ : ∃ R, R = ofL S.image := ⟨_, rfl⟩
          obtain ⟨R2, hR2⟩ : ∃ R, R = ofL S.safe := ⟨_, rfl⟩
          have KI1 : Hid (∀ W, At W B p S → Calls Try.prog 28 #[.pointer (some ⟨p, 0, none⟩)] W fun e w' => e = .returned (.string R1) ∧ Below W.heap.size W w') := fun W h => by rw [hR1]; exact KI.out W S h
          have KS1 : Hid (∀ W, At W B p S → Calls Try.prog 30 #[.pointer (some ⟨p, 0, none⟩)] W fun e w' => e = .returned (.string R2) ∧ W = w') := fun W h => by rw [hR2]; exact KS.out W S h
          have hs1 : R1.size = 128 * k := by rw [hR1, ofL_size, image_len hcl.ok, hcnt]
          have hs2 : R2.size = 128 * k := by rw [hR2, ofL_size, hcl.len, hsN]
          have HRR := Lib.hid (And.intro hR1 hR2)
          clear hR1 hR2
          have HB3 := Lib.hid hbel
          have q1 : (128 * (k : Int)) / 128 = (k : Int) := by omega
          have q2 : wrap64 ((k : Int) - (f' : Int)) = (k : Int) - (f' : Int) := by unfold wrap64; omega
          have q3 : (f' : Int) ≤ (k : Int) := by omega
          have q4 : (c' : Int) ≤ (k : Int) - (f' : Int) := by omega
          have q5 : 1 ≤ (c' : Int) := by omega
          have HQ := Lib.hid (And.intro hfk (And.intro hc1 hN1))
          clear hat hcl hcnt hbel hlt hnw hnn hrg hf hc hsz hV0 hfk hc1 hsc hops hs hm
          go_wp2_with (first
            | (go_at_call 38; refine kc.mono ?_; rintro e w3 ⟨rfl, rfl⟩)
            | (go_at_call 19; refine kv.mono ?_; rintro e w4 ⟨rfl, he, hb4⟩; have HE4 := Lib.hid he; have HB4 : Hid (Below B W1 w4) := HB3.out.trans (hb4.mono (Nat.le_trans HBB.out HB3.out.size)); obtain ⟨x0, x1, x2⟩ := HX.out w4 HB4.out; clear he hb4)
            | (go_at_call 28; refine (KI1.out _ HE4.out.disk).mono ?_; rintro e w5 ⟨rfl, hb5⟩; have HE5 := Lib.hid (HE4.out.below hb5); have HB5 : Hid (Below B W1 w5) := HB4.out.trans (hb5.mono HE4.out.base); clear hb5)
            | (go_at_call 30; refine (KS1.out _ HE5.out.disk).mono ?_; rintro e w6 ⟨rfl, rfl⟩))
          obtain ⟨x, hx⟩ : ∃ x, x = wr.heap.size := ⟨_, rfl⟩
          simp only [← hx] at HE4 HE5 ⊢
          clear x0 x1 x2 kv HE4 HB4 KI1 KS1 hx hk kc
          go_loopw [14] (fun i W => ∃ (j : Nat) (T : St) (V : Dv), j ≤ L ∧ i = .int .i64 (j : Int) ∧ EAt W B x p T V ∧ Apt (128 * k) S T f' c' ∧ (V.first = f' ∧ V.cnt = c' ∧ V.mis ≤ j) ∧ Below B W1 W) (fun i _ => L - (intOf i).toNat)
          case atStart => exact ⟨0, S, V0, Nat.zero_le _, rfl, HE5.out, Apt.refl (by rw [← hsN]; exact HS.out.1) _ _, ⟨hVf.1, hVf.2.1, by omega⟩, HB5.out⟩
          case round =>
            obtain ⟨j, T, V, hj, rfl, he, hap, hV, hbel⟩ := hrel
            by_cases hlt2 : j < L
            · have hji : (j : Int) < (L : Int) := by omega
              obtain ⟨o, b, O, _, _, hok, hq0, hO6, _, hcell⟩ := HOP.out j hlt2
              obtain ⟨off, hoff⟩ : ∃ off, off = O - j * 6 := ⟨_, rfl⟩
              rw [← hoff] at hq0
              have hOs : off + j * 6 = O := by omega
              subst hq0
              have HCE := Lib.hid hcell
              have hcr := hcell wr (hbel.mono (by omega))
              obtain ⟨y0, y1, y2, y3, y4, y5⟩ := hcr
              have hgood := he.good
              have hmis : V.mis < 4611686018427387904 := by omega
              have hap' : Apt (128 * k) S T V.first V.cnt := by rw [hV.1, hV.2.1]; exact hap
              have KR : Hid (Calls Try.prog 34 #[.pointer (some ⟨x, 0, none⟩), .int .i64 o.a] wr fun e w' => (∃ s n r, e = .returned (.tuple #[.string s, .int .i64 n, .int .i64 r])) ∧ EAt w' B x p T (rdV T V o.a) ∧ Below B W1 w') :=
                (eread_at B x p T V o.a wr he hmis).mono fun e w' q => ⟨⟨_, _, _, q.1⟩, q.2.1, hbel.trans q.2.2⟩
              have KW : Hid (∀ W, Below wr.heap.size wr W → Calls Try.prog 32 #[.pointer (some ⟨x, 0, none⟩), .int .i64 o.a, .string o.s, .int .i64 o.b] W fun e w' => (∃ r, e = .returned (.int .i64 r)) ∧ EAt w' B x p (wrS T V o.a o.s.data.toList o.b) (wrV T V o.a o.s.data.toList o.b) ∧ Below B W1 w') := fun W hW =>
                (ewrite_at B x p T V o.a o.s o.b W (he.below hW) (by have := hok.s; omega)).mono fun e w' q => ⟨⟨_, q.1⟩, q.2.1, hbel.trans ((hW.mono he.base).trans q.2.2)⟩
              have KB : Hid (Calls Try.prog 33 #[.pointer (some ⟨x, 0, none⟩)] wr fun e w' => (∃ r, e = .returned (.int .i64 r)) ∧ EAt w' B x p (T.flush (V.first : Int) (V.cnt : Int)).1 V ∧ Below B W1 w') :=
                (ebarrier_at B x p T V wr he).mono fun e w' q => ⟨⟨_, q.1⟩, q.2.1, hbel.trans q.2.2⟩
              have HAR : Hid (Apt (128 * k) S T f' c' ∧ (rdV T V o.a).first = f' ∧ (rdV T V o.a).cnt = c' ∧ (rdV T V o.a).mis ≤ j + 1) := by
                obtain ⟨g1, g2, _⟩ := rdV_cnt T V o.a
                refine ⟨hap, g1.trans hV.1, g2.trans hV.2.1, ?_⟩
                have := rdV_mis T V o.a
                omega
              have HAW : Hid (Apt (128 * k) S (wrS T V o.a o.s.data.toList o.b) f' c' ∧ (wrV T V o.a o.s.data.toList o.b).first = f' ∧ (wrV T V o.a o.s.data.toList o.b).cnt = c' ∧ (wrV T V o.a o.s.data.toList o.b).mis ≤ j + 1) := by
                obtain ⟨g1, g2, _, g4⟩ := wrV_cnt T V o.a o.s.data.toList o.b
                have := hap'.write hgood.fit o.a o.s.data.toList o.b
                rw [hV.1, hV.2.1] at this
                exact ⟨this, g1.trans hV.1, g2.trans hV.2.1, by omega⟩
              have HAB : Hid (Apt (128 * k) S (T.flush (V.first : Int) (V.cnt : Int)).1 f' c' ∧ V.first = f' ∧ V.cnt = c' ∧ V.mis ≤ j + 1) := by
                have h9 := hap'.flush hgood.ok hgood.fit
                refine ⟨?_, hV.1, hV.2.1, by omega⟩
                rw [← hV.1, ← hV.2.1]; exact h9
              have HE0 := Lib.hid (And.intro he (And.intro hap (And.intro hV hbel)))
              clear he hap hV hbel hgood hmis hap' hcell hO6 hoff hok
              by_cases z0 : o.kind = 0
              · rw [z0] at y1
                clear y0 y3 y4 y5 z0
                go_wp2_with (go_at_call 34; refine KR.out.mono ?_; rintro e w7 ⟨⟨rs, rn, rr, rfl⟩, he7, hb7⟩; have H7 := Lib.hid (And.intro he7 hb7); clear he7 hb7)
                go_roundw
                case rel => exact ⟨j + 1, _, _, by omega, by go_num, H7.out.1, HAR.out.1, HAR.out.2, H7.out.2⟩
                case measure => simp [intOf]; omega
              · by_cases z2 : o.kind = 2
                · rw [z2] at y1
                  clear y0 y5 z0
                  have KWd := Lib.hid (KW.out wr.drew (below_drew (Below.refl _ wr)))
                  have HCW : Hid (∀ W, Below B W1 W → W.cell? ⟨b, O + 2, none⟩ = some (.int .i64 o.a) ∧ W.cell? ⟨b, O + 3, none⟩ = some (.int .i64 o.b) ∧ W.cell? ⟨b, O + 4, none⟩ = some (.string o.s)) := fun W hW => by
                    obtain ⟨_, _, g2, g3, g4, _⟩ := HCE.out W hW
                    exact ⟨g2, g3, g4⟩
                  clear z2
                  go_wp2_with (fail)
                  go_region_held3 (fun W => W.cell? ⟨b, O + 2, none⟩ = some (.int .i64 o.a) ∧ W.cell? ⟨b, O + 3, none⟩ = some (.int .i64 o.b) ∧ W.cell? ⟨b, O + 4, none⟩ = some (.string o.s))
                    (first
                      | exact HCW.out _ (below_drew HE0.out.2.2.2)
                      | exact HCW.out _ hb7)
                    (first
                      | (go_at_call 32; (with_reducible refine KWd.out.mono ?_); rintro e w7 ⟨⟨rr, rfl⟩, he7, hb7⟩))
                  have H7 := Lib.hid (And.intro he7 hb7)
                  clear he7 hb7 y1 y2 y3 y4
                  go_wp2
                  go_roundw
                  case rel => exact ⟨j + 1, _, _, by omega, by go_num, H7.out.1, HAW.out.1, HAW.out.2, H7.out.2⟩
                  case measure => simp [intOf]; omega
                · by_cases z3 : o.kind = 3
                  · rw [z3] at y1
                    clear y0 y2 y3 y4 y5 z0 z2 z3
                    go_wp2_with (go_at_call 33; refine KB.out.mono ?_; rintro e w7 ⟨⟨rr, rfl⟩, he7, hb7⟩; have H7 := Lib.hid (And.intro he7 hb7); clear he7 hb7)
                    go_roundw
                    case rel => exact ⟨j + 1, _, _, by omega, by go_num, H7.out.1, HAB.out.1, HAB.out.2, H7.out.2⟩
                    case measure => simp [intOf]; omega
                  · have z0' : (o.kind == 0) = false := by simp [z0]
                    have z2' : (o.kind == 2) = false := by simp [z2]
                    have z3' : (o.kind == 3) = false := by simp [z3]
                    generalize o.kind = K at *
                    clear y0 y2 y3 y4 y5 z0 z2 z3
                    go_wp2
                    go_roundw
                    case rel => exact ⟨j + 1, _, _, by omega, by go_num, HE0.out.1, HE0.out.2.1, ⟨HE0.out.2.2.1.1, HE0.out.2.2.1.2.1, by have := HE0.out.2.2.1.2.2; omega⟩, HE0.out.2.2.2⟩
                    case measure => simp [intOf]; omega
            · have hjL : j = L := Nat.le_antisymm hj (Nat.not_lt.1 hlt2)
              subst hjL
              obtain ⟨x0, x1, x2⟩ := HX.out wr hbel
              have c0 : ∀ m, (wr.drewN m).cell? ⟨X, 0, none⟩ = some (.int .i64 (f' : Int)) := fun m => x0
              have c1 : ∀ m, (wr.drewN m).cell? ⟨X, 1, none⟩ = some (.int .i64 (c' : Int)) := fun m => x1
              have HE0 := Lib.hid (And.intro he (And.intro hap hbel))
              obtain ⟨a1, a2, ha1, ha2, hx1, hx2, hx3, hx4, hx5⟩ := apt_nums f' c' k HQ.out.1 HQ.out.2.2
              have HA := Lib.hid (And.intro ha1 ha2)
              clear he hap hV hbel x0 x1 x2 hlt2 ha1 ha2
              obtain ⟨Y1, hY1⟩ : ∃ Y, Y = ofL T.image := ⟨_, rfl⟩
              obtain ⟨Y2, hY2⟩ : ∃ Y, Y = ofL T.safe := ⟨_, rfl⟩
              have KI1 : Hid (∀ W, At W B p T → Calls Try.prog 28 #[.pointer (some ⟨p, 0, none⟩)] W fun e w' => e = .returned (.string Y1) ∧ Below W.heap.size W w') := fun W h => by rw [hY1]; exact KI.out W T h
              have KS1 : Hid (∀ W, At W B p T → Calls Try.prog 30 #[.pointer (some ⟨p, 0, none⟩)] W fun e w' => e = .returned (.string Y2) ∧ W = w') := fun W h => by rw [hY2]; exact KS.out W T h
              have hfin := apart_fin HS.out.1 hsN HE0.out.2.1 HS.out.2 HQ.out.1 HA.out.1 HA.out.2
              rw [← hY1, ← hY2, ← HRR.out.1, ← HRR.out.2] at hfin
              obtain ⟨u1, u2, t1, t2, t3, t4⟩ := hfin
              clear hY1 hY2
              have hn4 : a1 ≤ 128 * k := Int.ofNat_le.1 hx4
              have hn5 : a2 ≤ 128 * k := Int.ofNat_le.1 hx5
              have HD : Hid (EAt wr.drew B x p T V ∧ Below B W1 wr.drew) := ⟨HE0.out.1.below (below_drew (Below.refl _ wr)), below_drew HE0.out.2.2⟩
              go_wp2_with (fail)
              have d0 : wr.drew.cell? ⟨X, 0, none⟩ = some (.int .i64 (f' : Int)) := c0 0
              have d1 : wr.drew.cell? ⟨X, 1, none⟩ = some (.int .i64 (c' : Int)) := c1 0
              have HNUM := Lib.hid (And.intro hs1 (And.intro hs2 (And.intro u1 (And.intro u2 (And.intro t1 (And.intro t2 (And.intro t3 (And.intro t4 (And.intro hx4 (And.intro hx5 (And.intro hn4 (And.intro hn5 hsN))))))))))))
              clear c0 c1 q1 q2 q3 q4 q5 hll hlc hn4 hn5 hx4 hx5 hs1 hs2 u1 u2 t1 t2 t3 t4 hL hj hVf hsN hN1
              go_region_held3 (fun W => W.cell? ⟨X, 0, none⟩ = some (.int .i64 (f' : Int)) ∧ W.cell? ⟨X, 1, none⟩ = some (.int .i64 (c' : Int))) (exact ⟨d0, d1⟩) (fail)
              clear d0 d1
              obtain ⟨hs1, hs2, u1, u2, t1, t2, t3, t4, hx4, hx5, hn4, hn5, hsN⟩ := HNUM.out
              go_wp2_with (first
                | (go_at_call 28; refine (KI1.out _ HD.out.1.disk).mono ?_; rintro e w7 ⟨rfl, hb7⟩; have HE7 := Lib.hid (HD.out.1.below hb7); have HB7 : Hid (Below B W1 w7) := HD.out.2.trans (hb7.mono HD.out.1.base); clear hb7)
                | (go_at_call 30; refine (KS1.out _ HE7.out.disk).mono ?_; rintro e w8 ⟨rfl, rfl⟩))
              clear hx1 hx2 hx3
              have bY1a1 : a1 ≤ Y1.size := by rw [u1]; exact hn4
              have iY1a1 : (a1 : Int) ≤ (Y1.size : Int) := Int.ofNat_le.2 bY1a1
              have bY1a2 : a2 ≤ Y1.size := by rw [u1]; exact hn5
              have iY1a2 : (a2 : Int) ≤ (Y1.size : Int) := Int.ofNat_le.2 bY1a2
              have bY2a1 : a1 ≤ Y2.size := by rw [u2]; exact hn4
              have iY2a1 : (a1 : Int) ≤ (Y2.size : Int) := Int.ofNat_le.2 bY2a1
              have bY2a2 : a2 ≤ Y2.size := by rw [u2]; exact hn5
              have iY2a2 : (a2 : Int) ≤ (Y2.size : Int) := Int.ofNat_le.2 bY2a2
              have bR1a1 : a1 ≤ R1.size := by rw [hs1]; exact hn4
              have iR1a1 : (a1 : Int) ≤ (R1.size : Int) := Int.ofNat_le.2 bR1a1
              have bR1a2 : a2 ≤ R1.size := by rw [hs1]; exact hn5
              have iR1a2 : (a2 : Int) ≤ (R1.size : Int) := Int.ofNat_le.2 bR1a2
              have bR2a1 : a1 ≤ R2.size := by rw [hs2]; exact hn4
              have iR2a1 : (a1 : Int) ≤ (R2.size : Int) := Int.ofNat_le.2 bR2a1
              have bR2a2 : a2 ≤ R2.size := by rw [hs2]; exact hn5
              have iR2a2 : (a2 : Int) ≤ (R2.size : Int) := Int.ofNat_le.2 bR2a2
              have t2' : Y1.extract a2 Y1.size = R1.extract a2 R1.size := by rw [u1, hs1]; exact t2
              have t4' : Y2.extract a2 Y2.size = R2.extract a2 R2.size := by rw [u2, hs2]; exact t4
              clear u1 u2 hs1 hs2 t2 t4 hx4 hx5 hn4 hn5 hsN
              go_region_held3 (fun _ => True) (exact trivial)
                (first | (go_at_call 14; (with_reducible refine (kf.out _).mono ?_); rintro e w9 ⟨rfl, hb9⟩))
              go_wp2
              go_ret
              exact ⟨rfl, HEND.out _ ((below_drew HB7.out).trans (hb9.mono (Nat.le_trans HBB.out HB7.out.size)))⟩
        · have kv := enew_no B p S f c m wr hat hf hc hm hnw
          obtain ⟨x0, x1, x2⟩ := HX.out wr hbel
          have HF := Lib.hid hbel
          clear hat hcl hcnt hbel hlt hnw
          go_wp2_with (first
            | (go_at_call 38; refine kc.mono ?_; rintro e w3 ⟨rfl, rfl⟩)
            | (go_at_call 19; refine kv.mono ?_; rintro e w4 ⟨rfl, rfl⟩)
            | (go_at_call 14; refine (kf.out _).mono ?_; rintro e w5 ⟨rfl, hb5⟩))
          go_ret
          exact ⟨rfl, HEND.out _ (HF.out.trans (hb5.mono (Nat.le_trans HBB.out HF.out.size)))⟩
end Go.Proofs.Ytnecbbflcpngcaa
