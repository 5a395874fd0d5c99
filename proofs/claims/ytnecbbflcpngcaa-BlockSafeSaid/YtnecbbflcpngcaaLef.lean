/- All bytes of a disk, of each unsafe sector the first written bytes: what the call returns, on every order of the map; nothing that was there turns. No conditions. -/
import Derived.Test.YtnecbbflcpngcaaClo
import Derived.StillTailTactics
import Derived.Deep.RegionWith
import Derived.Lib.SlBuf
namespace Go.Proofs.Ytnecbbflcpngcaa
open Go.RowKit Go.Maps
set_option maxRecDepth 20000
set_option linter.unusedVariables false

theorem i64_nat (x : Int) (h : (Lit.int IntKind.i64 x).wf = true) (c : Nat) (h2 : ∃ i, i < c ∧ Lit.int IntKind.i64 x = kl i) : ∃ i : Nat, i < c ∧ x = (i : Int) := by
  obtain ⟨i, hi, e⟩ := h2
  unfold kl at e
  injection e with _ e
  exact ⟨i, hi, e⟩
theorem ext_nat (s : ByteArray) (n : Nat) (h : n ≤ s.size) : (s.extract 0 n).data.toList = s.data.toList.take n := by
  rw [ByteArray.data_extract]; simp
theorem one_some {S : St} {f : Nat → Nat} {i : Nat} {s : Bts} (h : S.wr i = some s) : S.one f i = s.take (f i) ++ (sec S.safe i).drop (f i) := by unfold St.one; rw [h]
theorem one_none {S : St} {f : Nat → Nat} {i : Nat} (h : S.wr i = none) : S.one f i = sec S.safe i := by unfold St.one; rw [h]
/-- what the row holds while some entries are still to come -/
def Mid (S : St) (f : Nat → Nat) (left : Lit → Bool) (cur : Bts) : Prop :=
  cur.length = 128 * S.count ∧ ∀ i, i < S.count → sec cur i = if (S.wr i).isSome = true ∧ left (kl i) = false then S.one f i else sec S.safe i
theorem Mid.step {S : St} (ho : S.ok) {f : Nat → Nat} (hf : ∀ i, f i ≤ 128) {left : Lit → Bool} {cur : Bts} (h : Mid S f left cur) {i : Nat} {s : Bts} (hi : i < S.count) (hs : S.wr i = some s) (hl : left (kl i) = true) :
    Mid S f (fun z => left z && !z.sameKey (kl i)) (lay cur (128 * i) (s.take (f i))) := by
  obtain ⟨h1, h2⟩ := h
  have hsl := (ho.wr i s hs).2
  have hf' := hf i
  have ht : (s.take (f i)).length = f i := by simp; omega
  refine ⟨by rw [lay_len (by omega)]; exact h1, fun j hj => ?_⟩
  by_cases e : j = i
  · subst e
    rw [sec_lay_same (by omega) (by omega), if_pos ⟨by rw [hs]; rfl, by simp [WideAt.sameKey_self (key_lit (i := j) (by have := ho.hi; omega))]⟩, one_some hs, h2 j hj, if_neg (by rw [hl]; simp), ht]
  · rw [sec_lay_other (by omega) (by omega) (fun q => e q.symm), h2 j hj]
    have : (kl j).sameKey (kl i) = false := sameKey_ne (fun q => e (kl_inj q))
    simp [this]
theorem Mid.done {S : St} (ho : S.ok) {f : Nat → Nat} (hf : ∀ i, f i ≤ 128) {left : Lit → Bool} {cur : Bts} (h : Mid S f left cur) (hl : ∀ k, left k = false) : cur = S.left f := by
  obtain ⟨h1, h2⟩ := h
  refine ext_sec h1 (S.left_len ho f hf) fun i hi => ?_
  rw [h2 i hi]
  unfold St.left
  rw [sec_secs (fun i hi => S.one_len ho f hf i hi) i hi]
  cases hw : S.wr i with
  | none => rw [if_neg (by simp), one_none hw]
  | some s => rw [if_pos ⟨by simp, hl _⟩]
theorem Mid.start {S : St} (ho : S.ok) (f : Nat → Nat) {left : Lit → Bool} (hl : ∀ i, i < S.count → left (kl i) = (S.wr i).isSome) : Mid S f left S.safe := by
  refine ⟨ho.len, fun i hi => ?_⟩
  rw [if_neg]
  rw [hl i hi]
  cases (S.wr i).isSome <;> simp
theorem below_setRow {B : Nat} {a w : World} (h : Below B a w) {g : Nat} (hg : B ≤ g) (cs : Array Value) : Below B a (w.setRow g cs) :=
  ⟨h.os, h.tape, h.output, by rw [setRow_size]; exact h.size, fun k hk => by rw [setRow_other _ _ _ _ (by omega)]; exact h.block k hk⟩
theorem ranges_drew {w : World} {k : TypeId} {R : Value → Option (DataW Unit × List MemPlace)} {b r n : Nat} {Dm : DataW Unit} {left : Lit → Bool} {cnt : Nat} (h : w.ranges Try.prog k R b r n Dm left cnt) : w.drew.ranges Try.prog k R b r n Dm left cnt := h
theorem grownBy_setRow (w : World) (g : Nat) (cs : Array Value) : w.grownBy (w.setRow g cs) (some g) :=
  ⟨rfl, rfl, rfl, by rw [setRow_size]; exact Nat.le_refl _, fun k hk hne => by rw [setRow_other _ _ _ _ (fun e => hne (by rw [e]))]⟩

set_option maxRecDepth 20000 in
set_option maxHeartbeats 1000000 in
theorem left_full (F : Nat → Prop) (p : Nat) (S : St) (w : World) (h : IsD w F p S) :
    Calls Try.prog 62 #[.pointer (some ⟨p, 0, none⟩), .func (.func 63) #[] #[]] w fun e w' => ∃ g cap', e = .returned (.slice (some ⟨g, 0, none⟩) S.safe.length cap') ∧ w.heap.size ≤ g ∧ RowB w' g cap' (S.left (full)) ∧ Below w.heap.size w w' := by
  obtain ⟨sb, cap, mb, cv, hd, hc, h1, h2, h3⟩ := h
  obtain ⟨c0, c1, c2, c3, c4, hf⟩ := hd.cells
  have hlen := hd.ok.len
  have hlo := hd.ok.lo
  have hhi := hd.ok.hi
  have kc := cloneB_any sb cap S.safe w hd.row (by omega) (by omega)
  obtain ⟨n, Dm, ho, m1, m2, m3⟩ := hd.map
  have hpl := block_lt hd.blk
  obtain ⟨B, hB⟩ : ∃ B, B = w.heap.size := ⟨_, rfl⟩
  obtain ⟨f, hfd⟩ : ∃ f, f = full := ⟨_, rfl⟩
  have hfp : ∀ i, f i ≤ 128 := by subst hfd; exact fun _ => Nat.le_refl _
  rw [← hfd]
  have HO := Lib.hid hd.ok
  have HMO := Lib.hid ho
  have HM1 := Lib.hid m1
  have HM2 := Lib.hid m2
  have HM3 := Lib.hid m3
  have HL := Lib.hid (And.intro hlen (And.intro hlo hhi))
  have HF := Lib.hid hfp
  have hbs := ho.lt

  clear ho m1 m2 m3 hd hc hf hlen hlo hhi hfp c2 c3 c4
  go_enter Try.func62, Try.ntmps62
  go_wp2_with (first
    | (go_at_call 50; refine kc.mono ?_; rintro e w1 ⟨g, cap', rfl, hg, hr, hbw⟩; (have c1' : w1.cell? ⟨p, 1, none⟩ = some (.map (some mb)) := by (rw [← c1]; simp only [World.cell?, hbw.block p hpl])); (have HMO1 := Lib.hid (World.ownsMap.kept (row := none) HMO.out ⟨hbw.os, hbw.tape, hbw.output, hbw.size, fun k hk _ => hbw.block k hk⟩ (by simp))))
    | (at_range; refine wpList_range_own _ rfl _ 89 rfl 3 9 keyed3 Try.underlying89 _ mb n Dm rfl HMO1.out ?_; intro w0 hrg0 hg0 hs0)
    | go_in)
  (try go_frame)
  obtain ⟨R, hR⟩ : ∃ R, R = w1.heap.size := ⟨_, rfl⟩
  rw [← hR] at hrg0 ⊢
  have hgl := hr.lt
  have hgs := hbw.size
  have hgR : g ≠ R := by omega
  have hB0 : Below B w w0 := by rw [hB]; exact hbw.trans (⟨hg0.os, hg0.tape, hg0.output, hg0.size, fun k hk => hg0.block k (by omega) (by simp)⟩)
  have hr0 : RowB w0 g cap' S.safe := hr.of_heap (hg0.block g hgl (by simp))
  have HR := Lib.hid (And.intro hR (And.intro hB (And.intro hgs hgl)))
  have hBR : B ≤ R := by omega
  have hBg : B ≤ g := by omega
  have hmbB : mb < B := by omega
  clear hr hg0 hbw hg hgl hgs hR hB kc c1' hs0 c0
  go_loopw [6, 7] (fun _ _ wr => ∃ (left : Lit → Bool) (cnt : Nat) (cur : Bts), wr.ranges Try.prog 3 (plainElem Try.prog 9) mb R n Dm left cnt ∧ RowB wr g cap' cur ∧ Mid S f left cur ∧ (∀ k, left k = true → Maps.has Dm k = true) ∧ Below B w wr)
    (fun _ _ wr => wr.rangeLeft mb R)
  case atStart => exact ⟨_, _, S.safe, hrg0, hr0, Mid.start HO.out f HM2.out, fun _ h => h, hB0⟩
  case round =>
    obtain ⟨left, cnt, cur, hrg, hrow, hmid, hlh, hbel⟩ := hrel
    clear hrg0 hr0 hB0
    go_wp2_with (first
      | (at_next; refine wpList_next_ranges_is _ rfl _ rfl 3 9 .i64 keyed3 Try.underlying3 Try.underlying9 mb R n _ _ _ rfl hrg ?_ ?_)
      | go_in)
    · intro _ hl0
      go_wp2
      go_ret
      have e := Mid.done HO.out HF.out hmid hl0
      subst e
      exact ⟨g, cap', rfl, by have := HR.out; omega, hrow, by rw [← HR.out.2.1]; exact hbel⟩
    · intro x s w2 cnt1 hwx hws hlx hat hrg1 hlt hg1 hs1 hen
      have hrow1 : RowB w2 g cap' cur := hrow.of_heap (hg1.block g hrow.lt (by simp; exact hgR))
      have hbel1 : Below B w w2 := ⟨hg1.os.trans hbel.os, hg1.tape.trans hbel.tape, hg1.output.trans hbel.output, Nat.le_trans hbel.size hg1.size, fun k hk => (hg1.block k (Nat.lt_of_lt_of_le (by have := HR.out; omega) hbel.size) (by simp; omega)).trans (hbel.block k hk)⟩
      obtain ⟨i, hi, rfl⟩ := i64_nat x hwx S.count (HM1.out _ (hlh _ hlx))
      have hsome : (S.wr i).isSome = true := by rw [← HM2.out i hi]; exact hlh _ hlx
      obtain ⟨s', hs'⟩ := Option.isSome_iff_exists.1 hsome
      have es : s = ofL s' := by
        have := HM3.out i s' hi hs' (.lit (.string []))
        have h5 : Dm.atKey (kl i) (.lit (.string [])) = .lit (.string s.data.toList) := hat _
        rw [h5] at this
        have h6 : s.data.toList = s' := by simpa using this
        exact ofL_eq h6
      subst es
      have hs128 := (HO.out.wr i s' hs').2
      have hfi := HF.out i
      have hcl := hmid.1
      have hcc := hrow1.le
      have hHL := HL.out
      have hx : (i : Int) * 128 = ((128 * i : Nat) : Int) := by omega
      have hxi : (i : Int) < 4096 := by omega
      have hsz : (ofL s').size = 128 := by rw [ofL_size]; exact hs128
      have hex : (ofL s').extract 0 (f i) = ofL (s'.take (f i)) := ofL_eq (by rw [ext_nat _ _ (by omega), ofL_list])
      obtain ⟨cs, hcp, hrow2⟩ := RowB.copy (w := w2.drew) hrow1 (128 * i) (cur.length - 128 * i) (cap' - 128 * i) (ofL (s'.take (f i))) 3 (by rw [ofL_size]; simp; omega) (by rw [ofL_size]; simp; omega)
      rw [ofL_list] at hrow2
      rw [hcl] at hcp
      have hlsafe : S.safe.length = 128 * S.count := hHL.1
      obtain ⟨o, hod⟩ : ∃ o, o = 128 * i := ⟨_, rfl⟩
      obtain ⟨N, hN⟩ : ∃ N, N = S.safe.length := ⟨_, rfl⟩
      rw [← hN] at hlsafe ⊢
      rw [← hlsafe, ← hod] at hcp
      rw [← hod] at hx hrow2
      have ho1 : o ≤ N := by omega
      have ho2 : ¬ cap' = o := by omega
      have ho3 : N ≤ cap' := by omega
      have ho4 : N ≤ 524288 := by omega
      have hw : IntKind.i64.wrap (o : Int) = (o : Int) := by rw [IntKind.wrap_i64]; omega
      have HF4 := Lib.hid ho4
      clear ho4
      have kf : ∀ W, Below w.heap.size w W → Calls Try.prog 63 (#[.int .i64 (i : Int)] ++ #[]) W fun e w' => e = .returned (.int .i64 (f i : Int)) ∧ w' = W := by
        subst hfd; exact fun W _ => (full_any i W).mono fun _ _ h => ⟨h.1, h.2.symm⟩
      replace kf := kf w2.drew (by rw [← HR.out.2.1]; exact below_drew hbel1)
      change Calls Try.prog 63 #[.int .i64 (i : Int)] _ _ at kf
      obtain ⟨m, hm⟩ : ∃ m, m = f i := ⟨_, rfl⟩
      rw [← hm] at kf hex hfi hcp hrow2
      have hmi : (m : Int) ≤ 128 := by omega
      have HM := Lib.hid hm.symm
      clear hm
      have HX := Lib.hid (And.intro hod (And.intro hN (And.intro hs128 (And.intro hlsafe (And.intro hcl (And.intro hHL (And.intro hmid (And.intro hrg1 (And.intro hrow2 (And.intro hbel1 hi))))))))))
      have HY := Lib.hid (And.intro hrg (And.intro hlt hlh))
      have HZ := Lib.hid (And.intro hsome (And.intro hs' hlx))
      clear hod hN hs128 hlsafe hcl hHL hmid hrg1 hrow2 hbel1 hrg hlt hlh hsome hs' hlx hws hwx hat hg1 hs1 hrow hrow1 hbel hcc c1 hi
      go_wp2
      go_still_tail 9, (by kernel_rfl)
      still_call kf
      repeat still_step
      (try refine wpStill_nil ?_)
      change wpList _ _ _ _ _ w2.drew
      refine Lib.wpList_copy_run w2.drew rfl _ _ 30 9 rfl _ _ rfl rfl hcp ?_
      clear hcp
      go_frame
      go_wp2
      go_roundw
      case rel =>
        obtain ⟨hod, hN, hs128, hlsafe, hcl, hHL, hmid, hrg1, hrow2, hbel1, hi⟩ := HX.out
        have h2 := hmid.step HO.out HF.out hi HZ.out.2.1 HZ.out.2.2
        rw [← hod, HM.out] at h2
        have k1 := (ranges_drew hrg1).kept (grownBy_setRow w2.drew g cs) (by simp; omega) (by simp; exact fun e => hgR e.symm)
        subst hN
        repeat apply Exists.intro
        exact ⟨⟨_, cnt1, _, k1, hrow2, h2, fun k hk => HY.out.2.2 k (Bool.and_eq_true_iff.1 hk).1, below_setRow (below_drew hbel1) hBg cs⟩, rfl⟩
      case measure =>
        obtain ⟨hod, hN, hs128, hlsafe, hcl, hHL, hmid, hrg1, hrow2, hbel1, hi⟩ := HX.out
        have k1 := (ranges_drew hrg1).kept (grownBy_setRow w2.drew g cs) (by simp; omega) (by simp; exact fun e => hgR e.symm)
        rw [k1.left_eq, HY.out.1.left_eq]; exact HY.out.2.1

set_option maxRecDepth 20000 in
set_option maxHeartbeats 1000000 in
theorem left_part (F : Nat → Prop) (p : Nat) (S : St) (w : World) (h : IsD w F p S) (G : Nat → Prop) (v : Value) (ch : List Int) (bx : Nat) (hb : w.cell? ⟨bx, 0, none⟩ = some v) (hcv : CV w G v ch) :
    Calls Try.prog 62 #[.pointer (some ⟨p, 0, none⟩), .func (.func 104) #[] #[.pointer (some ⟨bx, 0, none⟩)]] w fun e w' => ∃ g cap', e = .returned (.slice (some ⟨g, 0, none⟩) S.safe.length cap') ∧ w.heap.size ≤ g ∧ RowB w' g cap' (S.left (part ch)) ∧ Below w.heap.size w w' := by
  obtain ⟨sb, cap, mb, cv, hd, hc, h1, h2, h3⟩ := h
  obtain ⟨c0, c1, c2, c3, c4, hf⟩ := hd.cells
  have hlen := hd.ok.len
  have hlo := hd.ok.lo
  have hhi := hd.ok.hi
  have kc := cloneB_any sb cap S.safe w hd.row (by omega) (by omega)
  obtain ⟨n, Dm, ho, m1, m2, m3⟩ := hd.map
  have hpl := block_lt hd.blk
  obtain ⟨B, hB⟩ : ∃ B, B = w.heap.size := ⟨_, rfl⟩
  obtain ⟨f, hfd⟩ : ∃ f, f = part ch := ⟨_, rfl⟩
  have hfp : ∀ i, f i ≤ 128 := by subst hfd; exact part_le ch
  rw [← hfd]
  have HO := Lib.hid hd.ok
  have HMO := Lib.hid ho
  have HM1 := Lib.hid m1
  have HM2 := Lib.hid m2
  have HM3 := Lib.hid m3
  have HL := Lib.hid (And.intro hlen (And.intro hlo hhi))
  have HF := Lib.hid hfp
  have hbs := ho.lt
  have HB := Lib.hid hb
  have HCV := Lib.hid hcv
  clear hb hcv
  clear ho m1 m2 m3 hd hc hf hlen hlo hhi hfp c2 c3 c4
  go_enter Try.func62, Try.ntmps62
  go_wp2_with (first
    | (go_at_call 50; refine kc.mono ?_; rintro e w1 ⟨g, cap', rfl, hg, hr, hbw⟩; (have c1' : w1.cell? ⟨p, 1, none⟩ = some (.map (some mb)) := by (rw [← c1]; simp only [World.cell?, hbw.block p hpl])); (have HMO1 := Lib.hid (World.ownsMap.kept (row := none) HMO.out ⟨hbw.os, hbw.tape, hbw.output, hbw.size, fun k hk _ => hbw.block k hk⟩ (by simp))))
    | (at_range; refine wpList_range_own _ rfl _ 89 rfl 3 9 keyed3 Try.underlying89 _ mb n Dm rfl HMO1.out ?_; intro w0 hrg0 hg0 hs0)
    | go_in)
  (try go_frame)
  obtain ⟨R, hR⟩ : ∃ R, R = w1.heap.size := ⟨_, rfl⟩
  rw [← hR] at hrg0 ⊢
  have hgl := hr.lt
  have hgs := hbw.size
  have hgR : g ≠ R := by omega
  have hB0 : Below B w w0 := by rw [hB]; exact hbw.trans (⟨hg0.os, hg0.tape, hg0.output, hg0.size, fun k hk => hg0.block k (by omega) (by simp)⟩)
  have hr0 : RowB w0 g cap' S.safe := hr.of_heap (hg0.block g hgl (by simp))
  have HR := Lib.hid (And.intro hR (And.intro hB (And.intro hgs hgl)))
  have hBR : B ≤ R := by omega
  have hBg : B ≤ g := by omega
  have hmbB : mb < B := by omega
  clear hr hg0 hbw hg hgl hgs hR hB kc c1' hs0 c0
  go_loopw [6, 7] (fun _ _ wr => ∃ (left : Lit → Bool) (cnt : Nat) (cur : Bts), wr.ranges Try.prog 3 (plainElem Try.prog 9) mb R n Dm left cnt ∧ RowB wr g cap' cur ∧ Mid S f left cur ∧ (∀ k, left k = true → Maps.has Dm k = true) ∧ Below B w wr)
    (fun _ _ wr => wr.rangeLeft mb R)
  case atStart => exact ⟨_, _, S.safe, hrg0, hr0, Mid.start HO.out f HM2.out, fun _ h => h, hB0⟩
  case round =>
    obtain ⟨left, cnt, cur, hrg, hrow, hmid, hlh, hbel⟩ := hrel
    clear hrg0 hr0 hB0
    go_wp2_with (first
      | (at_next; refine wpList_next_ranges_is _ rfl _ rfl 3 9 .i64 keyed3 Try.underlying3 Try.underlying9 mb R n _ _ _ rfl hrg ?_ ?_)
      | go_in)
    · intro _ hl0
      go_wp2
      go_ret
      have e := Mid.done HO.out HF.out hmid hl0
      subst e
      exact ⟨g, cap', rfl, by have := HR.out; omega, hrow, by rw [← HR.out.2.1]; exact hbel⟩
    · intro x s w2 cnt1 hwx hws hlx hat hrg1 hlt hg1 hs1 hen
      have hrow1 : RowB w2 g cap' cur := hrow.of_heap (hg1.block g hrow.lt (by simp; exact hgR))
      have hbel1 : Below B w w2 := ⟨hg1.os.trans hbel.os, hg1.tape.trans hbel.tape, hg1.output.trans hbel.output, Nat.le_trans hbel.size hg1.size, fun k hk => (hg1.block k (Nat.lt_of_lt_of_le (by have := HR.out; omega) hbel.size) (by simp; omega)).trans (hbel.block k hk)⟩
      obtain ⟨i, hi, rfl⟩ := i64_nat x hwx S.count (HM1.out _ (hlh _ hlx))
      have hsome : (S.wr i).isSome = true := by rw [← HM2.out i hi]; exact hlh _ hlx
      obtain ⟨s', hs'⟩ := Option.isSome_iff_exists.1 hsome
      have es : s = ofL s' := by
        have := HM3.out i s' hi hs' (.lit (.string []))
        have h5 : Dm.atKey (kl i) (.lit (.string [])) = .lit (.string s.data.toList) := hat _
        rw [h5] at this
        have h6 : s.data.toList = s' := by simpa using this
        exact ofL_eq h6
      subst es
      have hs128 := (HO.out.wr i s' hs').2
      have hfi := HF.out i
      have hcl := hmid.1
      have hcc := hrow1.le
      have hHL := HL.out
      have hx : (i : Int) * 128 = ((128 * i : Nat) : Int) := by omega
      have hxi : (i : Int) < 4096 := by omega
      have hsz : (ofL s').size = 128 := by rw [ofL_size]; exact hs128
      have hex : (ofL s').extract 0 (f i) = ofL (s'.take (f i)) := ofL_eq (by rw [ext_nat _ _ (by omega), ofL_list])
      obtain ⟨cs, hcp, hrow2⟩ := RowB.copy (w := w2.drew) hrow1 (128 * i) (cur.length - 128 * i) (cap' - 128 * i) (ofL (s'.take (f i))) 3 (by rw [ofL_size]; simp; omega) (by rw [ofL_size]; simp; omega)
      rw [ofL_list] at hrow2
      rw [hcl] at hcp
      have hlsafe : S.safe.length = 128 * S.count := hHL.1
      obtain ⟨o, hod⟩ : ∃ o, o = 128 * i := ⟨_, rfl⟩
      obtain ⟨N, hN⟩ : ∃ N, N = S.safe.length := ⟨_, rfl⟩
      rw [← hN] at hlsafe ⊢
      rw [← hlsafe, ← hod] at hcp
      rw [← hod] at hx hrow2
      have ho1 : o ≤ N := by omega
      have ho2 : ¬ cap' = o := by omega
      have ho3 : N ≤ cap' := by omega
      have ho4 : N ≤ 524288 := by omega
      have hw : IntKind.i64.wrap (o : Int) = (o : Int) := by rw [IntKind.wrap_i64]; omega
      have HF4 := Lib.hid ho4
      clear ho4
      have kf : ∀ W, Below w.heap.size w W → Calls Try.prog 104 (#[.int .i64 (i : Int)] ++ #[.pointer (some ⟨bx, 0, none⟩)]) W fun e w' => e = .returned (.int .i64 (f i : Int)) ∧ w' = W := by
        subst hfd; exact fun W hW => (chosen1_any G v ch bx i W (by rw [← HB.out]; simp only [World.cell?, hW.block bx (block_lt_of_cell HB.out)]) (HCV.out.below hW) (by omega)).mono fun _ _ h => ⟨h.1, h.2.symm⟩
      replace kf := kf w2.drew (by rw [← HR.out.2.1]; exact below_drew hbel1)
      change Calls Try.prog 104 #[.int .i64 (i : Int), .pointer (some ⟨bx, 0, none⟩)] _ _ at kf
      obtain ⟨m, hm⟩ : ∃ m, m = f i := ⟨_, rfl⟩
      rw [← hm] at kf hex hfi hcp hrow2
      have hmi : (m : Int) ≤ 128 := by omega
      have HM := Lib.hid hm.symm
      clear hm
      have HX := Lib.hid (And.intro hod (And.intro hN (And.intro hs128 (And.intro hlsafe (And.intro hcl (And.intro hHL (And.intro hmid (And.intro hrg1 (And.intro hrow2 (And.intro hbel1 hi))))))))))
      have HY := Lib.hid (And.intro hrg (And.intro hlt hlh))
      have HZ := Lib.hid (And.intro hsome (And.intro hs' hlx))
      clear hod hN hs128 hlsafe hcl hHL hmid hrg1 hrow2 hbel1 hrg hlt hlh hsome hs' hlx hws hwx hat hg1 hs1 hrow hrow1 hbel hcc c1 hi
      go_wp2
      go_still_tail 9, (by kernel_rfl)
      still_call kf
      repeat still_step
      (try refine wpStill_nil ?_)
      change wpList _ _ _ _ _ w2.drew
      refine Lib.wpList_copy_run w2.drew rfl _ _ 30 9 rfl _ _ rfl rfl hcp ?_
      clear hcp
      go_frame
      go_wp2
      go_roundw
      case rel =>
        obtain ⟨hod, hN, hs128, hlsafe, hcl, hHL, hmid, hrg1, hrow2, hbel1, hi⟩ := HX.out
        have h2 := hmid.step HO.out HF.out hi HZ.out.2.1 HZ.out.2.2
        rw [← hod, HM.out] at h2
        have k1 := (ranges_drew hrg1).kept (grownBy_setRow w2.drew g cs) (by simp; omega) (by simp; exact fun e => hgR e.symm)
        subst hN
        repeat apply Exists.intro
        exact ⟨⟨_, cnt1, _, k1, hrow2, h2, fun k hk => HY.out.2.2 k (Bool.and_eq_true_iff.1 hk).1, below_setRow (below_drew hbel1) hBg cs⟩, rfl⟩
      case measure =>
        obtain ⟨hod, hN, hs128, hlsafe, hcl, hHL, hmid, hrg1, hrow2, hbel1, hi⟩ := HX.out
        have k1 := (ranges_drew hrg1).kept (grownBy_setRow w2.drew g cs) (by simp; omega) (by simp; exact fun e => hgR e.symm)
        rw [k1.left_eq, HY.out.1.left_eq]; exact HY.out.2.1
end Go.Proofs.Ytnecbbflcpngcaa
