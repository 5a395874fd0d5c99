/- The pattern of an expression: what the calls return; nothing that was there turns. Conditions: the expression lies in memory, may be, and is not too big. -/
import Derived.Test.YthejkelnjimogaaDoorPat
import Derived.Deep.OwnRows
namespace Go.Proofs.YthejkelnjimogaaDoor
open Go.RowKit
set_option linter.unusedVariables false

theorem Tryd.info9' : (Tryd.prog.info? 9).map (fun i => (i.zero, i.size, i.bytes)) = some (some (.string ⟨#[]⟩), 1, 16) := by kernel_rfl
/-- a row of n empty texts -/
theorem make9 (n : Nat) (hn : n ≤ 100000) : ∃ C : Array Value, C.size = n ∧ (∀ i, i < n → C[i]? = some (.string ⟨#[]⟩)) ∧
    ∀ w : World, (Instr.makeSlice 53 (.int .i64 (n : Nat)) (.int .i64 (n : Nat))).run Tryd.prog w = .ok (.slice (some ⟨w.heap.size, 0, none⟩) n n) (w.alloc (.cells C 9)) := by
  obtain ⟨i0, hi, hz0, hz1, hz2⟩ := info_parts Tryd.info9'
  refine ⟨madeCells (Value.string ⟨#[]⟩).cells (n * 1), by rw [size_madeCells]; omega, fun i hi => ?_, fun w => ?_⟩
  · rw [← Array.getElem?_toList, Nat.mul_one]
    rw [show (Value.string ⟨#[]⟩).cells = #[Value.string ⟨#[]⟩] from rfl, toList_madeCells_one]
    rw [List.getElem?_replicate, if_pos hi]
  · have := run_make (P := Tryd.prog) w 53 9 i0 (.string ⟨#[]⟩) Tryd.underlying53 hi hz0 .i64 .i64 (n : Int) (n : Int) (by omega) (by omega) (by rw [hz2]; omega) (by omega)
    rw [this, hz1]
    simp
/-- how an expression and its elements' patterns lie -/
structure Pw (w wx : World) (B T : Nat) (C0 : Array Value) (wr : World) (C : Array Value) : Prop where
  box : wr.heap[B]? = some (.cells C0 26 (0, 0))
  row : wr.heap[T]? = some (.cells C 9 (0, 0))
  bw : Below w.heap.size w wr
  bx : Below wx.heap.size wx wr
  hw : w.heap.size ≤ wx.heap.size
  hB : wx.heap.size ≤ B
  hT : wx.heap.size ≤ T
  ne : ¬ B = T
section
variable {w wx : World} {B T : Nat} {C0 : Array Value} {wr w' : World} {C : Array Value}
theorem Pw.below (h : Pw w wx B T C0 wr C) (k : Below wr.heap.size wr w') : Pw w wx B T C0 w' C :=
  ⟨by rw [k.block B (block_lt h.box)]; exact h.box, by rw [k.block T (block_lt h.row)]; exact h.row, below_trans h.bw k, below_trans h.bx k, h.hw, h.hB, h.hT, h.ne⟩
theorem Pw.put (h : Pw w wx B T C0 wr C) (j : Nat) (u : Value) : Pw w wx B T C0 (wr.setCell ⟨T, j, none⟩ u) (C.setIfInBounds j u) :=
  ⟨(heap_setCell_other _ _ _ _ (by exact h.ne)).trans h.box, block_setCell h.row, h.bw.setCell (by show w.heap.size ≤ T; have := h.hT; have := h.hw; omega) _, h.bx.setCell (by exact h.hT) _, h.hw, h.hB, h.hT, h.ne⟩
theorem Pw.c (h : Pw w wx B T C0 wr C) (j : Nat) (u : Value) (hu : C0[j]? = some u) : wr.cell? ⟨B, j, none⟩ = some u := cell_at h.box hu
theorem Pw.r (h : Pw w wx B T C0 wr C) (j : Nat) (u : Value) (hu : C[j]? = some u) : wr.cell? ⟨T, j, none⟩ = some u := cell_at h.row hu
theorem Pw.g (h : Pw w wx B T C0 wr C) (o : Nat) : wr.frozen? ⟨T, o, none⟩ = false := free_at h.row
end
theorem join_call (k : Int) (l : List Rx) (T : Nat) (C : Array Value) (wr : World) (row : wr.heap[T]? = some (.cells C 9 (0, 0))) (hC : ∀ q (hq : q < l.length), C[q]? = some (.string (str (patE k l[q]))))
    (sep : Bs) (hlen : (Lib.join (patL k l) sep).length ≤ 1000000) (hn : l.length ≤ 256) :
    Calls Tryd.prog 32 #[.slice (some ⟨T, 0, none⟩) l.length l.length, .string (str sep)] wr fun e w' => e = .returned (.string (str (Lib.join (patL k l) sep))) ∧ Below wr.heap.size wr w' := by
  have e1 : (l.map fun x => str (patE k x)).length = l.length := by simp
  have e2 : ((l.map fun x => str (patE k x)).map (·.data.toList)) = patL k l := by
    rw [patL_map, List.map_map]
    apply List.map_congr_left
    intro x _
    simp [str]
  have e3 : (str sep).data.toList = sep := by simp [str]
  have := Tryd.strings_Join T 0 l.length (l.map fun x => str (patE k x)) (str sep) wr (fun j x hx => by
    rw [Nat.zero_add]
    rw [List.getElem?_map] at hx
    obtain ⟨y, hy, rfl⟩ := Option.map_eq_some_iff.1 hx
    obtain ⟨hj, rfl⟩ := List.getElem?_eq_some_iff.1 hy
    exact cell_at row (hC j hj)) (block_lt row) (by rw [e1]; omega) (by rw [e1]; exact Nat.le_refl _) (by rw [e2, e3]; omega)
  rw [e1, e2, e3] at this
  exact this
set_option maxRecDepth 100000 in
set_option maxHeartbeats 8000000 in
theorem pat_step {ok : Nat → Prop} {w : World} (ao : Option Addr) (cap : Nat) (l : List Rx) (sl : Nat → Value)
    (cell : ∀ i (h : i < l.length), ∃ a, ao = some a ∧ ok a.block ∧ a.block < w.heap.size ∧ ∀ j u, (l[i].cells (sl i))[j]? = some u → w.cell? (a.add (i * 8 + j)) = some u)
    (vals : ∀ i (h : i < l.length), ∃ bo m c, sl i = .slice bo m c)
    (ih : ∀ i (h : i < l.length), goodR l[i] → ∀ w', Below w.heap.size w w' → Calls Tryd.prog 21 #[.agg (l[i].cells (sl i))] w' fun e w'' => e = .returned (.string (str (patR l[i]))) ∧ Below w'.heap.size w' w'')
    (k mn mx s0 s1 s2 s3 : Int) (hg : goodR (.mk k mn mx s0 s1 s2 s3 l)) (wx : World) (hb : Below w.heap.size w wx) :
    Calls Tryd.prog 21 #[.agg (cellsX k mn mx s0 s1 s2 s3 (.slice ao l.length cap))] wx fun e w'' => e = .returned (.string (str (patR (.mk k mn mx s0 s1 s2 s3 l)))) ∧ Below wx.heap.size wx w'' := by
  have hk := formF_kind hg.form
  unfold cellsX
  by_cases h0 : k = 0
  · subst h0
    have hok := hg.2.2
    rw [okR] at hok
    obtain ⟨⟨⟨a0, a1⟩, ⟨b0, b1⟩, ⟨c0, c1⟩, ⟨d0, d1⟩⟩, _⟩ := hok
    have SP := fun w1 => setPat_any (S4.ofI s0 s1 s2 s3) w1 ⟨by show s0.toNat < _; omega, by show s1.toNat < _; omega, by show s2.toNat < _; omega, by show s3.toNat < _; omega⟩
    have e0 : ((s0.toNat : Nat) : Int) = s0 := by omega
    have e1 : ((s1.toNat : Nat) : Int) = s1 := by omega
    have e2 : ((s2.toNat : Nat) : Int) = s2 := by omega
    have e3 : ((s3.toNat : Nat) : Int) = s3 := by omega
    unfold S4.val at SP
    dsimp only [S4.ofI] at SP
    rw [e0, e1, e2, e3] at SP
    have hp : patR (.mk 0 mn mx s0 s1 s2 s3 l) = setS (S4.ofI s0 s1 s2 s3) := by rw [patR, if_pos rfl]
    rw [hp]
    dsimp only [S4.ofI]
    have SP2 := Lib.hid SP
    have bel : Hid (∀ o w2, Below (wx.alloc o).heap.size (wx.alloc o) w2 → Below wx.heap.size wx w2) := fun o w2 g => below_trans (below_new wx o) g
    generalize setS ⟨s0.toNat, s1.toNat, s2.toNat, s3.toNat⟩ = r at *
    clear SP hp hk hg ih cell vals a0 a1 b0 b1 c0 c1 d0 d1 e0 e1 e2 e3 hb
    go_enter Tryd.func21, Tryd.ntmps21
    go_wp2_with (go_at_call 30; (with_reducible refine (SP2.out _).mono ?_); rintro e w1 ⟨rfl, g1⟩)
    go_ret
    exact ⟨rfl, bel.out _ _ g1⟩
  · have hn : l.length ≤ 256 := good_few hg
    have hgood := Lib.hid hg.sizes.2.2
    have hlen := good_len hg
    obtain ⟨C, hCs, hC0, hMK⟩ := make9 l.length (by omega)
    have HCs := Lib.hid hCs
    have HC0 := Lib.hid hC0
    obtain ⟨B, hB⟩ : ∃ B, B = wx.heap.size := ⟨_, rfl⟩
    have hzz : wx.heap.size = B := hB.symm
    have ek : (k == 0) = false := by simpa using h0
    have PW0 : Hid (Pw w wx B (B + 1) #[.int .i64 k, .int .i64 mn, .int .i64 mx, .int .u64 s0, .int .u64 s1, .int .u64 s2, .int .u64 s3, .slice ao l.length cap] ((wx.alloc (.cells #[.int .i64 k, .int .i64 mn, .int .i64 mx, .int .u64 s0, .int .u64 s1, .int .u64 s2, .int .u64 s3, .slice ao l.length cap] 26)).alloc (.cells C 9)) C) :=
      ⟨by rw [(below_new _ (.cells C 9)).block B (by rw [hB]; simp), hB]; exact heap_alloc_new wx _, by
        have := heap_alloc_new (wx.alloc (.cells #[.int .i64 k, .int .i64 mn, .int .i64 mx, .int .u64 s0, .int .u64 s1, .int .u64 s2, .int .u64 s3, .slice ao l.length cap] 26)) (.cells C 9)
        rw [hB]; simpa using this, below_trans hb (below_trans (below_new wx _) (below_new _ _)), below_trans (below_new wx _) (below_new _ _), hb.size, by omega, by omega, by omega⟩
    have CE := Lib.hid cell
    have VS := Lib.hid vals
    have IH := Lib.hid ih
    have HG := Lib.hid hg
    have HK := Lib.hid hk
    have MK : ∀ w : World, (Instr.makeSlice 53 (.int .i64 (l.length : Nat)) (.int .i64 (l.length : Nat))).run Tryd.prog w = .ok (.slice (some ⟨w.heap.size, 0, none⟩) l.length l.length) (w.alloc (.cells C 9)) := hMK
    have HLEN := Lib.hid hlen
    rw [hzz]
    clear hCs hC0 hMK cell vals ih hg hk h0 hB hb hlen
    go_enter Tryd.func21, Tryd.ntmps21
    go_wp2_with fail
    go_loopw [19] (fun i wr => ∃ (j : Nat) (Cj : Array Value), j ≤ l.length ∧ i = .int .i64 j ∧ Pw w wx B (B + 1) #[.int .i64 k, .int .i64 mn, .int .i64 mx, .int .u64 s0, .int .u64 s1, .int .u64 s2, .int .u64 s3, .slice ao l.length cap] wr Cj ∧ Cj.size = l.length ∧ Hid (∀ q (hq : q < l.length), q < j → Cj[q]? = some (.string (str (patE k l[q]))))) (fun i _ => l.length - (intOf i).toNat)
    case atStart => exact ⟨0, C, by omega, rfl, PW0.out, HCs.out, fun q _ h => absurd h (by omega)⟩
    case round =>
      obtain ⟨j, Cj, hj, rfl, pw, hsz, hp⟩ := hrel
      clear PW0 HCs HC0 MK
      have k0 : wr.cell? ⟨B, 0, none⟩ = some (.int .i64 k) := pw.c 0 _ rfl
      by_cases hlt : j < l.length
      · obtain ⟨a, rfl, _, hab, hcj⟩ := CE.out j hlt
        have goodj := hgood.out j hlt
        obtain ⟨bo', m', c', hv'⟩ := VS.out j hlt
        rw [hv'] at hcj
        have IJ' := IH.out j hlt goodj
        rw [hv'] at IJ'
        have IJ := Lib.hid IJ'
        clear IJ' hv'
        have hlj := good_len goodj
        obtain ⟨u, hu⟩ : ∃ u, Cj[j]? = some u := ⟨Cj[j], by simp [hsz, hlt]⟩
        obtain ⟨E, hE⟩ : ∃ E, patE k l[j] = E := ⟨_, rfl⟩
        have HP2 : Hid (∀ C2 : Array Value, C2 = Cj.setIfInBounds j (.string (str E)) → ∀ q (hq : q < l.length), q < j + 1 → C2[q]? = some (.string (str (patE k l[q])))) := fun C2 h2 q hq hqj => by
          subst h2
          by_cases hqe : q = j
          · subst hqe
            rw [Array.getElem?_setIfInBounds_self, if_pos (by omega), hE]
          · rw [Array.getElem?_setIfInBounds_ne (by omega)]
            exact hp.out q hq (by omega)
        have hji : (j : Int) < (l.length : Int) := by omega
        clear hp
        unfold patE at hE
        generalize l[j] = t at *
        obtain ⟨k', mn', mx', t0, t1, t2, t3, l'⟩ := t
        obtain ⟨r0, r1, r2, r3, r4, r5, r6, r7⟩ := eight hcj hab pw.bw
        obtain ⟨P, hP⟩ : ∃ P, patR (.mk k' mn' mx' t0 t1 t2 t3 l') = P := ⟨_, rfl⟩
        rw [hP] at hE hlj IJ
        have IJ2 : Hid (∀ w', Below w.heap.size w w' → Calls Tryd.prog 21 #[.agg #[.int .i64 k', .int .i64 mn', .int .i64 mx', .int .u64 t0, .int .u64 t1, .int .u64 t2, .int .u64 t3, .slice bo' m' c']] w' fun e w'' => e = .returned (.string (str P)) ∧ Below w'.heap.size w' w'') := IJ.out
        have NK := fun w1 => need_any k k' w1
        rw [show (Rx.mk k' mn' mx' t0 t1 t2 t3 l').kind = k' from rfl] at hE
        have pw1 := pw.below (below_new wr (.cells #[.int .i64 k', .int .i64 mn', .int .i64 mx', .int .u64 t0, .int .u64 t1, .int .u64 t2, .int .u64 t3, .slice bo' m' c'] 26))
        have K1 : Hid (∀ w1, Below (wr.alloc (.cells #[.int .i64 k', .int .i64 mn', .int .i64 mx', .int .u64 t0, .int .u64 t1, .int .u64 t2, .int .u64 t3, .slice bo' m' c'] 26)).heap.size (wr.alloc (.cells #[.int .i64 k', .int .i64 mn', .int .i64 mx', .int .u64 t0, .int .u64 t1, .int .u64 t2, .int .u64 t3, .slice bo' m' c'] 26)) w1 → w1.cell? ⟨wr.heap.size, 0, none⟩ = some (.int .i64 k')) := fun w1 g => by
          refine cell_at (t := 26) (C := #[.int .i64 k', .int .i64 mn', .int .i64 mx', .int .u64 t0, .int .u64 t1, .int .u64 t2, .int .u64 t3, .slice bo' m' c']) ?_ rfl
          rw [g.block _ (by simp)]
          exact heap_alloc_new wr _
        have hTlt := block_lt pw.row
        have sP := str_size P
        have z1 : ¬ 9223372036854775807 < 1 + (str P).size := by omega
        have z2 : ¬ 9223372036854775807 < 1 + (str P).size + 1 := by omega
        clear hcj IJ goodj sP hlj
        cases hnb : needR k k' with
        | true =>
          rw [hnb] at NK
          have NK2 := Lib.hid NK
          have hE2 : E = [40] ++ P ++ [41] := by rw [← hE, hnb]; exact rfl
          have s4 : Hid (str E = ⟨#[40]⟩ ++ str P ++ ⟨#[41]⟩) := by rw [hE2, str_add, str_add]; rfl
          clear NK hnb hE hE2 hP
          go_wp2_with (first
            | (go_at_call 21; (with_reducible refine (IJ2.out _ pw1.bw).mono ?_); rintro e w1 ⟨rfl, k1⟩; have pw2 := pw1.below k1; have n1 := K1.out _ k1; have x1 := pw2.r j _ hu; have pw3 := pw2.put j (.string (str P)); have b3 : (w1.setCell ⟨B + 1, j, none⟩ (.string (str P))).cell? ⟨B, 0, none⟩ = some (.int .i64 k) := pw3.c 0 _ rfl; have t3 : (w1.setCell ⟨B + 1, j, none⟩ (.string (str P))).cell? ⟨B + 1, j, none⟩ = some (.string (str P)) := pw3.r j _ (by rw [Array.getElem?_setIfInBounds_self, if_pos (by omega)]); have n3 : (w1.setCell ⟨B + 1, j, none⟩ (.string (str P))).cell? ⟨wr.heap.size, 0, none⟩ = some (.int .i64 k') := (World.cell?_setCell_other _ _ _ _ (fun e => absurd (congrArg Addr.block e) (by show ¬ B + 1 = wr.heap.size; omega))).trans n1; have g2 := pw2.g; have g3 := pw3.g)
            | (go_at_call 31; (with_reducible refine (NK2.out _).mono ?_); rintro e w' ⟨rfl, rfl⟩))
          have pw4 := pw3.put j (.string (⟨#[40]⟩ ++ str P ++ ⟨#[41]⟩))
          exact ⟨⟨j + 1, _, by omega, by go_num, pw4, by simp [hsz], by rw [Hid]; intro q hq hqj; exact HP2.out _ (by rw [Array.setIfInBounds_setIfInBounds, s4.out]) q hq hqj⟩, by simp [intOf]; omega⟩
        | false =>
          rw [hnb] at NK
          have NK2 := Lib.hid NK
          have hE2 : E = P := by rw [← hE, hnb]; exact rfl
          have s4 : Hid (str E = str P) := by rw [hE2]; exact rfl
          clear NK hnb hE hE2 hP
          go_wp2_with (first
            | (go_at_call 21; (with_reducible refine (IJ2.out _ pw1.bw).mono ?_); rintro e w1 ⟨rfl, k1⟩; have pw2 := pw1.below k1; have n1 := K1.out _ k1; have x1 := pw2.r j _ hu; have pw3 := pw2.put j (.string (str P)); have b3 : (w1.setCell ⟨B + 1, j, none⟩ (.string (str P))).cell? ⟨B, 0, none⟩ = some (.int .i64 k) := pw3.c 0 _ rfl; have t3 : (w1.setCell ⟨B + 1, j, none⟩ (.string (str P))).cell? ⟨B + 1, j, none⟩ = some (.string (str P)) := pw3.r j _ (by rw [Array.getElem?_setIfInBounds_self, if_pos (by omega)]); have n3 : (w1.setCell ⟨B + 1, j, none⟩ (.string (str P))).cell? ⟨wr.heap.size, 0, none⟩ = some (.int .i64 k') := (World.cell?_setCell_other _ _ _ _ (fun e => absurd (congrArg Addr.block e) (by show ¬ B + 1 = wr.heap.size; omega))).trans n1; have g2 := pw2.g; have g3 := pw3.g)
            | (go_at_call 31; (with_reducible refine (NK2.out _).mono ?_); rintro e w' ⟨rfl, rfl⟩))
          have pw4 := pw3
          exact ⟨⟨j + 1, _, by omega, by go_num, pw4, by simp [hsz], by rw [Hid]; intro q hq hqj; exact HP2.out _ (by rw [s4.out]) q hq hqj⟩, by simp [intOf]; omega⟩
      · have hjl : j = l.length := by omega
        subst hjl
        have hC : ∀ q (hq : q < l.length), Cj[q]? = some (.string (str (patE k l[q]))) := fun q hq => hp.out q hq hq
        have JC := fun sep hlen => join_call k l (B + 1) Cj wr pw.row hC sep hlen hn
        have hk := HK.out
        have hlen := HLEN.out
        have hbx := pw.bx
        clear hp hgood IH CE VS HG HK HLEN
        rcases hk with ⟨rfl, _⟩ | rfl | rfl | ⟨rfl, hl1, hat⟩
        · cases ek
        · have hP : patR (.mk 1 mn mx s0 s1 s2 s3 l) = Lib.join (patL 1 l) [] := by rw [patR, if_neg (by decide), if_neg (by decide), if_neg (by decide)]
          rw [hP] at hlen
          have J2 : Hid (Calls Tryd.prog 32 #[.slice (some ⟨B + 1, 0, none⟩) l.length l.length, .string ⟨#[]⟩] wr fun e w' => e = .returned (.string (str (patR (.mk 1 mn mx s0 s1 s2 s3 l)))) ∧ Below wr.heap.size wr w') := by
            have := JC [] (by omega)
            rw [← hP] at this
            exact this
          have BX : Hid (∀ w1, Below wr.heap.size wr w1 → Below B wx w1) := fun w1 g => by rw [← hzz]; exact below_trans hbx g
          clear hP hlen JC hC pw hbx
          go_wp2_with (go_at_call 32; (with_reducible refine (J2.out).mono ?_); rintro e w1 ⟨rfl, g1⟩)
          go_ret
          exact ⟨rfl, BX.out _ g1⟩
        · have hP : patR (.mk 2 mn mx s0 s1 s2 s3 l) = Lib.join (patL 2 l) [124] := by rw [patR, if_neg (by decide), if_pos (by decide)]
          rw [hP] at hlen
          have J2 : Hid (Calls Tryd.prog 32 #[.slice (some ⟨B + 1, 0, none⟩) l.length l.length, .string ⟨#[124]⟩] wr fun e w' => e = .returned (.string (str (patR (.mk 2 mn mx s0 s1 s2 s3 l)))) ∧ Below wr.heap.size wr w') := by
            have := JC [124] (by omega)
            rw [← hP] at this
            exact this
          have BX : Hid (∀ w1, Below wr.heap.size wr w1 → Below B wx w1) := fun w1 g => by rw [← hzz]; exact below_trans hbx g
          clear hP hlen JC hC pw hbx
          go_wp2_with (go_at_call 32; (with_reducible refine (J2.out).mono ?_); rintro e w1 ⟨rfl, g1⟩)
          go_ret
          exact ⟨rfl, BX.out _ g1⟩
        · obtain ⟨x, rfl⟩ := List.length_eq_one_iff.mp hl1
          have hP : patR (.mk 3 mn mx s0 s1 s2 s3 [x]) = patE 3 x ++ signS mn mx := by rw [patR, if_neg (by decide), if_neg (by decide), if_pos (by decide), patL_map]; rfl
          rw [hP, List.length_append] at hlen
          have x0 : wr.cell? ⟨B + 1, 0, none⟩ = some (.string (str (patE 3 x))) := pw.r 0 _ (hC 0 (by simp))
          have x1 : wr.cell? ⟨B, 1, none⟩ = some (.int .i64 mn) := pw.c 1 _ rfl
          have x2 : wr.cell? ⟨B, 2, none⟩ = some (.int .i64 mx) := pw.c 2 _ rfl
          have SG : Hid (∀ w1, Calls Tryd.prog 33 #[.int .i64 mn, .int .i64 mx] w1 fun e w' => e = .returned (.string (str (signS mn mx))) ∧ w' = w1) := fun w1 => (sign_any mn mx w1 hat).mono fun e w' h => ⟨h.1, h.2.symm⟩
          have q1 := str_size (patE 3 x)
          have q2 := str_size (signS mn mx)
          have z1 : ¬ 9223372036854775807 < (str (patE 3 x)).size + (str (signS mn mx)).size := by omega
          have s4 : Hid (str (patR (.mk 3 mn mx s0 s1 s2 s3 [x])) = str (patE 3 x) ++ str (signS mn mx)) := by rw [hP, str_add]; exact rfl
          have BD : Hid (∀ n, Below B wx (wr.drewN n)) := fun n => by rw [← hzz]; exact below_drewN hbx n
          clear hP hlen JC hC pw hbx q1 q2 hl1 hat
          generalize str (patE 3 x) = y1 at *
          generalize str (signS mn mx) = y2 at *
          go_wp2_with fail
          go_quiet ((go_at_call 33; exact Calls.quiet_of_same (SG.out _)))
          go_wp2_with fail
          go_ret
          exact ⟨by rw [s4.out]; rfl, BD.out _⟩
theorem pat_lies {ok : Nat → Prop} {w : World} {v : Value} {l : List Rx} (h : LiesL ok w v l) : ∀ (k mn mx s0 s1 s2 s3 : Int) (hg : goodR (.mk k mn mx s0 s1 s2 s3 l)) (wx : World), Below w.heap.size w wx →
    Calls Tryd.prog 21 #[.agg (cellsX k mn mx s0 s1 s2 s3 v)] wx fun e w'' => e = .returned (.string (str (patR (.mk k mn mx s0 s1 s2 s3 l)))) ∧ Below wx.heap.size wx w'' := by
  induction h with
  | mk ao cap l sl few cell inner ih =>
    intro k mn mx s0 s1 s2 s3 hg wx hb
    refine pat_step ao cap l sl cell (fun i hi => ?_) (fun i hi hgi w' hw' => ?_) k mn mx s0 s1 s2 s3 hg wx hb
    · obtain ⟨bo, c, hv⟩ := (inner i hi).value
      exact ⟨bo, _, c, hv⟩
    · have := ih i hi
      cases hli : l[i] with
      | mk k' mn' mx' t0 t1 t2 t3 l' =>
        rw [hli] at this hgi
        exact this k' mn' mx' t0 t1 t2 t3 hgi w' hw'
/-- the pattern of an expression that lies there -/
theorem pat_any {ok : Nat → Prop} (w : World) (v : Value) (t : Rx) (h : LiesL ok w v t.list) (hg : goodR t) : Calls Tryd.prog 21 #[.agg (t.cells v)] w fun e w' => e = .returned (.string (str (patR t))) ∧ Below w.heap.size w w' := by
  cases t with
  | mk k mn mx s0 s1 s2 s3 l => exact pat_lies h k mn mx s0 s1 s2 s3 hg w (Below.refl _ _)
end Go.Proofs.YthejkelnjimogaaDoor
