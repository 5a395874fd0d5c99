/- The number of an instruction that hangs on a label is put in. Conditions: the instruction is within the program. -/
import Derived.Test.YtmclcobklcjmnaaDoorAdd
import Derived.Test.YtmclcobklcjmnaaDoorSpl
namespace Go.Proofs.YtmclcobklcjmnaaDoor
open Go.RowKit Go.Maps
set_option linter.unusedVariables false
set_option linter.unusedSimpArgs false

def ledI (S : St) (x : Way) (v : Int) : In := { decV ((S.prog.drop x.place).take 4) with imm := (v - ((x.place : Int) + 4)).tdiv 4 }
def leadP (S : St) (x : Way) : Int ⊕ St := match S.labels x.label with
  | none => .inl 93
  | some v => if okI (ledI S x v) = true then .inr { S with prog := S.prog.take x.place ++ encI (ledI S x v) ++ S.prog.drop (x.place + 4) } else .inl 93
def wayA (x : Way) : Value := .agg #[.int .i64 x.line, .int .i64 (x.place : Int), .string (str x.label)]
theorem four_cells {V U w3 : World} (hb : Below U.heap.size U w3) (hU : U.heap = (V.alloc (.cells #[.int .i64 0, .int .i64 0, .int .i64 0, .int .i64 0] 30)).heap) : w3.cell? ⟨V.heap.size, 0, none⟩ = some (.int .i64 0) ∧ w3.cell? ⟨V.heap.size, 1, none⟩ = some (.int .i64 0) ∧ w3.cell? ⟨V.heap.size, 2, none⟩ = some (.int .i64 0) ∧ w3.cell? ⟨V.heap.size, 3, none⟩ = some (.int .i64 0) ∧ w3.heap[V.heap.size]? = some (.cells #[.int .i64 0, .int .i64 0, .int .i64 0, .int .i64 0] 30) ∧ ∀ i, w3.frozen? ⟨V.heap.size, i, none⟩ = false := by
  have h : w3.heap[V.heap.size]? = some (.cells #[.int .i64 0, .int .i64 0, .int .i64 0, .int .i64 0] 30) := (hb.block V.heap.size (by rw [hU]; simp)).trans (by rw [hU]; exact heap_alloc_last V _)
  exact ⟨by simp [World.cell?, h], by simp [World.cell?, h], by simp [World.cell?, h], by simp [World.cell?, h], h, fun i => by simp [World.frozen?, h]⟩
set_option maxRecDepth 100000 in
set_option maxHeartbeats 4000000 in
theorem led_any (n0 p mb : Nat) (S : St) (x : Way) (hx : x.place + 4 ≤ S.prog.length) (hxl : x.label.length ≤ 12) (w : World) (h : Asm n0 p mb S w) (hok : S.ok) : Calls Tryd.prog 25 #[.pointer (some ⟨p, 0, none⟩), wayA x] w (AsmPost5 n0 p mb (leadP S x) w) := by
  have hbase : n0 ≤ w.heap.size := Nat.le_trans h.base (Nat.le_of_lt h.lt)
  have hO : Hid (∀ w1, Below w.heap.size w w1 → Oth5 n0 w w1) := Lib.hid fun w1 hb => Oth5.of_below hb hbase
  have hA : Hid (∀ w1, Below w.heap.size w w1 → Asm n0 p mb S w1) := Lib.hid fun w1 hb => h.of_below hb
  have hwf : ∀ l v, S.labels l = some v → (Lit.int IntKind.i64 v).wf = true := fun l v hlv => WalkArith.wf_i64 (by have := hok.1 l v hlv; omega)
  obtain ⟨W, hW⟩ : ∃ W, W = w.alloc (.cells #[.int .i64 x.line, .int .i64 (x.place : Int), .string (str x.label)] 55) := ⟨_, rfl⟩
  have hbW : Below w.heap.size w W := by rw [hW]; exact (Below.refl _ w).alloc (Nat.le_refl _) _
  obtain ⟨-, -, ⟨vp, vw, hc, ho1, ho2⟩, hm⟩ := hA.out _ hbW
  obtain ⟨ao, cap, rfl⟩ := own_slice ho1
  have hbx : W.heap[w.heap.size]? = some (.cells #[.int .i64 x.line, .int .i64 (x.place : Int), .string (str x.label)] 55) := by rw [hW]; exact heap_alloc_last w _
  have c0 : W.cell? ⟨p, 0, none⟩ = some (.slice ao S.prog.length cap) := cell_of_row W p 0 _ _ _ hc
  have c1 : W.cell? ⟨p, 1, none⟩ = some (.map (some mb)) := cell_of_row W p 1 _ _ _ hc
  have b0 : W.cell? ⟨w.heap.size, 0, none⟩ = some (.int .i64 x.line) := cell_of_row W _ 0 _ _ _ hbx
  have b1 : W.cell? ⟨w.heap.size, 1, none⟩ = some (.int .i64 (x.place : Int)) := cell_of_row W _ 1 _ _ _ hbx
  have b2 : W.cell? ⟨w.heap.size, 2, none⟩ = some (.string (str x.label)) := cell_of_row W _ 2 _ _ _ hbx
  have lk : ∀ n, (Instr.lookup 45 (.map (some mb)) (.string (str x.label)) true).run Tryd.prog (W.drewN n) = .ok (.tuple #[.int .i64 ((S.labels x.label).getD 0), .bool (S.labels x.label).isSome]) (W.drewN n) := fun n => by
    have := (hm.of_heap (w' := W.drewN n) rfl).look (str x.label) (by rw [str_size]; omega) hwf
    rwa [str_list] at this
  unfold wayA
  unfold leadP
  cases hM : S.labels x.label with
  | none =>
    rw [hM] at lk
    dsimp only [Option.isSome, Option.getD] at lk
    have lk0 := lk 0
    have HB := Lib.hid hbW
    rw [show W.drewN 0 = W from World.drewN_zero W] at lk0
    clear hc ho1 ho2 hm hbx hbW hwf hok hM h hbase
    have HW := Lib.hid hW
    go_enter Tryd.func25, Tryd.ntmps25
    go_wp2
    rw [← hW]
    clear hW
    go_quiet (fail)
    go_wp2
    go_ret
    exact ⟨rfl, hO.out _ (below_drewN HB.out _)⟩
  | some v =>
    rw [hM] at lk
    dsimp only [Option.isSome, Option.getD] at lk
    have lk0 := lk 0
    rw [show W.drewN 0 = W from World.drewN_zero W] at lk0
    obtain ⟨g, cur, rfl, hgb, hgc⟩ : ∃ g cur, ao = some ⟨g, 0, none⟩ ∧ n0 ≤ g ∧ W.heap[g]? = some (.cells cur 5 (0, 0)) := by
      rcases ho1.2 with ⟨e, h0⟩ | ⟨g, cap', cur, e, hb, hg, _⟩
      · omega
      · injection e with e1 e2 e3; exact ⟨g, cur, e1, hb, hg⟩
    have hcells : ∀ j (hj : j < S.prog.length), W.cell? ⟨g, j, none⟩ = some (.int .u8 ((S.prog[j]).toNat : Int)) := fun j hj => by
      have := ho1.cells (g := g) rfl j (.int .u8 ((S.prog[j]).toNat : Int)) (by simp [Lib.byteCells, hj])
      rwa [show (⟨g, 0, none⟩ : Addr).add j = ⟨g, j, none⟩ by simp [Addr.add]; intro h; exact h.symm] at this
    obtain ⟨q, hq⟩ : ∃ q, q = (S.prog.drop x.place).take 4 := ⟨_, rfl⟩
    have hq4 : q.length = 4 := by rw [hq, List.length_take, List.length_drop]; omega
    have hcv : ∀ w', Below W.heap.size W w' → ∀ cp, (convert 37 9 (.slice (some ⟨g, x.place, none⟩) 4 cp)).run Tryd.prog w' = .ok (.string (str q)) w' := fun w' hb cp => by
      have := run_convert_bytes_back (P := Tryd.prog) w' 37 9 5 ⟨g, x.place, none⟩ cp q Tryd.underlying37 Tryd.underlying5 Tryd.underlying9 (fun j hj => by
        rw [show (⟨g, x.place, none⟩ : Addr).add j = ⟨g, x.place + j, none⟩ by simp [Addr.add]]
        rw [hb.cell (p := ⟨g, x.place + j, none⟩) (block_lt hgc), hcells (x.place + j) (by omega)]
        congr 4
        simp [hq])
      rw [hq4] at this
      exact this
    have HF : Hid (∀ w5, Below W.heap.size W w5 → ∀ bs : Bs, bs.length = 4 → ∃ v6 w6, (Builtin.copy_ #[37, 9] 3 #[.slice (some ⟨g, x.place, none⟩) (S.prog.length - x.place) (cap - x.place), .string (str bs)]).run Tryd.prog w5 = .ok v6 w6 ∧
        Asm n0 p mb { S with prog := S.prog.take x.place ++ bs ++ S.prog.drop (x.place + 4) } w6 ∧ Oth5 n0 w w6) := Lib.hid fun w5 hb5 bs hbs => by
      have g5 : W.grownBy w5 none := ⟨hb5.os, hb5.tape, hb5.output, hb5.size, fun i hi _ => hb5.block i hi⟩
      have c5 := (hb5.block p (block_lt hc)).trans hc
      have o5 := ho1.kept g5 (.inr (by simp [Value.ownBlock]))
      have q5 := ho2.kept g5 (by cases vw.ownBlock <;> simp)
      have r5 := (hb5.block g (block_lt hgc)).trans hgc
      have hb6 : Below w.heap.size w w5 := hbW.trans (hb5.mono hbW.size)
      have a5 := hA.out _ hb6
      obtain ⟨i0, hi, hz0, hz1, hz2⟩ := info_parts infoB5
      have hsz : S.prog.length ≤ cur.size := by
        rcases ho1.2 with ⟨e, h0⟩ | ⟨g', cap', cur', e, hb, hg', h9, h8, h7, h6⟩
        · cases e
        · injection e with e1 e2 e3
          injection e1 with e4
          injection e4 with e5
          subst e5 e3
          rw [hgc] at hg'
          injection hg' with hg'
          injection hg' with e6
          subst e6
          omega
      have hs4 : (str bs).size = 4 := by rw [str_size]; exact hbs
      have hr := Lib.run_copy_row_string (P := Tryd.prog) w5 37 9 3 5 g x.place (S.prog.length - x.place) (cap - x.place) (str bs) cur 5 Tryd.underlying37 (by rw [hi]; simp [hz1]) r5 (by omega) (by omega)
      have hsp := a5.splice c5 o5 q5 r5 x.place bs (by omega)
      rw [hbs] at hsp
      rw [hs4, str_list] at hr
      exact ⟨_, _, hr, hsp.1, (hO.out _ hb6).trans hsp.2⟩
    have KD : Hid (∀ w, Calls Tryd.prog 18 #[.string (str q)] w fun e w' => e = .returned (.tuple #[inV (decV q), .int .i64 (decE q)]) ∧ Below w.heap.size w w') := Lib.hid fun w => by
      have := dec_any (str q) w
      rwa [str_list] at this
    obtain ⟨i0, hi0⟩ : ∃ i, i = decV q := ⟨_, rfl⟩
    rw [← hi0] at KD
    generalize decE q = ec at *
    obtain ⟨R, hR⟩ : ∃ R, R = (if okI (ledI S x v) = true then .inr { S with prog := S.prog.take x.place ++ encI (ledI S x v) ++ S.prog.drop (x.place + 4) } else .inl 93 : Int ⊕ St) := ⟨_, rfl⟩
    dsimp only
    rw [← hR]
    have hI : ledI S x v = { i0 with imm := (v - ((x.place : Int) + 4)).tdiv 4 } := by unfold ledI; rw [hi0, hq]
    rw [hI] at hR
    have hvb := hok.1 _ _ hM
    have hpl := hok.2
    obtain ⟨op, a, b, imm⟩ := i0
    unfold inV at KD
    dsimp only at KD hR
    have HX := Lib.hid (And.intro hx (And.intro hbW (And.intro hc (And.intro ho1 (And.intro ho2 (And.intro hm (And.intro hgb (And.intro hgc (And.intro hR (And.intro hvb (And.intro hpl h)))))))))))
    have HCV := Lib.hid hcv
    have n1 : (x.place : Int) + 4 ≤ (S.prog.length : Int) := by omega
    have n2 : (S.prog.length : Int) ≤ 4096 := by omega
    have n3 : S.prog.length ≤ cap := by
      rcases ho1.2 with ⟨e, h0⟩ | ⟨g, cap', cur, e, hb, hg, h9, _⟩
      · omega
      · injection e with e1 e2 e3; omega
    have n4 : (x.place : Int) + 4 ≤ (cap : Int) := by omega
    clear hc ho1 ho2 hm hbx hbW hwf hok hM h hbase hgb hgc hcells hq hq4 hcv hi0 hR hI hvb hpl hx hxl
    go_enter Tryd.func25, Tryd.ntmps25
    go_wp2
    rw [← hW]
    have HW := Lib.hid hW
    clear hW
    go_quiet (fail)
    go_wp2
    obtain ⟨V, hV⟩ : ∃ V, V = W.drewN nq := ⟨_, rfl⟩
    rw [← hV]
    have HVb : Hid (Below W.heap.size W V) := Lib.hid (by rw [hV]; exact below_drewN (Below.refl _ W) nq)
    have e0 : V.cell? ⟨p, 0, none⟩ = some (.slice (some ⟨g, 0, none⟩) S.prog.length cap) := by rw [hV]; exact c0
    have e1 : V.cell? ⟨w.heap.size, 1, none⟩ = some (.int .i64 (x.place : Int)) := by rw [hV]; exact b1
    clear c0 c1 b0 b1 b2 lk0 lk
    have HS : Hid (∀ w', Below V.heap.size V w' → w'.cell? ⟨p, 0, none⟩ = some (.slice (some ⟨g, 0, none⟩) S.prog.length cap) ∧ w'.cell? ⟨w.heap.size, 1, none⟩ = some (.int .i64 (x.place : Int)) ∧ (convert 37 9 (.slice (some ⟨g, x.place, none⟩) 4 (cap - x.place))).run Tryd.prog w' = .ok (.string (str q)) w') := Lib.hid fun w' hb => ⟨cell_below e0 hb, cell_below e1 hb, HCV.out _ (HVb.out.trans (hb.mono (by rw [hV]; exact Nat.le_refl _))) _⟩
    clear hV
    have m6 : ¬ cap = x.place := by omega
    have m1 : (0 : Int) ≤ (x.place : Int) := by omega
    have m2 : (x.place : Int) ≤ (x.place : Int) + 4 := by omega
    have m3 : (0 : Int) ≤ (x.place : Int) + 4 := by omega
    have m4 : ((x.place : Int) + 4).toNat = x.place + 4 := by omega
    have m5 : x.place + 4 - x.place = 4 := by omega
    go_region_held3 (fun w' => w'.cell? ⟨p, 0, none⟩ = some (.slice (some ⟨g, 0, none⟩) S.prog.length cap) ∧ w'.cell? ⟨w.heap.size, 1, none⟩ = some (.int .i64 (x.place : Int)) ∧ (convert 37 9 (.slice (some ⟨g, x.place, none⟩) 4 (cap - x.place))).run Tryd.prog w' = .ok (.string (str q)) w')
      (first
        | exact HS.out _ (Below.refl _ _)
        | exact HS.out _ (Below.refl _ _).drew
        | exact HS.out _ HB3.out
        | exact HS.out _ ((Below.refl _ V).alloc (Nat.le_refl _) _)
        | exact HS.out _ ((Below.refl _ V).alloc (Nat.le_refl _) _).drew
        | exact HS.out _ (HB3.out.alloc HB3.out.size _)
        | exact HS.out _ (HB3.out.alloc HB3.out.size _).drew
        | exact HS.out _ ((((HB3.out.setCell (Nat.le_refl _) _).setCell (Nat.le_refl _) _).setCell (Nat.le_refl _) _).setCell (Nat.le_refl _) _))
      (first
        | (go_at_call 18; (with_reducible refine (KD.out _).mono ?_); rintro e w3 ⟨rfl, hb3⟩; have HB3 : Hid (Below V.heap.size V w3) := Lib.hid (by first
            | exact hb3
            | exact (Below.refl _ V).drew.trans hb3
            | exact (((Below.refl _ V).alloc (Nat.le_refl _) _).drew.trans (hb3.mono (by simp)))
            | exact (((Below.refl _ V).alloc (Nat.le_refl _) _).trans (hb3.mono (by simp)))); first | (have hz := four_cells (V := V) hb3 rfl; obtain ⟨z0, z1, z2, z3, zh, zf⟩ := hz; have zf0 := zf 0; have zf1 := zf 1; have zf2 := zf 2; have zf3 := zf 3; clear zf) | skip))
    all_goals
      first
        | (obtain ⟨X, hX⟩ : ∃ X, X = w3.heap.size := ⟨_, rfl⟩
           obtain ⟨U, hU⟩ : ∃ U, U = w3.alloc (.cells #[.int .i64 op, .int .i64 a, .int .i64 b, .int .i64 imm] 30) := ⟨_, rfl⟩
           rw [← hU, ← hX]
           have hbU : Below V.heap.size V U := by rw [hU]; exact HB3.out.alloc HB3.out.size _
           have hxU : U.heap[X]? = some (.cells #[.int .i64 op, .int .i64 a, .int .i64 b, .int .i64 imm] 30) := by rw [hU, hX]; exact heap_alloc_last w3 _
           have hge : V.heap.size ≤ X := by rw [hX]; exact HB3.out.size
           clear hU hX)
        | (obtain ⟨X, hX⟩ : ∃ X, X = V.heap.size := ⟨_, rfl⟩
           obtain ⟨U, hU⟩ : ∃ U, U = (((w3.setCell ⟨V.heap.size, 0, none⟩ (.int .i64 op)).setCell ⟨V.heap.size, 1, none⟩ (.int .i64 a)).setCell ⟨V.heap.size, 2, none⟩ (.int .i64 b)).setCell ⟨V.heap.size, 3, none⟩ (.int .i64 imm) := ⟨_, rfl⟩
           rw [← hU, ← hX]
           have hbU : Below V.heap.size V U := by rw [hU]; exact ((((HB3.out.setCell (Nat.le_refl _) _).setCell (Nat.le_refl _) _).setCell (Nat.le_refl _) _).setCell (Nat.le_refl _) _)
           have hxU : U.heap[X]? = some (.cells #[.int .i64 op, .int .i64 a, .int .i64 b, .int .i64 imm] 30) := by rw [hU, hX]; exact set4 zh _ _ _ _
           have hge : V.heap.size ≤ X := by rw [hX]; exact Nat.le_refl _
           clear hU hX z0 z1 z2 z3 zh zf0 zf1 zf2 zf3)
    all_goals
      clear hb3
      clear m1 m2 m3 m4 m5 m6
      obtain ⟨D, hD⟩ : ∃ D, D = (v - ((x.place : Int) + 4)).tdiv 4 := ⟨_, rfl⟩
      have x0 : U.cell? ⟨X, 0, none⟩ = some (.int .i64 op) := cell_of_row U X 0 _ _ _ hxU
      have x1 : U.cell? ⟨X, 1, none⟩ = some (.int .i64 a) := cell_of_row U X 1 _ _ _ hxU
      have x2 : U.cell? ⟨X, 2, none⟩ = some (.int .i64 b) := cell_of_row U X 2 _ _ _ hxU
      have x3 : U.cell? ⟨X, 3, none⟩ = some (.int .i64 imm) := cell_of_row U X 3 _ _ _ hxU
      have xf : U.frozen? ⟨X, 3, none⟩ = false := by simp [World.frozen?, hxU]
      have hv0 : 0 ≤ v := HX.out.2.2.2.2.2.2.2.2.2.1.1
      have hv1 : v ≤ 4096 := HX.out.2.2.2.2.2.2.2.2.2.1.2
      have hxP : 0 ≤ (x.place : Int) := Int.natCast_nonneg _
      have hlenI : (x.place : Int) ≤ (S.prog.length : Int) := by omega
      have m6 : ¬ cap = x.place := by omega
      have hle0 : (S.prog.length : Int) ≤ (cap : Int) := by omega
      obtain ⟨I, hI⟩ : ∃ I : In, I = ⟨op, a, b, (v - ((x.place : Int) + 4)).tdiv 4⟩ := ⟨_, rfl⟩
      have HR : Hid (R = if okI I = true then .inr { S with prog := S.prog.take x.place ++ encI I ++ S.prog.drop (x.place + 4) } else .inl 93) := Lib.hid (by rw [hI]; exact HX.out.2.2.2.2.2.2.2.2.1)
      have KE : Hid (∀ w, Calls Tryd.prog 15 #[.agg #[.int .i64 op, .int .i64 a, .int .i64 b, .int .i64 ((v - ((x.place : Int) + 4)).tdiv 4)]] w fun e w' => e = .returned (.tuple #[.string (str (encS I)), .int .i64 (ckE I)]) ∧ Below w.heap.size w w') := Lib.hid fun w => by
        have := enc_any I w
        rw [hI] at this ⊢
        exact this
      have hbW5 : Hid (∀ w5, Below (U.setCell ⟨X, 3, none⟩ (.int .i64 ((v - ((x.place : Int) + 4)).tdiv 4))).heap.size (U.setCell ⟨X, 3, none⟩ (.int .i64 ((v - ((x.place : Int) + 4)).tdiv 4))) w5 → Below V.heap.size V w5) := Lib.hid fun w5 h5 => (hbU.setCell (p := ⟨X, 3, none⟩) hge _).trans (h5.mono (hbU.setCell (p := ⟨X, 3, none⟩) hge (.int .i64 ((v - ((x.place : Int) + 4)).tdiv 4))).size)
      have hbWV : Hid (∀ w5, Below V.heap.size V w5 → Below W.heap.size W w5) := Lib.hid fun w5 h5 => HVb.out.trans (h5.mono HVb.out.size)
      clear hI hD D hbU hge
      by_cases hk : okI I = true
      · have hec : ckE I = 0 := by unfold ckE; rw [if_pos hk]
        have hes : encS I = encI I := by unfold encS; rw [if_pos hk]
        rw [hec, hes] at KE
        have HRR : Hid (R = .inr { S with prog := S.prog.take x.place ++ encI I ++ S.prog.drop (x.place + 4) }) := Lib.hid (by rw [HR.out, if_pos hk])
        have hl4 : (encI I).length = 4 := enc_len I
        generalize encI I = bs at *
        clear HR hec hes hk
        have HL := Lib.hid hl4
        clear hl4
        go_wp2_with (go_at_call 15; (with_reducible refine (KE.out _).mono ?_); rintro e w5 ⟨rfl, hb5⟩; have HB5 := Lib.hid (hbW5.out _ hb5); clear hb5)
        have HB6 : Hid (Below V.heap.size V w5.drew) := Lib.hid HB5.out.drew
        have y0 := cell_below e0 HB6.out
        have y1 := cell_below e1 HB6.out
        obtain ⟨v6, w6, hr, hA6, hO6⟩ := HF.out _ (hbWV.out _ HB6.out) bs HL.out
        have HRC := Lib.hid hr
        have HA6 := Lib.hid hA6
        have HO6 := Lib.hid hO6
        clear hr hA6 hO6 e0 e1 x0 x1 x2 x3 xf hxU
        go_region_law ((refine step_copy_run (by rfl) _ _ 37 9 (by rfl) _ _ v6 w6 (by rfl) (by rfl) HRC.out ?_))
        all_goals
          go_wp2
          go_ret
          rw [HRR.out]
          exact ⟨⟨rfl, HA6.out⟩, HO6.out⟩
      · have hec : ckE I = 90 := by unfold ckE; rw [if_neg hk]
        rw [hec] at KE
        have HRR : Hid (R = .inl 93) := Lib.hid (by rw [HR.out, if_neg hk])
        clear HR hec hk
        go_wp2_with (go_at_call 15; (with_reducible refine (KE.out _).mono ?_); rintro e w5 ⟨rfl, hb5⟩; have HB5 := Lib.hid (hbW5.out _ hb5); clear hb5)
        go_ret
        rw [HRR.out]
        exact ⟨rfl, hO.out _ (HX.out.2.1.trans ((hbWV.out _ HB5.out).mono HX.out.2.1.size))⟩
end Go.Proofs.YtmclcobklcjmnaaDoor
