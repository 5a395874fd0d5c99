/- What a line does to what was made of the lines so far. Conditions: the library's variables are as they were laid. -/
import Derived.Test.YtmclcobklcjmnaaDoorAdl
import Derived.Deep.RegionLaw
namespace Go.Proofs.YtmclcobklcjmnaaDoor
open Go.RowKit Go.Maps
set_option linter.unusedVariables false
set_option linter.unusedSimpArgs false

theorem infoB5 : (Tryd.prog.info? 5).map (fun i => (i.zero, i.size, i.bytes)) = some (some (.int .u8 0), 1, 1) := by kernel_rfl
theorem trimS_len (l : Bs) : (Lib.trimSuffix l [58]).length ≤ l.length := by
  unfold Lib.trimSuffix
  split
  · rw [List.length_take]; omega
  · exact Nat.le_refl _
set_option maxRecDepth 100000 in
set_option maxHeartbeats 4000000 in
theorem add_any (n0 p mb : Nat) (S : St) (s : ByteArray) (hs : s.size ≤ 100000) (num : Int) (w : World) (hL : LaidV w) (h : Asm n0 p mb S w) (hok : S.ok) (hn : S.count < 100000) (hw : S.ways.length < 100000) :
    Calls Tryd.prog 23 #[.pointer (some ⟨p, 0, none⟩), .string s, .int .i64 num] w (AsmPost n0 p mb (addP S s.data.toList num) w) := by
  have hbase : n0 ≤ w.heap.size := Nat.le_trans h.base (Nat.le_of_lt h.lt)
  have hO : Hid (∀ w1, Below w.heap.size w w1 → Oth n0 p mb w w1) := Lib.hid fun w1 hb => Oth.of_below hb hbase
  cases hl : s.data.toList with
  | nil =>
    obtain rfl : s = ByteArray.empty := by rw [← str_toList s, hl]; rfl
    have hpost : Hid (AsmPost n0 p mb (addP S [] num) w (.returned (.int .i64 0)) w) := Lib.hid ⟨⟨rfl, h⟩, Oth.refl _ _ _ _⟩
    have e1 : ByteArray.empty.toList = [] := by rw [ByteArray.toList_eq]; rfl
    clear hl hL h hok hn hw hs
    go_enter Tryd.func23, Tryd.ntmps23
    go_wp2
    go_ret
    exact hpost.out
  | cons x0 l0 =>
    have e1 : s.toList.isEmpty = false := by rw [ByteArray.toList_eq, hl]; rfl
    have e2 : ¬ s.toList = [] := by rw [ByteArray.toList_eq, hl]; simp
    rw [← hl]
    have hne : s.data.toList ≠ [] := by rw [hl]; simp
    clear hl
    have KC := Lib.hid (fun w => Tryd.strings_CutSuffix s ⟨#[58]⟩ w (by omega))
    rw [show (⟨#[58]⟩ : ByteArray).data.toList = [58] from rfl] at KC
    cases hsuf : Lib.hasSuffix s.data.toList [58] with
    | true =>
      have hT : addP S s.data.toList num = nameP S (Lib.trimSuffix s.data.toList [58]) := by unfold addP; rw [if_neg hne, if_pos hsuf]
      rw [hT]
      rw [hsuf] at KC
      obtain ⟨t, ht⟩ : ∃ t, t = Lib.trimSuffix s.data.toList [58] := ⟨_, rfl⟩
      rw [← ht] at KC ⊢
      have KC2 : Hid (∀ w, Calls Tryd.prog 45 #[.string s, .string ⟨#[58]⟩] w fun e w' => e = .returned (.tuple #[.string (str t), .bool true]) ∧ w' = w) := Lib.hid fun w => KC.out w
      have KN : Hid (Calls Tryd.prog 46 #[.pointer (some ⟨p, 0, none⟩), .string (str t)] w (AsmPost n0 p mb (nameP S t) w)) := Lib.hid (by
        have := name_any n0 p mb S (str t) (by
          rw [str_list, str_size]
          cases hq : labB t with
          | true => exact .inl (Nat.le_trans (labB_len hq) (by decide))
          | false => exact .inr rfl) w h hok hn
        rwa [str_list] at this)
      clear KC hT hsuf hL h hok hn hw hs hne ht
      generalize nameP S t = R at *
      go_enter Tryd.func23, Tryd.ntmps23
      cases R with
      | inl c =>
        go_wp2_with (first
          | (go_at_call 45; (with_reducible refine (KC2.out _).mono ?_); rintro e w1 ⟨rfl, rfl⟩)
          | (go_at_call 46; (with_reducible refine KN.out.mono ?_); rintro e w2 hp; obtain ⟨rfl, -⟩ := id hp; have HP := Lib.hid hp; clear hp))
        go_ret
        exact HP.out
      | inr S2 =>
        go_wp2_with (first
          | (go_at_call 45; (with_reducible refine (KC2.out _).mono ?_); rintro e w1 ⟨rfl, rfl⟩)
          | (go_at_call 46; (with_reducible refine KN.out.mono ?_); rintro e w2 hp; obtain ⟨⟨rfl, -⟩, -⟩ := id hp; have HP := Lib.hid hp; clear hp))
        go_ret
        exact HP.out
    | false =>
      rw [hsuf] at KC
      obtain ⟨t, ht⟩ : ∃ t, t = Lib.trimSuffix s.data.toList [58] := ⟨_, rfl⟩
      rw [← ht] at KC
      have KC2 : Hid (∀ w, Calls Tryd.prog 45 #[.string s, .string ⟨#[58]⟩] w fun e w' => e = .returned (.tuple #[.string (str t), .bool false]) ∧ w' = w) := Lib.hid fun w => KC.out w
      have KB := Lib.hid (bof_any s (by omega) w hL)
      have hA : Hid (∀ w1, Below w.heap.size w w1 → Asm n0 p mb S w1) := Lib.hid fun w1 hb => h.of_below hb
      cases hb : bofP s.data.toList with
      | none =>
        have hT : addP S s.data.toList num = .inl 92 := by unfold addP; rw [if_neg hne, if_neg (by rw [hsuf]; simp), hb]
        rw [hT]
        rw [hb] at KB
        clear KC hT hsuf hL h hok hn hw hs hne ht hb
        generalize str t = ts at *
        go_enter Tryd.func23, Tryd.ntmps23
        go_wp2_with (first
          | (go_at_call 45; (with_reducible refine (KC2.out _).mono ?_); rintro e w1 ⟨rfl, rfl⟩)
          | (go_at_call 47; (with_reducible refine KB.out.mono ?_); rintro e w2 ⟨⟨b, lb, rfl, -⟩, hb⟩; dsimp only [Option.isSome]; have HB := Lib.hid hb; clear hb))
        go_ret
        exact ⟨rfl, hO.out _ HB.out⟩
      | some x =>
        obtain ⟨b, lb⟩ := x
        obtain ⟨hb4, hlb⟩ := bof_len hb
        rw [hb] at KB
        obtain ⟨R, hR⟩ : ∃ R, R = addP S s.data.toList num := ⟨_, rfl⟩
        have hT : R = if 4096 < S.prog.length + b.length then .inl 94 else .inr { S with prog := S.prog ++ b, ways := if lb = [] then S.ways else S.ways ++ [⟨num, S.prog.length, lb⟩] } := by rw [hR]; unfold addP; rw [if_neg hne, if_neg (by rw [hsuf]; simp), hb]
        rw [← hR]
        have HK := Lib.hid (And.intro hb4 (And.intro hlb (And.intro hok (And.intro hw hT))))
        clear KC hT hsuf hL h hok hn hw hs hne ht hb hR hb4 hlb
        generalize str t = ts at *
        obtain ⟨tb, htb⟩ : ∃ tb, tb = str b := ⟨_, rfl⟩
        obtain ⟨tl, htl⟩ : ∃ tl, tl = str lb := ⟨_, rfl⟩
        have htb4 : tb.size = 4 := by rw [htb, str_size]; exact HK.out.1
        have HT := Lib.hid (And.intro htb htl)
        clear htb htl
        go_enter Tryd.func23, Tryd.ntmps23
        go_upto_region 9 with (first
          | (go_at_call 45; (with_reducible refine (KC2.out _).mono ?_); rintro e w1 ⟨rfl, rfl⟩)
          | (go_at_call 47; (with_reducible refine KB.out.mono ?_); rintro e w2 ⟨⟨b1, lb1, rfl, hj⟩, hb⟩; obtain ⟨e1, e2⟩ := hj _ rfl; rw [← HT.out.1] at e1; rw [← HT.out.2] at e2; subst e1 e2; dsimp only [Option.isSome]; have HB := Lib.hid hb; clear hb hj))
        obtain ⟨hb4, hlb, hok, hways, hT⟩ := HK.out
        have hAA := hA.out _ HB.out
        have hli : (S.prog.length : Int) ≤ 4096 := by have := hok.2; omega
        by_cases hgt : 4096 < S.prog.length + 4
        · rw [hb4, if_pos hgt] at hT
          obtain ⟨vp, vw, hc, ho1, ho2⟩ := hAA.cells
          obtain ⟨ao, cap, rfl⟩ := own_slice ho1
          have c0 : w2.cell? ⟨p, 0, none⟩ = some (.slice ao S.prog.length cap) := cell_of_row _ p 0 _ _ _ hc
          have hpost : Hid (AsmPost n0 p mb R w1 (.returned (.int .i64 94)) w2) := Lib.hid (by rw [hT]; exact ⟨rfl, hO.out _ HB.out⟩)
          have hgi : (4096 : Int) < (S.prog.length : Int) + 4 := by omega
          clear hb4 hlb hok hways hT hAA hgt hc ho1 ho2
          go_wp2
          go_ret
          exact hpost.out
        · rw [hb4, if_neg hgt] at hT
          have hgi : ¬ (4096 : Int) < (S.prog.length : Int) + 4 := by omega
          have hlen : S.prog.length ≤ 4096 := hok.2
          by_cases hlbe : lb = []
          · rw [if_pos hlbe] at hT
            obtain rfl : lb1 = ByteArray.empty := by rw [HT.out.2, hlbe]; rfl
            have e9 : ByteArray.empty.toList = [] := by rw [ByteArray.toList_eq]; rfl
            have HTT := Lib.hid hT
            clear hb4 hlb hok hways hT hgt hlbe
            obtain ⟨vp, vw, hc, ho1, ho2⟩ := (hAA).cells
            obtain ⟨i0, hi, hz0, hz1, hz2⟩ := info_parts infoB5
            obtain ⟨v', w', hr, hown, hg, -⟩ := Lib.run_append_own_string (P := Tryd.prog) (w := w2) n0 37 9 37 5 i0 Tryd.underlying37 Tryd.underlying9 hi hz0 hz1 hz2 vp S.prog.length _ ho1 b1 (by unfold maxLen; omega) (by omega) (Nat.le_trans (hAA).base (Nat.le_of_lt (hAA).lt))
            rw [htb4] at hown
            have hown2 : w'.ownsRow n0 5 1 v' (S.prog.length + b.length) (Lib.byteCells S.prog ++ Lib.byteCells b) := by
              have e1 : b.length = 4 := HK.out.1
              have e2 : Lib.strCells b1 = Lib.byteCells b := by rw [HT.out.1, Lib.strCells_eq, str_list]
              rw [e1, ← e2]; exact hown
            have hfin := Lib.hid (Asm.addProg (hAA) hc ho2 ho1 hown2 hg)
            have hc' : w'.heap[p]? = some (.cells #[vp, .map (some mb), vw] 48) := by rw [hg.block p (block_lt hc) (own_ne ho1 hc (by intro c fz e; cases e)).symm]; exact hc
            obtain ⟨ao, cap, rfl⟩ := own_slice ho1
            obtain ⟨ao2, cap2, rfl⟩ := own_slice hown
            have c0 : (w2).cell? ⟨p, 0, none⟩ = some (.slice ao S.prog.length cap) := cell_of_row _ p 0 _ _ _ hc
            have d0 : w'.cell? ⟨p, 0, none⟩ = some (.slice ao S.prog.length cap) := cell_of_row w' p 0 _ _ _ hc'
            have f0 : w'.frozen? ⟨p, 0, none⟩ = false := by simp [World.frozen?, hc']
            clear hc ho1 ho2 hi hz0 hz1 hz2 hown hown2 hg hc' hAA
            go_wp2_with (at_builtin; refine Lib.wpList_append_run _ rfl _ _ 37 9 rfl _ _ rfl rfl _ w' hr ?_)
            go_ret
            rw [HTT.out]
            exact ⟨⟨rfl, hfin.out.1⟩, (hO.out _ HB.out).trans hfin.out.2⟩
          · rw [if_neg hlbe] at hT
            have e3 : lb1.toList.isEmpty = false := by rw [ByteArray.toList_eq, HT.out.2, str_list]; cases lb with | nil => exact absurd rfl hlbe | cons _ _ => rfl
            have e4 : ¬ lb1.toList = [] := by rw [ByteArray.toList_eq, HT.out.2, str_list]; exact hlbe
            have HTT := Lib.hid hT
            obtain ⟨vp, vw, hc, ho1, ho2⟩ := hAA.cells
            obtain ⟨i0, hi, hz0, hz1, hz2⟩ := info_parts infoWay
            have hnb : n0 ≤ w2.heap.size := Nat.le_trans hAA.base (Nat.le_of_lt hAA.lt)
            obtain ⟨W2, hW2⟩ : ∃ W2, W2 = (w2.alloc (.cells #[.int .i64 num, .int .i64 (S.prog.length : Int), .string lb1] 55)).drew := ⟨_, rfl⟩
            have hbel : Below w2.heap.size w2 W2 := by rw [hW2]; exact ((Below.refl _ w2).alloc (Nat.le_refl _) _).drew
            have hA2 := hAA.of_below hbel
            have hc2 : W2.heap[p]? = some (.cells #[vp, .map (some mb), vw] 48) := (hbel.block p (block_lt hc)).trans hc
            have g2 : w2.grownBy W2 none := ⟨hbel.os, hbel.tape, hbel.output, hbel.size, fun i hi _ => hbel.block i hi⟩
            have ho1' : W2.ownsRow n0 5 1 vp S.prog.length (Lib.byteCells S.prog) := ho1.kept g2 (by cases vp.ownBlock <;> simp)
            have ho2' : W2.ownsRow n0 55 3 vw S.ways.length (waysV S.ways) := ho2.kept g2 (by cases vw.ownBlock <;> simp)
            have hx : W2.heap[w2.heap.size]? = some (.cells #[.int .i64 num, .int .i64 (S.prog.length : Int), .string lb1] 55) := by rw [hW2]; exact heap_alloc_last w2 _
            obtain ⟨v', w', hr, hown, hg, -, -⟩ := run_append_own_at (P := Tryd.prog) (w := W2) n0 46 46 55 i0 _ 3 32 Tryd.underlying46 hi hz0 hz1 hz2 rfl (by decide) vw S.ways.length _ ho2' ⟨w2.heap.size, 0, none⟩ 1 1 [.int .i64 num, .int .i64 (S.prog.length : Int), .string lb1] rfl (fun j u hj => by
              rw [show (⟨w2.heap.size, 0, none⟩ : Addr).add j = ⟨w2.heap.size, j, none⟩ by simp [Addr.add]; intro h; exact h.symm]
              rw [cell_of_row W2 _ j _ _ _ hx]
              simpa using hj) (by intro u hu; simp at hu; rcases hu with rfl | rfl | rfl <;> rfl) (by unfold maxLen; omega) (by omega) (Nat.le_trans hnb hbel.size)
            have hown2 : w'.ownsRow n0 55 3 v' (S.ways.length + 1) (waysV S.ways ++ wayV ⟨num, S.prog.length, lb⟩) := by
              rw [show wayV ⟨num, S.prog.length, lb⟩ = [.int .i64 num, .int .i64 (S.prog.length : Int), .string lb1] from by rw [HT.out.2]; rfl]
              exact hown
            obtain ⟨hAw, hOw⟩ := Asm.addWay hA2 hc2 ho2' ho1' hown2 hg
            have hc' : w'.heap[p]? = some (.cells #[vp, .map (some mb), vw] 48) := by rw [hg.block p (block_lt hc2) (own_ne ho2' hc2 (by intro c fz e; cases e)).symm]; exact hc2
            obtain ⟨ao1, cap1, rfl⟩ := own_slice ho1
            obtain ⟨ao, cap, rfl⟩ := own_slice ho2
            obtain ⟨ao2, cap2, rfl⟩ := own_slice hown
            have c0 : Hid (w2.drew.cell? ⟨p, 0, none⟩ = some (.slice ao1 S.prog.length cap1) ∧ W2.cell? ⟨p, 0, none⟩ = some (.slice ao1 S.prog.length cap1) ∧ w'.cell? ⟨p, 0, none⟩ = some (.slice ao1 S.prog.length cap1) ∧ (w'.setCell ⟨p, 2, none⟩ (.slice ao2 (S.ways.length + 1) cap2)).cell? ⟨p, 0, none⟩ = some (.slice ao1 S.prog.length cap1)) := Lib.hid ⟨cell_of_row (w2.drew) p 0 _ _ _ hc, cell_of_row _ p 0 _ _ _ hc2, cell_of_row _ p 0 _ _ _ hc', cell_of_row _ p 0 _ _ _ (set1 hc' _)⟩
            have c0w : w2.cell? ⟨p, 0, none⟩ = some (.slice ao1 S.prog.length cap1) := cell_of_row w2 p 0 _ _ _ hc
            have c2 : w2.drew.cell? ⟨p, 2, none⟩ = some (.slice ao S.ways.length cap) := cell_of_row (w2.drew) p 2 _ _ _ hc
            have c2' : w2.cell? ⟨p, 2, none⟩ = some (.slice ao S.ways.length cap) := cell_of_row w2 p 2 _ _ _ hc
            have c2'' : W2.cell? ⟨p, 2, none⟩ = some (.slice ao S.ways.length cap) := cell_of_row W2 p 2 _ _ _ hc2
            have d2 : w'.cell? ⟨p, 2, none⟩ = some (.slice ao S.ways.length cap) := cell_of_row w' p 2 _ _ _ hc'
            have f2 : w'.frozen? ⟨p, 2, none⟩ = false := by simp [World.frozen?, hc']
            have HW := Lib.hid (And.intro hAw (And.intro hOw (And.intro hbel hlen)))
            have HR := Lib.hid hr
            have HW2 := Lib.hid hW2
            clear hb4 hlb hok hways hT hgt hlbe hAA hc ho1 ho2 hi hz0 hz1 hz2 hnb hbel hA2 hc2 g2 ho1' ho2' hx hown hown2 hg hAw hOw hc' hr hlen
            go_wp2
            rw [HW2.out] at HR c2''
            clear hW2
            obtain ⟨g1, g2, g3, -⟩ := c0.out
            rw [HW2.out] at g2
            go_region_law ((refine step_append_run (by rfl) _ _ 46 (by rfl) _ _ _ w' (by rfl) (by rfl) HR.out ?_))
            all_goals
              obtain ⟨W3, hW3⟩ : ∃ W3, W3 = w'.setCell ⟨p, 2, none⟩ (.slice ao2 (S.ways.length + 1) cap2) := ⟨_, rfl⟩
              rw [← hW3]
              have hA3 : Asm n0 p mb { S with ways := S.ways ++ [⟨num, S.prog.length, lb⟩] } W3 := by rw [hW3]; exact HW.out.1
              have hO3 : Oth n0 p mb w1 W3 := by rw [hW3]; exact (hO.out _ HB.out).trans ((Oth.of_below HW.out.2.2.1 (Nat.le_trans hbase HB.out.size)).trans HW.out.2.1)
              have hAA := hA3
              have hO4 := Lib.hid hO3
              clear hO3 c2 c2' c2'' d2 f2 c0w HR hW3 g1 g2 g3
              obtain ⟨vp, vw, hc, ho1, ho2⟩ := (hA3).cells
              obtain ⟨i0, hi, hz0, hz1, hz2⟩ := info_parts infoB5
              obtain ⟨v', w', hr, hown, hg, -⟩ := Lib.run_append_own_string (P := Tryd.prog) (w := W3) n0 37 9 37 5 i0 Tryd.underlying37 Tryd.underlying9 hi hz0 hz1 hz2 vp S.prog.length _ ho1 b1 (by unfold maxLen; omega) (by omega) (Nat.le_trans (hA3).base (Nat.le_of_lt (hA3).lt))
              rw [htb4] at hown
              have hown2 : w'.ownsRow n0 5 1 v' (S.prog.length + b.length) (Lib.byteCells S.prog ++ Lib.byteCells b) := by
                have e1 : b.length = 4 := HK.out.1
                have e2 : Lib.strCells b1 = Lib.byteCells b := by rw [HT.out.1, Lib.strCells_eq, str_list]
                rw [e1, ← e2]; exact hown
              have hfin := Lib.hid (Asm.addProg (hA3) hc ho2 ho1 hown2 hg)
              have hc' : w'.heap[p]? = some (.cells #[vp, .map (some mb), vw] 48) := by rw [hg.block p (block_lt hc) (own_ne ho1 hc (by intro c fz e; cases e)).symm]; exact hc
              obtain ⟨ao, cap, rfl⟩ := own_slice ho1
              obtain ⟨ao2, cap2, rfl⟩ := own_slice hown
              have c0 : (W3).cell? ⟨p, 0, none⟩ = some (.slice ao S.prog.length cap) := cell_of_row _ p 0 _ _ _ hc
              have d0 : w'.cell? ⟨p, 0, none⟩ = some (.slice ao S.prog.length cap) := cell_of_row w' p 0 _ _ _ hc'
              have f0 : w'.frozen? ⟨p, 0, none⟩ = false := by simp [World.frozen?, hc']
              clear hc ho1 ho2 hi hz0 hz1 hz2 hown hown2 hg hc' hAA
              go_wp2_with (at_builtin; refine Lib.wpList_append_run _ rfl _ _ 37 9 rfl _ _ rfl rfl _ w' hr ?_)
              go_ret
              rw [HTT.out]
              exact ⟨⟨rfl, hfin.out.1⟩, hO4.out.trans hfin.out.2⟩
end Go.Proofs.YtmclcobklcjmnaaDoor
