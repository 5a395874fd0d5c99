/- A listing has a line for each instruction, and its lines in any order are the program in that order. Conditions: texts and lists that a machine holds. -/
import Derived.Test.YtmclcobklcjmnaaDoorLabs
import Derived.Test.YtmclcobklcjmnaaDoorWtn
namespace Go.Proofs.YtmclcobklcjmnaaDoor
open Go.RowKit Go.Maps
set_option linter.unusedVariables false
set_option linter.unusedSimpArgs false

def rowW (q : Bs) : Bs := linS q ++ [10]
theorem lis_rows (l : Bs) : lisP l = ((wordsB l).map rowW).flatten := by
  rw [lis_lines, List.flatMap_def, List.map_map]
  rfl
theorem words_len : ∀ (l : Bs), (wordsB l).length = l.length / 4
  | b0 :: b1 :: b2 :: b3 :: r => by
    unfold wordsB
    rw [List.length_cons, words_len r]
    simp only [List.length_cons]
    omega
  | [] => rfl
  | [_] => by simp [wordsB]
  | [_, _] => by simp [wordsB]
  | [_, _, _] => by simp [wordsB]
theorem words_at : ∀ (l : Bs) (k : Nat) (h : k < (wordsB l).length), (l.drop (4 * k)).take 4 = (wordsB l)[k]
  | b0 :: b1 :: b2 :: b3 :: r, 0, h => rfl
  | b0 :: b1 :: b2 :: b3 :: r, k + 1, h => by
    have h' : k < (wordsB r).length := by simpa [wordsB] using h
    have := words_at r k h'
    rw [show 4 * (k + 1) = 4 * k + 4 from by omega]
    simpa [wordsB] using this
  | [], k, h => by simp [wordsB] at h
  | [_], k, h => by simp [wordsB] at h
  | [_, _], k, h => by simp [wordsB] at h
  | [_, _, _], k, h => by simp [wordsB] at h
/-- where the k-th begins -/
def offB (rs : List Bs) (k : Nat) : Nat := ((rs.take k).flatten).length
theorem off_succ (rs : List Bs) {k : Nat} (h : k < rs.length) : offB rs (k + 1) = offB rs k + rs[k].length := by
  unfold offB
  rw [List.take_succ_eq_append_getElem h, List.flatten_append, List.length_append]
  simp
theorem flat_split (rs : List Bs) {k : Nat} (h : k < rs.length) : rs.flatten = (rs.take k).flatten ++ (rs[k] ++ (rs.drop (k + 1)).flatten) := by
  have : rs.flatten = (rs.take k).flatten ++ (rs.drop k).flatten := by rw [← List.flatten_append, List.take_append_drop]
  rw [this, List.drop_eq_getElem_cons h, List.flatten_cons]
theorem off_end (rs : List Bs) {k : Nat} (h : rs.length ≤ k) : offB rs k = rs.flatten.length := by
  unfold offB
  rw [List.take_of_length_le h]
theorem off_in (rs : List Bs) {k : Nat} (h : k < rs.length) : offB rs k + rs[k].length ≤ rs.flatten.length := by
  rw [flat_split rs h]
  simp only [offB, List.length_append]
  omega
theorem flat_at (rs : List Bs) {k j : Nat} (h : k < rs.length) (hj : j < rs[k].length) : rs.flatten[offB rs k + j]? = some rs[k][j] := by
  rw [flat_split rs h, List.getElem?_append_right (by unfold offB; omega)]
  rw [show offB rs k + j - (rs.take k).flatten.length = j from by unfold offB; omega, List.getElem?_append_left hj, List.getElem?_eq_getElem hj]
theorem flat_cut (rs : List Bs) {k : Nat} (h : k < rs.length) : (rs.flatten.drop (offB rs k)).take rs[k].length = rs[k] := by
  rw [flat_split rs h]
  unfold offB
  rw [List.drop_left, List.take_left]
theorem row_len {q : Bs} (h : q.length = 4) : (rowW q).length ≤ 29 := by
  have := lin_short q h
  unfold rowW
  rw [List.length_append]
  simp
  omega
/-- the word that a number names -/
def pickW (wd : List Bs) (x : Int) : Option Bs := if 0 ≤ x then wd[x.toNat]? else none
def choW (wd : List Bs) (o : List Int) (j : Nat) : List Bs := (o.take j).filterMap (pickW wd)
theorem cho_yes {wd : List Bs} {o : List Int} {j : Nat} (h : j < o.length) (h0 : 0 ≤ o[j]) (h1 : o[j].toNat < wd.length) : choW wd o (j + 1) = choW wd o j ++ [wd[o[j].toNat]] := by
  unfold choW
  rw [List.take_succ_eq_append_getElem h, List.filterMap_append]
  simp [pickW, h0, h1]
theorem cho_no {wd : List Bs} {o : List Int} {j : Nat} (h : j < o.length) (hn : ¬ (0 ≤ o[j] ∧ o[j].toNat < wd.length)) : choW wd o (j + 1) = choW wd o j := by
  unfold choW
  rw [List.take_succ_eq_append_getElem h, List.filterMap_append]
  have : pickW wd o[j] = none := by
    unfold pickW
    split
    · rename_i h0
      exact List.getElem?_eq_none (by omega)
    · rfl
  simp [this]
theorem cho_len (wd : List Bs) (o : List Int) (j : Nat) : (choW wd o j).length ≤ j := by
  have := List.length_filterMap_le (pickW wd) (o.take j)
  have h2 := List.length_take_le j o
  unfold choW
  omega
theorem cho_mem {wd : List Bs} {o : List Int} {j : Nat} : ∀ q ∈ choW wd o j, q ∈ wd := by
  intro q hq
  obtain ⟨x, _, hx⟩ := List.mem_filterMap.1 hq
  unfold pickW at hx
  split at hx
  · exact List.mem_of_getElem? hx
  · cases hx
theorem flat_four : ∀ (qs : List Bs), (∀ q ∈ qs, q.length = 4) → qs.flatten.length = 4 * qs.length
  | [], _ => rfl
  | q :: r, h => by
    have h1 := flat_four r (fun x hx => h x (by simp [hx]))
    have h2 := h q (by simp)
    rw [List.flatten_cons, List.length_append, List.length_cons]
    omega
theorem flat_rows : ∀ (qs : List Bs), (∀ q ∈ qs, q.length = 4) → ((qs.map rowW).flatten).length ≤ 29 * qs.length
  | [], _ => by simp
  | q :: r, h => by
    have h1 := flat_rows r (fun x hx => h x (by simp [hx]))
    have h2 := row_len (h q (by simp))
    rw [List.map_cons, List.flatten_cons, List.length_append, List.length_cons]
    omega
/-- THE LINES OF WORDS, ONE BEHIND THE OTHER, ARE ASSEMBLED TO THE WORDS. -/
theorem asmR_rows (qs : List Bs) (h : ∀ q ∈ qs, q.length = 4) (hn : qs.length ≤ 1000) : asmR ((qs.map rowW).flatten) = (qs.flatten, 0, 0) := by
  have h1 := flat_rows qs h
  have hj := lines_join (qs.map linS) [] (fun a ha => by
    obtain ⟨q, hq, rfl⟩ := List.mem_map.1 ha
    exact fun hc => (lin_plain q 10 hc).1 rfl)
  have e : (qs.map rowW).flatten = (qs.map linS).flatMap (fun a => a ++ [10]) ++ [] := by
    rw [List.append_nil, List.flatMap_def, List.map_map]
    rfl
  unfold asmR
  rw [if_neg (by omega), e, hj, show linesB [] = [] from rfl, List.append_nil]
  unfold asmP
  rw [adds_lin qs newSt 0 h (by simp [newSt]; omega)]
  simp [newSt, leadsP]
theorem lis_four (q : Bs) (h : q.length = 4) : lisS q = rowW q ∧ lisE q.length = 0 := by
  unfold lisS lisE
  rw [if_neg (by omega), if_pos (by omega), if_neg (by omega), if_pos (by omega)]
  match q, h with
  | [a, b, c, d], _ => exact ⟨by simp [lisP, rowW], rfl⟩
theorem infoB9 : (Tryd.prog.info? 9).map (fun i => (i.zero, i.size, i.bytes)) = some (some (.string ByteArray.empty), 1, 16) := by kernel_rfl
def strV (rs : List Bs) : List Value := rs.map fun r => .string (str r)
theorem wp_append_run2 {P : Program} {o : Oper} {a : Act} {w : World} {K : Act → World → Prop} {Q : Exit → Act → World → Prop} (s x : Operand) (t u : TypeId)
    (ho : o.op = .call { callee := .builtin .append, args := #[s, x], argTypes := #[t, u] }) (v sx v' : Value) (w' : World) (hs : a.eval s = v) (hx : a.eval x = sx)
    (hr : (Builtin.append_ #[t, u] o.type #[v, sx]).run P w = .ok v' w') (h : K (a.put o.dst v') w') : o.wp P a w K Q := by
  unfold Oper.wp execOp
  simp only [ho, resolve, invoke, builtin, Sem.run_bind, Sem.run_pure, Result.andThen_ok, List.map_toArray, List.map_cons, List.map_nil, hs, hx, hr]
  exact h
theorem step_append_run2 {P : Program} {ops : Array Oper} {o : Oper} {a : Act} {w : World} {K : Act → World → Prop} {Q : Exit → Act → World → Prop} {E : Prop} (hgd : o.guard = none) (s x : Operand) (t u : TypeId)
    (ho : o.op = .call { callee := .builtin .append, args := #[s, x], argTypes := #[t, u] }) (v sx v' : Value) (w' : World) (hs : a.eval s = v) (hx : a.eval x = sx)
    (hr : (Builtin.append_ #[t, u] o.type #[v, sx]).run P w = .ok v' w') (h : K (a.put o.dst v') w') :
    if Region.wanted o (yielded ops a.tmps) = true then Oper.wp P o a w K Q else E := by
  have hw : Region.wanted o (yielded ops a.tmps) = true := by simp [Region.wanted, hgd]
  rw [if_pos hw]
  exact wp_append_run2 s x t u ho v sx v' w' hs hx hr h
/-- a text put behind texts -/
theorem push_str {n0 : Nat} {v : Value} {rs : List Bs} {w : World} (h : w.ownsRow n0 9 1 v rs.length (strV rs)) (X : Nat) (r : Bs) (hx : w.heap[X]? = some (.cells #[.string (str r)] 9)) (hlen : rs.length ≤ 1000000) (hn : n0 ≤ w.heap.size) :
    ∃ v' w', (Builtin.append_ #[43, 43] 43 #[v, .slice (some ⟨X, 0, none⟩) 1 1]).run Tryd.prog w = .ok v' w' ∧ w'.ownsRow n0 9 1 v' (rs ++ [r]).length (strV (rs ++ [r])) ∧ w.grownBy w' v.ownBlock := by
  obtain ⟨i0, hi, hz0, hz1, hz2⟩ := info_parts infoB9
  obtain ⟨v', w', hr, hown, hg, -, -⟩ := run_append_own_at (P := Tryd.prog) (w := w) n0 43 43 9 i0 _ 1 16 Tryd.underlying43 hi hz0 hz1 hz2 rfl (by decide) v rs.length _ h ⟨X, 0, none⟩ 1 1 [.string (str r)] rfl (fun j u hj => by
    rw [show (⟨X, 0, none⟩ : Addr).add j = ⟨X, j, none⟩ by simp [Addr.add]; intro h; exact h.symm]
    rw [cell_of_row w X j _ _ _ hx]
    simpa using hj) (by intro u hu; simp at hu; subst hu; rfl) (by unfold maxLen; omega) (by omega) hn
  refine ⟨v', w', hr, ?_, hg⟩
  rw [List.length_append, show strV (rs ++ [r]) = strV rs ++ [.string (str r)] from by simp [strV]]
  exact hown
/-- bytes put behind bytes: where they lie then -/
theorem app_at {n0 : Nat} {v : Value} {l : Bs} {w : World} (h : w.ownsRow n0 5 1 v l.length (Lib.byteCells l)) (b : ByteArray) (hlen : l.length + b.size ≤ 1000000) (hn : n0 ≤ w.heap.size) :
    ∃ v' w', (Builtin.append_ #[37, 9] 37 #[v, .string b]).run Tryd.prog w = .ok v' w' ∧ w'.ownsRow n0 5 1 v' (l ++ b.data.toList).length (Lib.byteCells (l ++ b.data.toList)) ∧ w.grownBy w' v.ownBlock ∧ (v'.ownBlock = v.ownBlock ∨ v'.ownBlock = some w.heap.size) := by
  obtain ⟨i0, hi, hz0, hz1, hz2⟩ := info_parts infoB5
  obtain ⟨v', w', hr, hown, hg, hnil⟩ := Lib.run_append_own_string (P := Tryd.prog) (w := w) n0 37 9 37 5 i0 Tryd.underlying37 Tryd.underlying9 hi hz0 hz1 hz2 v l.length _ h b (by unfold maxLen; omega) (by omega) hn
  refine ⟨v', w', hr, ?_, hg, ?_⟩
  · rw [List.length_append, Lib.byteCells_append, Array.length_toList]
    exact hown
  · have hR := h
    rcases h.2 with ⟨rfl, h0⟩ | ⟨g, cap, cur, rfl, hbg, hgg, hnc, hcm, hcs, htake⟩
    · by_cases hm : b.size = 0
      · rw [hnil.2 ⟨rfl, hm⟩]; exact .inl rfl
      · have hr2 := run_append_nil_string (P := Tryd.prog) w 37 9 37 5 i0 (.int .u8 0) Tryd.underlying37 Tryd.underlying9 hi hz0 b (by omega) (by omega) (by rw [hz2]; omega)
        have e := hr.symm.trans hr2
        injection e with e1 e2
        rw [e1]
        exact .inr rfl
    · by_cases hroom : l.length + b.size ≤ cap
      · have hr2 := Lib.run_append_room_string (P := Tryd.prog) w 37 9 37 5 i0 Tryd.underlying37 Tryd.underlying9 hi hz1 g l.length cap cur hgg b hroom (by omega)
        have e := hr.symm.trans hr2
        injection e with e1 e2
        rw [e1]
        exact .inl rfl
      · have hr2 := Lib.run_append_grow_string (P := Tryd.prog) w 37 9 37 5 i0 (.int .u8 0) Tryd.underlying37 Tryd.underlying9 hi hz0 ⟨g, 0, none⟩ l.length cap (Lib.byteCells l) (by rw [hz1]; simpa using hR.1) (hR.cells (g := g) rfl) b (by omega) (by omega) (by rw [hz2]; exact growslice_fits (by omega) (by omega))
        have e := hr.symm.trans hr2
        injection e with e1 e2
        rw [e1]
        exact .inr rfl
end Go.Proofs.YtmclcobklcjmnaaDoor

namespace Go.Proofs.YtmclcobklcjmnaaDoor
open Go.RowKit Go.Maps
set_option linter.unusedVariables false
set_option linter.unusedSimpArgs false

set_option maxRecDepth 20000 in
set_option maxHeartbeats 4000000 in
theorem lines_law (p : ByteArray) (v : Value) (o : List Int) (hs : p.size ≤ 140737488351232) (w : World) (hv : IntV w v o) (hL : LaidV w) : Calls Tryd.prog 9 #[.string p, v] w fun e w' => e = .returned (.bool true) ∧ Below w.heap.size w w' := by
  obtain ⟨ao, cap, rfl, hcap, hol, -⟩ := id hv
  obtain ⟨B0, hB0⟩ : ∃ B0, B0 = w.heap.size := ⟨_, rfl⟩
  have hpl : p.data.toList.length = p.size := Array.length_toList
  have HL : Hid (∀ W, Below B0 w W → LaidV W) := Lib.hid fun W hW => hL.below (by rw [← hB0]; exact hW)
  have KF : Hid (∀ W, LaidV W → Calls Tryd.prog 12 #[] W fun e w' => e = .returned (.bool true) ∧ Below W.heap.size W w') := Lib.hid fun W hW => fixed_any W hW
  have KLi := Lib.hid (fun (q : ByteArray) W hW => list_any q W hW)
  have H0 : Hid (Below B0 w w) := Lib.hid (Below.refl _ _)
  have HV := Lib.hid (And.intro hv hB0)
  clear hL hv
  by_cases hbig : 4096 < p.size
  · have hbI : (4096 : Int) < (p.size : Int) := by omega
    have KA := KLi.out p
    unfold lisS lisE at KA
    rw [if_pos hbig, hpl, if_pos hbig] at KA
    have KB := Lib.hid KA
    clear KA KLi
    have es : str [] = ByteArray.mk #[] := rfl
    rw [es] at KB
    go_enter Tryd.func9, Tryd.ntmps9
    go_wp2_with (fail)
    refine (KB.out _ (HL.out _ H0.out)).mono ?_
    rintro e w1 ⟨rfl, hb1⟩
    have H1 : Hid (Below B0 w w1 ∧ B0 ≤ w1.heap.size) := Lib.hid ⟨by rw [HV.out.2]; exact hb1, by rw [HV.out.2]; exact hb1.size⟩
    clear hb1
    go_wp2_with (fail)
    refine (KF.out _ (HL.out _ H1.out.1)).mono ?_
    rintro e w2 ⟨rfl, hb2⟩
    have H2 : Hid (Below B0 w w2) := Lib.hid (H1.out.1.trans (hb2.mono H1.out.2))
    clear hb2
    go_wp2
    go_ret
    exact ⟨rfl, by rw [← HV.out.2]; exact H2.out⟩
  · by_cases h4 : p.size % 4 = 0
    · have hbI : ¬ (4096 : Int) < (p.size : Int) := by omega
      obtain ⟨wd, hwd⟩ : ∃ wd, wd = wordsB p.data.toList := ⟨_, rfl⟩
      have hn : wd.length = p.size / 4 := by rw [hwd, words_len, hpl]
      have h4w : ∀ q ∈ wd, q.length = 4 := by rw [hwd]; exact words_four _
      obtain ⟨rs, hrs⟩ : ∃ rs, rs = wd.map rowW := ⟨_, rfl⟩
      have hrl : rs.length = wd.length := by rw [hrs, List.length_map]
      obtain ⟨T, hT⟩ : ∃ T, T = str rs.flatten := ⟨_, rfl⟩
      have hTl : T.data.toList = rs.flatten := by rw [hT, str_list]
      have hTs : T.size = rs.flatten.length := by rw [hT, str_size]
      have hTb : T.size ≤ 29 * wd.length := by rw [hTs, hrs]; exact flat_rows wd h4w
      have KA := KLi.out p
      unfold lisS lisE at KA
      rw [hpl, if_neg hbig, if_neg hbig, if_pos h4, if_pos h4, lis_rows, ← hwd, ← hrs, ← hT] at KA
      have KB := Lib.hid KA
      have HW := Lib.hid (And.intro hwd (And.intro h4w (And.intro hrs (And.intro hTl (And.intro hTs hpl)))))
      clear KA hwd h4w hT hTl hpl hrs hTs
      go_enter Tryd.func9, Tryd.ntmps9
      go_wp2_with (fail)
      refine (KB.out _ (HL.out _ H0.out)).mono ?_
      rintro e w1 ⟨rfl, hb1⟩
      have H1 : Hid (Below B0 w w1 ∧ B0 ≤ w1.heap.size) := Lib.hid ⟨by rw [HV.out.2]; exact hb1, by rw [HV.out.2]; exact hb1.size⟩
      clear hb1
      go_wp2_with (fail)
      refine (KF.out _ (HL.out _ H1.out.1)).mono ?_
      rintro e w2 ⟨rfl, hb2⟩
      have H2 : Hid (Below B0 w w2 ∧ B0 ≤ w2.heap.size) := Lib.hid ⟨H1.out.1.trans (hb2.mono H1.out.2), Nat.le_trans H1.out.2 hb2.size⟩
      clear hb2
      go_wp2
      obtain ⟨X, hX⟩ : ∃ X, X = w2.heap.size := ⟨_, rfl⟩
      obtain ⟨w3, hw3⟩ : ∃ w3, w3 = w2.alloc (.cells #[] 9) := ⟨_, rfl⟩
      have hown0 : w3.ownsRow B0 9 1 (.slice (some ⟨X, 0, none⟩) 0 0) (rs.take 0).length (strV (rs.take 0)) :=
        ⟨rfl, .inr ⟨X, 0, #[], rfl, by rw [hX]; exact H2.out.2, by rw [hw3, hX]; exact World.alloc_heap_new w2 _, Nat.le_refl _, Nat.zero_le _, rfl, rfl⟩⟩
      have hbel0 : Below B0 w w3 := by rw [hw3]; exact H2.out.1.alloc H2.out.2 _
      have HS := Lib.hid (And.intro hown0 hbel0)
      clear hown0 hbel0
      rw [← hw3, ← hX]
      clear hw3 hX hB0
      go_loopw [7, 8, 9] (fun a7 a8 a9 wr => ∃ k j i f : Nat, i = offB rs k + j ∧ f = offB rs k ∧ k ≤ rs.length ∧ (∀ h : k < rs.length, j < rs[k].length) ∧ (k = rs.length → j = 0) ∧ a8 = .int .i64 (f : Int) ∧ a9 = .int .i64 (i : Int) ∧ wr.ownsRow B0 9 1 a7 (rs.take k).length (strV (rs.take k)) ∧ Below B0 w wr) (fun _ _ a9 _ => T.size - (intOf a9).toNat)
      case atStart =>
        refine ⟨0, 0, 0, 0, rfl, rfl, Nat.zero_le _, fun h => ?_, fun _ => rfl, rfl, rfl, HS.out⟩
        have : ∀ q : Bs, 0 < (rowW q).length := fun q => by simp [rowW]
        have e : rs[0] = rowW (wd[0]'(by omega)) := by simp [HW.out.2.2.1]
        rw [e]
        exact this _
      case round =>
        obtain ⟨k, j, i, f, hi, hf, hk, hj, hj0, rfl, rfl, hown, hbel⟩ := hrel
        have hTs := HW.out.2.2.2.2.1
        have hw0 : B0 ≤ w.heap.size := by have := HV.out.2; omega
        have hsz : B0 ≤ wr.heap.size := Nat.le_trans hw0 hbel.size
        by_cases hiT : i < T.size
        · have hk' : k < rs.length := by
            rcases Nat.lt_or_ge k rs.length with h | h
            · exact h
            · have h1 := hj0 (by omega)
              have h2 := off_end rs h
              omega
          have hjk := hj hk'
          have hin := off_in rs hk'
          have hat := flat_at rs hk' hjk
          have hcut := flat_cut rs hk'
          have hsu := off_succ rs hk'
          have hlt : i < T.data.toList.length := by rw [HW.out.2.2.2.1]; omega
          have hTi : T[i] = rs[k][j] := by
            have e1 : T.data.toList[i]? = some rs[k][j] := by rw [HW.out.2.2.2.1, hi]; exact hat
            rw [List.getElem?_eq_getElem hlt] at e1
            have := Option.some.inj e1
            simpa [ByteArray.getElem_eq_getElem_data] using this
          have hrow : rs[k] = linS (wd[k]'(by omega)) ++ [10] := by simp [HW.out.2.2.1, rowW]
          have hiI : (i : Int) < (T.size : Int) := by omega
          have hi0 : (0 : Int) ≤ (i : Int) := by omega
          have q1 : IntKind.i64.wrap ((i : Int) + 1) = (i : Int) + 1 := IntWalk.i64_in _ (by omega)
          by_cases hlast : j + 1 < rs[k].length
          · have hjl : j < (linS (wd[k]'(by omega))).length := by rw [hrow] at hlast; simp at hlast; omega
            have hne : rs[k][j] ≠ 10 := by
              have : rs[k][j] ∈ linS (wd[k]'(by omega)) := by
                simp only [hrow]
                rw [List.getElem_append_left hjl]
                exact List.getElem_mem _
              exact (lin_plain _ _ this).1
            have hx : ((T[i].toNat : Int) == 10) = false := by
              rw [hTi]
              have : ¬ rs[k][j].toNat = 10 := fun e => hne (UInt8.toNat_inj.1 (by rw [e]; rfl))
              simp; omega
            have HN := Lib.hid (And.intro hown (And.intro hbel (And.intro hi (And.intro hf hTs))))
            clear hown hbel hat hcut hrow hTi hne hin hi hf hTs
            go_wp2
            go_roundw
            case rel => exact ⟨k, j + 1, i + 1, f, by have := HN.out.2.2.1; omega, HN.out.2.2.2.1, hk, fun _ => hlast, fun e => absurd e (by omega), rfl, by first | rfl | (exact congrArg (Value.int .i64) (by omega)), HN.out.1, HN.out.2.1⟩
            case measure => simp [intOf]; omega
          · have hjl : j = (linS (wd[k]'(by omega))).length := by
              have e : rs[k].length = (linS (wd[k]'(by omega))).length + 1 := by rw [hrow]; simp
              omega
            have hx : ((T[i].toNat : Int) == 10) = true := by
              rw [hTi]
              have : rs[k][j] = 10 := by
                simp only [hrow]
                rw [List.getElem_append_right (by omega)]
                simp [hjl]
              rw [this]; rfl
            obtain ⟨r, hr0⟩ : ∃ r, r = str rs[k] := ⟨_, rfl⟩
            have hE : T.extract f (i + 1) = r := by
              rw [ext_mid, HW.out.2.2.2.1, hf, show i + 1 - offB rs k = rs[k].length from by omega, hcut, hr0]
            have bf : (f : Int) ≤ (i : Int) + 1 := by omega
            have bf0 : (0 : Int) ≤ (f : Int) := by omega
            have bT : (i : Int) + 1 ≤ (T.size : Int) := by omega
            have bt : ((i : Int) + 1).toNat = i + 1 := by omega
            obtain ⟨w5, hw5⟩ : ∃ w5, w5 = wr.alloc (.cells #[.string r] 9) := ⟨_, rfl⟩
            have hb5 : Below wr.heap.size wr w5 := by rw [hw5]; exact (Below.refl _ wr).alloc (Nat.le_refl _) _
            have hg5 : wr.grownBy w5 none := ⟨hb5.os, hb5.tape, hb5.output, hb5.size, fun i hi _ => hb5.block i hi⟩
            have hown5 := hown.kept hg5 (by cases u7.ownBlock <;> simp)
            have hbel5 : Below B0 w w5 := hbel.trans (hb5.mono hsz)
            obtain ⟨v', w6, hr, hown', hg⟩ := push_str hown5 wr.heap.size rs[k] (by rw [hw5, ← hr0]; exact World.alloc_heap_new wr _) (by rw [List.length_take]; omega) (Nat.le_trans hsz hb5.size)
            rw [← List.take_succ_eq_append_getElem hk'] at hown'
            have hbel6 := hbel5.grown hg (Nat.le_trans hsz hb5.size) (fun k e => (hown5.lt k e).1)
            have hu : f + (rs[k]).length = i + 1 := by omega
            have HN := Lib.hid (And.intro hown' (And.intro hbel6 (And.intro hi (And.intro hf (And.intro hTs (And.intro hsu hu))))))
            rw [hw5] at hr
            clear hown hbel hat hcut hrow hTi hin hi hf hTs hjl hr0 hw5 hb5 hg5 hown5 hbel5 hown' hg hbel6 hsu hu
            go_wp2_with (at_builtin; refine Lib.wpList_append_run _ rfl _ _ 43 43 rfl _ _ rfl rfl _ w6 hr ?_)
            go_roundw
            case rel =>
              refine ⟨k + 1, 0, i + 1, i + 1, by have h1 := HN.out.2.2.2.2.2.1; have h2 := HN.out.2.2.2.2.2.2; have h3 := HN.out.2.2.2.1; omega, by have h1 := HN.out.2.2.2.2.2.1; have h2 := HN.out.2.2.2.2.2.2; have h3 := HN.out.2.2.2.1; omega, hk', fun h => ?_, fun _ => rfl, by first | rfl | (exact congrArg (Value.int .i64) (by omega)), by first | rfl | (exact congrArg (Value.int .i64) (by omega)), HN.out.1, HN.out.2.1⟩
              have e : rs[k + 1] = rowW (wd[k + 1]'(by omega)) := by simp [HW.out.2.2.1]
              rw [e]
              simp [rowW]
            case measure => simp [intOf]; omega
        · obtain ⟨rfl, rfl, rfl, hfe⟩ : k = rs.length ∧ j = 0 ∧ i = T.size ∧ f = T.size := by
            have he := off_end rs (Nat.le_refl _)
            rcases Nat.lt_or_ge k rs.length with h | h
            · have := off_in rs h
              have := hj h
              omega
            · obtain rfl : k = rs.length := by omega
              have := hj0 rfl
              omega
          rw [List.take_length] at hown
          subst hfe
          obtain ⟨n, hn0⟩ : ∃ n, n = rs.length := ⟨_, rfl⟩
          rw [← hn0] at hown hrl
          obtain ⟨a7, c7, rfl⟩ := own_slice hown
          obtain ⟨w4, hw4⟩ : ∃ w4, w4 = wr := ⟨_, rfl⟩
          rw [← hw4] at hown hbel hsz
          have HR := Lib.hid (And.intro hown (And.intro hbel (And.intro hn0 hsz)))
          have hnI : (n : Int) = (p.size : Int) / 4 := by omega
          have hqI : ((p.size : Int) / 4 != (p.size : Int) / 4) = false := by simp
          clear hown hbel hi hf hk hj hj0 hTs hiT hn0
          go_wp2_with (fail)
          rw [← hw4]
          clear hw4 hnI hqI
          go_loopw [10] (fun a10 wr2 => ∃ i : Nat, a10 = .int .i64 (i : Int) ∧ i ≤ n ∧ Below w4.heap.size w4 wr2) (fun a10 _ => n - (intOf a10).toNat)
          case atStart => exact ⟨0, rfl, Nat.zero_le _, Below.refl _ _⟩
          case round =>
            obtain ⟨i, rfl, hi, hb⟩ := hrel
            by_cases hin : i < n
            · have hinI : (i : Int) < (n : Int) := by omega
              have hi0 : (0 : Int) ≤ (i : Int) := by omega
              have q1 : IntKind.i64.wrap ((i : Int) + 1) = (i : Int) + 1 := IntWalk.i64_in _ (by omega)
              have u1 : IntKind.i64.wrap (4 * (i : Int)) = 4 * (i : Int) := IntWalk.i64_in _ (by omega)
              have u2 : IntKind.i64.wrap (4 * (i : Int) + 4) = 4 * (i : Int) + 4 := IntWalk.i64_in _ (by omega)
              have b1 : (0 : Int) ≤ 4 * (i : Int) := by omega
              have b2 : 4 * (i : Int) ≤ 4 * (i : Int) + 4 := by omega
              have b3 : 4 * (i : Int) + 4 ≤ (p.size : Int) := by omega
              have b4 : (4 * (i : Int)).toNat = 4 * i := by omega
              have b5 : (4 * (i : Int) + 4).toNat = 4 * i + 4 := by omega
              obtain ⟨Q, hQ⟩ : ∃ Q, Q = p.extract (4 * i) (4 * i + 4) := ⟨_, rfl⟩
              have hiw : i < wd.length := by omega
              have hir : i < rs.length := by have := HR.out.2.2.1; omega
              have hQl : Q.data.toList = wd[i] := by
                have e := HW.out.1
                subst e
                rw [hQ, ext_mid, str_list, show 4 * i + 4 - 4 * i = 4 from by omega]
                exact words_at _ i hiw
              have hQ4 : Q.size = 4 := by
                have e1 := HW.out.2.1 wd[i] (List.getElem_mem _)
                have e2 : Q.data.toList.length = Q.size := Array.length_toList
                rw [hQl] at e2
                omega
              obtain ⟨r, hr⟩ : ∃ r, r = str rs[i] := ⟨_, rfl⟩
              have KQ : Hid (∀ W, LaidV W → Calls Tryd.prog 13 #[.string Q] W fun e w' => e = .returned (.tuple #[.string r, .int .i64 0]) ∧ Below W.heap.size W w') := Lib.hid fun W hW => by
                have := KLi.out Q W hW
                have h4' := lis_four wd[i] (HW.out.2.1 wd[i] (List.getElem_mem _))
                rw [hQl, h4'.1, show lisE Q.size = 0 from by rw [hQ4]; rfl] at this
                have er : rs[i] = rowW wd[i] := by simp [HW.out.2.2.1]
                rw [hr, er]
                exact this
              have hg : ∃ g, a7 = some ⟨g, 0, none⟩ ∧ g < w4.heap.size ∧ w4.cell? ⟨g, i, none⟩ = some (.string r) := by
                have hown := HR.out.1
                rcases hown.2 with ⟨e, h0⟩ | ⟨g, cap', cur, e, hb', hgg, _⟩
                · omega
                · injection e with e1 e2 e3
                  subst e1
                  refine ⟨g, rfl, block_lt hgg, ?_⟩
                  have := hown.cells (g := g) rfl i (.string r) (by simp [strV, hir, hr])
                  rwa [show (⟨g, 0, none⟩ : Addr).add i = ⟨g, i, none⟩ by simp [Addr.add]; intro h; exact h.symm] at this
              obtain ⟨g, rfl, hglt, hcell⟩ := hg
              have hce : Hid (∀ W, Below w4.heap.size w4 W → W.cell? ⟨g, i, none⟩ = some (.string r)) := Lib.hid fun W hW => by
                simp only [World.cell?, hW.block g hglt]
                exact hcell
              have HB : Hid (Below w4.heap.size w4 wr ∧ w4.heap.size ≤ wr.heap.size) := Lib.hid ⟨hb, hb.size⟩
              have HLW : Hid (LaidV wr) := Lib.hid (HL.out _ (HR.out.2.1.trans (hb.mono HR.out.2.2.2)))
              rw [eq_comm] at hQ
              clear hb hcell hglt hQl hQ4 hr hiw hir hn hrl
              go_wp2_with (fail)
              refine (KQ.out _ HLW.out).mono ?_
              rintro e w5 ⟨rfl, hb5⟩
              have HB5 : Hid (Below w4.heap.size w4 w5) := Lib.hid (HB.out.1.trans (hb5.mono HB.out.2))
              have hc5 := hce.out _ HB5.out
              clear hb5
              go_wp2
              go_roundw
              case rel => exact ⟨i + 1, by first | rfl | (exact congrArg (Value.int .i64) (by omega)), by omega, HB5.out⟩
              case measure => simp [intOf]; omega
            · obtain rfl : i = n := by omega
              have HB : Hid (Below w4.heap.size w4 wr ∧ w4.heap.size ≤ wr.heap.size) := Lib.hid ⟨hb, hb.size⟩
              have HH := Lib.hid (And.intro hn hrl)
              clear hb hn hrl
              go_wp2_with (fail)
              obtain ⟨Xa, hXa⟩ : ∃ b, b = wr.heap.size := ⟨_, rfl⟩
              obtain ⟨wa, hwa⟩ : ∃ wa, wa = wr.alloc (.cells #[] 5) := ⟨_, rfl⟩
              obtain ⟨wb, hwb⟩ : ∃ wb, wb = wa.alloc (.cells #[] 5) := ⟨_, rfl⟩
              have hXb : wa.heap.size = Xa + 1 := by rw [hwa, hXa]; simp only [World.alloc, Array.size_push]
              have hBa : B0 ≤ Xa := by rw [hXa]; exact Nat.le_trans hsz HB.out.2
              have hba : Below wr.heap.size wr wb := by rw [hwb, hwa]; exact ((Below.refl _ wr).alloc (Nat.le_refl _) _).alloc (by simp only [World.alloc, Array.size_push]; omega) _
              have hra : wb.heap[Xa]? = some (.cells #[] 5) := by
                have e1 : wa.heap[Xa]? = some (.cells #[] 5) := by rw [hwa, hXa]; exact World.alloc_heap_new wr _
                have e2 := ((Below.refl _ wa).alloc (Nat.le_refl _) (.cells #[] 5)).block Xa (by omega)
                rw [hwb, e2]; exact e1
              have hrb : wb.heap[Xa + 1]? = some (.cells #[] 5) := by rw [hwb, ← hXb]; exact World.alloc_heap_new wa _
              have hoa : wb.ownsRow B0 5 1 (.slice (some ⟨Xa, 0, none⟩) 0 0) (((choW wd o 0).map rowW).flatten).length (Lib.byteCells (((choW wd o 0).map rowW).flatten)) :=
                ⟨rfl, .inr ⟨Xa, 0, #[], rfl, hBa, hra, Nat.le_refl _, Nat.zero_le _, rfl, rfl⟩⟩
              have hob : wb.ownsRow B0 5 1 (.slice (some ⟨Xa + 1, 0, none⟩) 0 0) ((choW wd o 0).flatten).length (Lib.byteCells ((choW wd o 0).flatten)) :=
                ⟨rfl, .inr ⟨Xa + 1, 0, #[], rfl, by omega, hrb, Nat.le_refl _, Nat.zero_le _, rfl, rfl⟩⟩
              have hbw : Below w4.heap.size w4 wb := HB.out.1.trans (hba.mono HB.out.2)
              have hor : wb.ownsRow B0 9 1 (.slice a7 i c7) i (strV rs) := HR.out.1.kept (row := none) ⟨hbw.os, hbw.tape, hbw.output, hbw.size, fun k hk _ => hbw.block k hk⟩ (by cases (Value.slice a7 i c7).ownBlock <;> simp)
              have hbb : Below B0 w wb := HR.out.2.1.trans (hbw.mono HR.out.2.2.2)
              have HT := Lib.hid (And.intro hoa (And.intro hob (And.intro hor hbb)))
              rw [← hwa, ← hwb, ← hXa]
              clear hoa hob hor hbb hbw hra hrb hba hBa hXb hwa hwb hXa
              go_loopw [13, 14, 15] (fun a13 a14 a15 wq => ∃ j : Nat, a15 = .int .i64 (j : Int) ∧ j ≤ o.length ∧ j ≤ 1000 ∧ wq.ownsRow B0 5 1 a13 (((choW wd o j).map rowW).flatten).length (Lib.byteCells (((choW wd o j).map rowW).flatten)) ∧ wq.ownsRow B0 5 1 a14 ((choW wd o j).flatten).length (Lib.byteCells ((choW wd o j).flatten)) ∧ wq.ownsRow B0 9 1 (.slice a7 i c7) i (strV rs) ∧ a13.ownBlock ≠ a14.ownBlock ∧ Below B0 w wq) (fun _ _ a15 _ => o.length - (intOf a15).toNat)
              case atStart => exact ⟨0, rfl, Nat.zero_le _, Nat.zero_le _, HT.out.1, HT.out.2.1, HT.out.2.2.1, (by simp [Value.ownBlock]), HT.out.2.2.2⟩
              case round =>
                obtain ⟨j, rfl, hjl, hj1000, hoa, hob, hor, hnab, hbel⟩ := hrel
                have hszq : B0 ≤ wr.heap.size := Nat.le_trans hw0 hbel.size
                by_cases hgo : j < o.length ∧ j < 1000
                · obtain ⟨hjo, hjk⟩ := hgo
                  have hjI : (j : Int) < (o.length : Int) := by omega
                  have hkI : (j : Int) < 1000 := by omega
                  have hj0 : (0 : Int) ≤ (j : Int) := by omega
                  have q1 : IntKind.i64.wrap ((j : Int) + 1) = (j : Int) + 1 := IntWalk.i64_in _ (by omega)
                  obtain ⟨ao', cap', hve, -, -, hcells⟩ := id HV.out.1
                  injection hve with e1 e2 e3
                  subst e1 e3
                  obtain ⟨b, f0, rfl, hblt, hc⟩ := hcells (fun e => by rw [e] at hjo; simp at hjo)
                  obtain ⟨x, hx⟩ : ∃ x, x = o[j] := ⟨_, rfl⟩
                  have hcw : Hid (∀ W, Below B0 w W → W.cell? ⟨b, f0 + j, none⟩ = some (.int .i64 x)) := Lib.hid fun W hW => by
                    rw [HV.out.2] at hW
                    simp only [World.cell?, hW.block b hblt]
                    rw [hx]
                    exact hc j hjo
                  have x0 := hcw.out wr hbel
                  clear hcells hc hblt
                  by_cases hx0 : 0 ≤ x
                  · by_cases hxi : x < (i : Int)
                    · obtain ⟨m, hm⟩ := Int.eq_ofNat_of_zero_le hx0
                      subst hm
                      have hmi : m < i := by omega
                      have hmw : m < wd.length := by have := HH.out.2; omega
                      have hmr : m < rs.length := by have := HR.out.2.2.1; omega
                      have hcy : choW wd o (j + 1) = choW wd o j ++ [wd[m]] := by
                        have := cho_yes (wd := wd) hjo (by rw [← hx]; omega) (by rw [← hx]; simpa using hmw)
                        rw [this]
                        congr 2
                        simp [← hx]
                      have hq4 := HW.out.2.1 wd[m] (List.getElem_mem _)
                      have hcl := cho_len wd o j
                      have hc4 : ∀ q ∈ choW wd o j, q.length = 4 := fun q hq => HW.out.2.1 q (cho_mem q hq)
                      have hfr := flat_rows _ hc4
                      have hff := flat_four _ hc4
                      have her : rs[m] = rowW wd[m] := by simp [HW.out.2.2.1]
                      have hrl2 := row_len hq4
                      obtain ⟨r, hr⟩ : ∃ r, r = str rs[m] := ⟨_, rfl⟩
                      have hrs : r.data.toList = rowW wd[m] := by rw [hr, str_list, her]
                      have hrz : r.size ≤ 29 := by rw [hr, str_size, her]; exact hrl2
                      obtain ⟨Q, hQ⟩ : ∃ Q, Q = p.extract (4 * m) (4 * m + 4) := ⟨_, rfl⟩
                      have hQl : Q.data.toList = wd[m] := by
                        have e := HW.out.1
                        subst e
                        rw [hQ, ext_mid, str_list, show 4 * m + 4 - 4 * m = 4 from by omega]
                        exact words_at _ m hmw
                      have hQ4 : Q.size = 4 := by
                        have e2 : Q.data.toList.length = Q.size := Array.length_toList
                        rw [hQl] at e2
                        omega
                      obtain ⟨g, cur, fz, rfl, hgg, hrc⟩ : ∃ g cur fz, a7 = some ⟨g, 0, none⟩ ∧ wr.heap[g]? = some (.cells cur 9 fz) ∧ wr.cell? ⟨g, m, none⟩ = some (.string r) := by
                        rcases hor.2 with ⟨e, h0⟩ | ⟨g, cap', cur, e, hb', hgg, _⟩
                        · omega
                        · injection e with e1 e2 e3
                          subst e1
                          refine ⟨g, cur, _, rfl, hgg, ?_⟩
                          have := hor.cells (g := g) rfl m (.string r) (by simp [strV, hmr, hr])
                          rwa [show (⟨g, 0, none⟩ : Addr).add m = ⟨g, m, none⟩ by simp [Addr.add]; intro h; exact h.symm] at this
                      obtain ⟨v1, w6, hr1, hoa6, hg6, hat6⟩ := app_at hoa r (by omega) hszq
                      have hob6 := hob.kept hg6 (.inr (fun e => hnab e.symm))
                      have hor6 := hor.kept hg6 (.inr (fun e => own_ne hoa hgg (by intro c fz e; cases e) e.symm))
                      have hbel6 := own_below hbel hszq hoa hg6
                      have hn6 : v1.ownBlock ≠ u14.ownBlock := by
                        rcases hat6 with e | e
                        · rw [e]; exact hnab
                        · rw [e]; exact fun e2 => absurd (hob.lt _ e2.symm).2 (by omega)
                      have hsz6 : B0 ≤ w6.heap.size := Nat.le_trans hszq hg6.size
                      have hgg6 : w6.heap[g]? = some (.cells cur 9 fz) := by rw [hg6.block g (block_lt hgg) (own_ne hoa hgg (by intro c fz e; cases e)).symm]; exact hgg
                      have xw6 := hcw.out w6 hbel6
                      have xd6 : w6.drew.cell? ⟨b, f0 + j, none⟩ = some (.int .i64 (m : Int)) := hcw.out w6.drew hbel6.drew
                      have gd : w6.grownBy w6.drew none := ⟨rfl, rfl, rfl, Nat.le_refl _, fun _ _ _ => rfl⟩
                      have hob6d := hob6.kept gd (by cases u14.ownBlock <;> simp)
                      obtain ⟨v2, w7, hr2, hob7, hg7, hat7⟩ := app_at hob6d Q (by omega) hsz6
                      have hoa7 := (hoa6.kept gd (by cases v1.ownBlock <;> simp)).kept hg7 (.inr hn6)
                      have hor7 := (hor6.kept gd (by cases (Value.slice (some ⟨g, 0, none⟩) i c7).ownBlock <;> simp)).kept hg7 (.inr (fun e => own_ne hob6d (show w6.drew.heap[g]? = _ from hgg6) (by intro c fz e; cases e) e.symm))
                      have hn7 : v1.ownBlock ≠ v2.ownBlock := by
                        rcases hat7 with e | e
                        · rw [e]; exact hn6
                        · rw [e]; exact fun e2 => absurd (hoa6.lt _ e2).2 (Nat.lt_irrefl _)
                      have hbel7 := own_below hbel6.drew hsz6 hob6d hg7
                      have eA : ((choW wd o j).map rowW).flatten ++ r.data.toList = ((choW wd o (j + 1)).map rowW).flatten := by rw [hcy, hrs]; simp
                      have eB : (choW wd o j).flatten ++ Q.data.toList = (choW wd o (j + 1)).flatten := by rw [hcy, hQl]; simp
                      rw [eA] at hoa7
                      rw [eB] at hob7
                      have HQ := Lib.hid (And.intro hoa7 (And.intro hob7 (And.intro hor7 (And.intro hn7 hbel7))))
                      have h4m : 4 * m + 4 ≤ p.size := by have h1 := HH.out.1; have h2 := HH.out.2; omega
                      have hm0 : (0 : Int) ≤ (m : Int) := by omega
                      have u1 : IntKind.i64.wrap (4 * (m : Int)) = 4 * (m : Int) := IntWalk.i64_in _ (by omega)
                      have u2 : IntKind.i64.wrap (4 * (m : Int) + 4) = 4 * (m : Int) + 4 := IntWalk.i64_in _ (by omega)
                      have b1 : (0 : Int) ≤ 4 * (m : Int) := by omega
                      have b2 : 4 * (m : Int) ≤ 4 * (m : Int) + 4 := by omega
                      have b3 : 4 * (m : Int) + 4 ≤ (p.size : Int) := by omega
                      have b4 : (4 * (m : Int)).toNat = 4 * m := by omega
                      have b5 : (4 * (m : Int) + 4).toNat = 4 * m + 4 := by omega
                      rw [eq_comm] at hQ
                      have HR2 := Lib.hid hr2
                      clear hoa hob hor hnab hbel hx hcy hq4 hcl hc4 hfr hff her hrl2 hr hrs hrz hQl hQ4 hgg hoa6 hg6 hat6 hob6 hor6 hbel6 hn6 hgg6 gd hob6d hob7 hg7 hat7 hoa7 hor7 hn7 hbel7 eA eB h4m hmw hmr hr2
                      go_wp2_with (at_builtin; refine Lib.wpList_append_run _ rfl _ _ 37 9 rfl _ _ rfl rfl _ w6 hr1 ?_)
                      go_region_law ((refine step_append_run2 (by rfl) _ _ 37 9 (by rfl) _ _ _ w7 (by rfl) (by rfl) HR2.out ?_))
                      all_goals
                        go_wp2
                        go_roundw
                        case rel => exact ⟨j + 1, by first | rfl | (exact congrArg (Value.int .i64) (by omega)), by omega, by omega, HQ.out⟩
                        case measure => simp [intOf]; omega
                    · have hcn : choW wd o (j + 1) = choW wd o j := cho_no hjo (by rw [← hx]; have := HH.out.2; omega)
                      have HQ := Lib.hid (And.intro hoa (And.intro hob (And.intro hor (And.intro hnab hbel))))
                      rw [← hcn] at HQ
                      clear hoa hob hor hnab hbel hx hcn
                      go_wp2
                      go_roundw
                      case rel => exact ⟨j + 1, by first | rfl | (exact congrArg (Value.int .i64) (by omega)), by omega, by omega, HQ.out⟩
                      case measure => simp [intOf]; omega
                  · have hcn : choW wd o (j + 1) = choW wd o j := cho_no hjo (by rw [← hx]; omega)
                    have HQ := Lib.hid (And.intro hoa (And.intro hob (And.intro hor (And.intro hnab hbel))))
                    rw [← hcn] at HQ
                    clear hoa hob hor hnab hbel hx hcn
                    go_wp2
                    go_roundw
                    case rel => exact ⟨j + 1, by first | rfl | (exact congrArg (Value.int .i64) (by omega)), by omega, by omega, HQ.out⟩
                    case measure => simp [intOf]; omega
                · have hcl := cho_len wd o j
                  have hc4 : ∀ q ∈ choW wd o j, q.length = 4 := fun q hq => HW.out.2.1 q (cho_mem q hq)
                  have hfr := flat_rows _ hc4
                  have hff := flat_four _ hc4
                  have hae := asmR_rows _ hc4 (by omega)
                  have hcA := conv_own hoa
                  obtain ⟨A, hA⟩ : ∃ A, A = str (((choW wd o j).map rowW).flatten) := ⟨_, rfl⟩
                  obtain ⟨W, hWv⟩ : ∃ W, W = str ((choW wd o j).flatten) := ⟨_, rfl⟩
                  obtain ⟨nA, hnA⟩ : ∃ nA, nA = (((choW wd o j).map rowW).flatten).length := ⟨_, rfl⟩
                  obtain ⟨nW, hnW⟩ : ∃ nW, nW = ((choW wd o j).flatten).length := ⟨_, rfl⟩
                  have KA : Hid (∀ W', LaidV W' → Calls Tryd.prog 10 #[.string A] W' fun e w' => e = .returned (.tuple #[.string W, .int .i64 0, .int .i64 0]) ∧ Below W'.heap.size W' w') := Lib.hid fun W' hW' => by
                    have := asm_any A W' hW'
                    rw [hA, str_list, hae] at this
                    rw [hA, hWv]
                    exact this
                  have HCW : Hid (∀ w', Below wr.heap.size wr w' → (convert 37 9 u14).run Tryd.prog w' = .ok (.string W) w') := Lib.hid fun w' hw' => by
                    rw [hWv]
                    exact conv_own (hob.kept (row := none) ⟨hw'.os, hw'.tape, hw'.output, hw'.size, fun k hk _ => hw'.block k hk⟩ (by cases u14.ownBlock <;> simp))
                  rw [← hA] at hcA
                  rw [← hnA] at hfr hoa
                  rw [← hnW] at hff hob
                  have nb1 : ¬ (32768 : Int) < (nA : Int) := by omega
                  have nb2 : ¬ (4096 : Int) < (nW : Int) := by omega
                  obtain ⟨aA, cA, rfl⟩ := own_slice hoa
                  obtain ⟨aW, cW, rfl⟩ := own_slice hob
                  have hHB : Hid (Below B0 w wr ∧ B0 ≤ wr.heap.size) := Lib.hid ⟨hbel, hszq⟩
                  clear hoa hob hor hnab hbel hcl hc4 hfr hff hae hA hWv hnA hnW
                  by_cases hjo : j < o.length
                  · have hjI : (j : Int) < (o.length : Int) := by omega
                    have hkI : ¬ (j : Int) < 1000 := by omega
                    clear hgo hjl
                    go_wp2_with (fail)
                    refine (KA.out _ (HL.out _ hHB.out.1)).mono ?_
                    rintro e w8 ⟨rfl, hb8⟩
                    have HF : Hid (Below B0 w w8) := Lib.hid (hHB.out.1.trans (hb8.mono hHB.out.2))
                    have hc8 := HCW.out _ hb8
                    clear hb8
                    go_wp2
                    go_ret
                    exact ⟨by first | rfl | simp, by rw [← HV.out.2]; exact HF.out⟩
                  · have hjI : ¬ (j : Int) < (o.length : Int) := by omega
                    clear hgo hjl
                    go_wp2_with (fail)
                    refine (KA.out _ (HL.out _ hHB.out.1)).mono ?_
                    rintro e w8 ⟨rfl, hb8⟩
                    have HF : Hid (Below B0 w w8) := Lib.hid (hHB.out.1.trans (hb8.mono hHB.out.2))
                    have hc8 := HCW.out _ hb8
                    clear hb8
                    go_wp2
                    go_ret
                    exact ⟨by first | rfl | simp, by rw [← HV.out.2]; exact HF.out⟩
    · have hbI : ¬ (4096 : Int) < (p.size : Int) := by omega
      have h4I : ((p.size : Int) % 4 != 0) = true := bne_iff_ne.2 (by omega)
      have KA := KLi.out p
      unfold lisS lisE at KA
      rw [hpl, if_neg hbig, if_neg hbig, if_neg h4, if_neg h4] at KA
      have KB := Lib.hid KA
      clear KA KLi
      have es : str [] = ByteArray.mk #[] := rfl
      rw [es] at KB
      go_enter Tryd.func9, Tryd.ntmps9
      go_wp2_with (fail)
      refine (KB.out _ (HL.out _ H0.out)).mono ?_
      rintro e w1 ⟨rfl, hb1⟩
      have H1 : Hid (Below B0 w w1 ∧ B0 ≤ w1.heap.size) := Lib.hid ⟨by rw [HV.out.2]; exact hb1, by rw [HV.out.2]; exact hb1.size⟩
      clear hb1
      go_wp2_with (fail)
      refine (KF.out _ (HL.out _ H1.out.1)).mono ?_
      rintro e w2 ⟨rfl, hb2⟩
      have H2 : Hid (Below B0 w w2) := Lib.hid (H1.out.1.trans (hb2.mono H1.out.2))
      clear hb2
      go_wp2
      go_ret
      exact ⟨by first | rfl | (simp [h4I]), by rw [← HV.out.2]; exact H2.out⟩
end Go.Proofs.YtmclcobklcjmnaaDoor

namespace Go.Proofs.YtmclcobklcjmnaaDoor
open Go.ChangeShapes Go.WideShapes Go.ChangeAt Go.RowKit
open Go.ChangeMaps (open_string shut_string)
set_option linter.unusedVariables false
namespace IsaLines
set_option maxRecDepth 100000 in
theorem contract (H : Type) (enc : TypeId × Value → H) (W : World) (base : Nat) (args : Array Value) (ds gs : List (DataW H)) (before : List MemPlace)
    (hval : ∀ (j : Nat) t v, Tryd.f9.params[j]? = some t → args[j]? = some v → Value.okWide Tryd.prog W .any base t v)
    (hW : DataW.Whole enc Tryd.prog Tryd.f9.params.toList Rows.isaLinesSpec.vars false W args.toList ds gs before)
    (hsz0 : (DataW.weightsEach Tryd.prog (Tryd.f9.params.toList ++ Rows.isaLinesSpec.plain.varTypes Tryd.prog) (ds ++ gs)).all (· ≤ reachBytes) = true) (hL : laidMet Tryd.prog Rows.isaLinesRow.laid W) :
    Calls Tryd.prog 9 args W fun e W' => ∃ v, e = .returned v ∧ Rows.isaLinesSpec.post enc Tryd.prog Tryd.f9 false true false false W args v W' := by
  have hsz := hsz0
  clear hsz0
  have hW' := hW
  obtain ⟨p, q, hA0, hV, rfl, hfz, hnd⟩ := hW
  have hA : DataW.TrodAll enc Tryd.prog W 0 (fun _ => true) true Tryd.f9.params.toList args.toList ds p := hA0
  rw [Tryd.params9] at hA hval hsz
  obtain ⟨v0, vs0, d0, ds0, p0, q0, hargs, rfl, rfl, h0, r0⟩ := trodAll_cons hA
  obtain ⟨v1, vs1, d1, ds1, p1, q1, rfl, rfl, rfl, h1, r1⟩ := trodAll_cons r0
  obtain ⟨rfl, rfl, rfl⟩ := trodAll_nil r1
  obtain rfl : args = #[v0, v1] := by cases args; simp_all
  obtain ⟨rfl, rfl⟩ := trodVars_none hV
  obtain ⟨a0, rfl, rfl, rfl, w0⟩ := open_string Tryd.underlying9 (hval 0 9 v0 rfl rfl) h0
  have z0 : a0.size ≤ 140737488351232 := by simpa [reachBytes] using sized_string hsz (j := 0) (t := 9) rfl rfl
  have k1 := h1
  have lt1 : ∀ x ∈ p1, x.block < W.heap.size := by obtain ⟨m, hm⟩ := k1; exact DataW.trod_lt m _ _ _ hm
  obtain ⟨l1, hl1⟩ := ints_of (hval 1 42 v1 rfl rfl) h1 (fun u hu => by simpa using List.all_eq_true.1 hsz u (DataW.weights_mem_each (j := 1) (t := 42) rfl rfl u hu))
  clear hA0
  simp only [List.append_nil] at hW'
  refine (lines_law a0 v1 l1 z0 W hl1 (laidV_of hL)).mono fun e W' ⟨he, bel⟩ => ?_
  subst he
  exact ⟨_, rfl, _, _, _, [], _, [], hW', trodAll_mk1 (shut_bool Tryd.underlying4 _), (trodAll_cons_mk (shut_string Tryd.underlying9 w0) (trodAll_cons_mk (Below.trod laidOut (by kernel_rfl) (of_decide_eq_true (by kernel_rfl)) k1 bel lt1) trodAll_mk0)), rfl, bel.frame _, fun h => by cases h⟩
theorem reads (os : Os) {H : Type} (enc : TypeId × Value → H) : ∃ places, DataW.whole enc Tryd.prog ((laidWorld os).forCall (fun _ _ => 0) ⟨#[], #[.string ByteArray.empty, .slice none 0 0], []⟩).memory Tryd.f9.params.toList Rows.isaLinesSpec.vars false (#[.string ByteArray.empty, .slice none 0 0] : Array Value).toList 8 = some ([.lit (.string []), .nil], [], places) :=
  ⟨[], by kernel_rfl⟩
set_option maxRecDepth 100000 in
theorem lifted (os : Os) (started : os.Started) (H : Type) (enc : TypeId × Value → H) (F : Stop.Interp) :
    ReturnsInHanded {} Tryd.checked os 9 .any ((OpenSpec.ofChange Rows.isaLinesSpec).preRow enc Tryd.prog Tryd.f9 Rows.isaLinesRow.domain false Rows.isaLinesRow.laid) (((OpenSpec.ofChange Rows.isaLinesSpec).at F).post enc Tryd.prog Tryd.f9 false true false false) := by
  obtain ⟨places, hx⟩ := reads os enc
  refine returnsInHanded_of_row (C := Tryd.checked) (s := OpenSpec.ofChange Rows.isaLinesSpec) own started (by kernel_rfl) Tryd.func9
    (witness_row_at (enc := enc) (C := Tryd.checked) false (laidWorld os) #[.string ByteArray.empty, .slice none 0 0] rfl (by kernel_rfl) (by kernel_rfl) (by kernel_rfl)
      (OpenSpec.preRow_of_cond 8 hx (by kernel_rfl) (fun k hk => by cases hk) (by kernel_rfl) (laid_met os _))) ?_
  intro W base args ds gs before hval hW _ _ hsz hL _ _
  exact contract H enc W base args ds gs before hval hW hsz hL
theorem said : Rows.IsaLinesSaid :=
  OpenClaim.holds_of_cond 9 Tryd.f9 rfl rfl rfl rfl rfl rfl rfl ⟨rfl, rfl, rfl, rfl, rfl⟩ rfl rfl rfl rfl rfl (by kernel_rfl) Tryd.func9 (by kernel_rfl)
    (of_decide_eq_true (by kernel_rfl)) (by unfold Func.isWrapper; first | (rw [if_pos (by decide +kernel)]; kernel_rfl) | (rw [if_neg (by decide +kernel)]; exact ⟨rfl, rfl⟩))
    (fun os started H enc _ F => by rw [OpenClaim.pre_eq_preRow]; exact lifted os started H enc F)
theorem plain (f : FuncId) (fn : Func) (hf : Tryd.pinned.checked.prog.funcNamed "castellan/castellanlaw09.IsaLines" = some f) (hfn : Tryd.pinned.checked.prog.funcs[f]? = some fn) :
    true = Tryd.pinned.checked.prog.looks [] ∧ ∀ (j : Nat) t, fn.params[j]? = some t → Tryd.pinned.checked.prog.wantsStandIn t = false := by
  obtain rfl : f = 9 := Option.some.inj ((show Tryd.prog.funcNamed "castellan/castellanlaw09.IsaLines" = some 9 by kernel_rfl).symm.trans hf) |>.symm
  obtain rfl : fn = Tryd.f9 := (Option.some.inj (Tryd.func9.symm.trans hfn)).symm
  refine ⟨by kernel_rfl, fun j t ht => ?_⟩
  rw [Tryd.params9] at ht
  have hm := Array.mem_of_getElem? ht
  simp at hm
  rcases hm with rfl | rfl
  · exact (show Tryd.prog.wantsStandIn 9 = false by kernel_rfl)
  · exact (show Tryd.prog.wantsStandIn 42 = false by kernel_rfl)
end IsaLines
/-- THE STATEMENT -/
theorem isaLines_card : Rows.IsaLinesCardSaid :=
  Claim7.holds_tied_plain_at .later [] _ _ _ _ IsaLines.said (fun _ h => by cases h) (by kernel_rfl) (fun _ h => by cases h) isaLines_row_tie rfl ⟨rfl, rfl⟩ (by kernel_rfl) rfl IsaLines.plain (by kernel_rfl)
end Go.Proofs.YtmclcobklcjmnaaDoor
