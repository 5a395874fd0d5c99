/- Patterns in brackets, put together, are read as the expressions put together: what the law's call returns. Conditions: the expressions lie in memory, their numbers are a machine's. -/
import Derived.Test.YthejkelnjimogaaDoorBlh
namespace Go.Proofs.YthejkelnjimogaaDoor
open Go.RowKit
set_option linter.unusedVariables false
set_option linter.unusedSimpArgs false

set_option maxRecDepth 100000 in
set_option maxHeartbeats 16000000 in
theorem builds_walk (ta tb : Rx) (va vb : Value) (n : Int) (w : World) (ha : LiesL (fun _ => True) w va ta.list) (hb : LiesL (fun _ => True) w vb tb.list) (oa : okR ta) (ob : okR tb) :
    Calls Tryd.prog 7 #[ta.val va, tb.val vb, .int .i64 n] w fun e w' => e = .returned (.bool true) ∧ Below w.heap.size w w' := by
  obtain ⟨I, hI⟩ : ∃ I : World → Prop, I = Ab w w.heap.size (ta.cells va) (tb.cells vb) := ⟨_, rfl⟩
  have I0 : I ((w.alloc (.cells (ta.cells va) 26)).alloc (.cells (tb.cells vb) 26)) := by rw [hI]; exact Ab.first w _ _
  have IS : Hid (∀ wr w', I wr → Below wr.heap.size wr w' → I w') := by rw [hI]; exact fun wr w' h g => h.step g
  have IB : Hid (∀ wr, I wr → Below w.heap.size w wr) := by rw [hI]; exact fun wr h => h.bel
  have FX := Lib.hid fixed_any
  have PA : Hid (∀ wr, I wr → Calls Tryd.prog 9 #[.agg (ta.cells va)] wr fun e w' => e = .returned (.tuple #[.string (str (printS ta).1), .int .i64 (printS ta).2]) ∧ Below wr.heap.size wr w') := fun wr h => print_any wr va ta (ha.stay (IB.out _ h)) oa
  have PB : Hid (∀ wr, I wr → Calls Tryd.prog 9 #[.agg (tb.cells vb)] wr fun e w' => e = .returned (.tuple #[.string (str (printS tb).1), .int .i64 (printS tb).2]) ∧ Below wr.heap.size wr w') := fun wr h => print_any wr vb tb (hb.stay (IB.out _ h)) ob
  obtain ⟨J, hJ⟩ : ∃ J : Nat → World → Prop, J = Jb w ta tb va vb := ⟨_, rfl⟩
  have JS : Hid (∀ Y wr w', J Y wr → Below wr.heap.size wr w' → J Y w') := by rw [hJ]; exact fun Y wr w' h g => h.step g
  have JI : Hid (∀ Y wr, J Y wr → I wr) := by rw [hJ, hI]; exact fun Y wr h => h.ab
  have JF : Hid (∀ wr o, I wr → J (wr.heap.size + 1) (((wr.alloc o).alloc (.cells (ta.cells va ++ tb.cells vb) 26)).alloc (.cells (ta.cells va) 26))) := by rw [hJ, hI]; exact fun wr o h => Jb.first h ha hb o
  have hza := print_back (t := ta) oa
  have hzb := print_back (t := tb) ob
  obtain ⟨sa, hsa⟩ : ∃ s, s = (printS ta).1 := ⟨_, rfl⟩
  obtain ⟨sb, hsb⟩ : ∃ s, s = (printS tb).1 := ⟨_, rfl⟩
  obtain ⟨ea, hea⟩ : ∃ s, s = (printS ta).2 := ⟨_, rfl⟩
  obtain ⟨eb, heb⟩ : ∃ s, s = (printS tb).2 := ⟨_, rfl⟩
  obtain ⟨X, hX⟩ : ∃ X, X = w.heap.size := ⟨_, rfl⟩
  have hzz : w.heap.size = X := hX.symm
  obtain ⟨pa, ca, hva⟩ := ha.value
  obtain ⟨pb, cb, hvb⟩ := hb.value
  subst hva
  subst hvb
  rw [hzz] at hI
  have IC' : ∀ wr, I wr → wr.heap[X]? = some (.cells (ta.cells (.slice pa ta.list.length ca)) 26 (0, 0)) ∧ wr.heap[X + 1]? = some (.cells (tb.cells (.slice pb tb.list.length cb)) 26 (0, 0)) := by rw [hI]; exact fun wr h => ⟨h.ra, h.rb⟩
  have BEL : Hid (∀ wr, I wr → Below X w wr) := fun wr h => by rw [← hzz]; exact IB.out wr h
  by_cases hgo : ea = 0 ∧ eb = 0 ∧ 0 ≤ n ∧ n ≤ 15
  · obtain ⟨rfl, rfl, hn0, hn15⟩ := hgo
    obtain ⟨m, rfl⟩ : ∃ m : Nat, n = (m : Int) := ⟨n.toNat, by omega⟩
    have hm15 : m ≤ 15 := by omega
    have gm1 : ¬ (m : Int) < 0 := by omega
    have gm2 : ¬ 15 < (m : Int) := by omega
    obtain ⟨hca, ma, hpa, hla, hlena⟩ := hza hea.symm
    obtain ⟨hcb, mb, hpb, hlb, hlenb⟩ := hzb heb.symm
    have mab : ∀ x ∈ [ta, tb], may x := fun x hx => by
      simp at hx; rcases hx with rfl | rfl
      · exact ma
      · exact mb
    have few : ta.list.length ≤ 900 := by
      have h0 := ma.1
      have hc : sizeR ta ≠ 257 := fun e => by unfold checkR at hca; rw [if_neg h0, if_pos e] at hca; cases hca
      have hle := sizeR_le ta
      obtain ⟨k, mn, mx, s0, s1, s2, s3, l⟩ := ta
      rw [sizeR] at h0 hc hle
      by_cases hf : formF k mn mx s0 s1 s2 s3 l.length = true
      · rw [if_pos hf] at h0 hc hle
        have ht : 1 ≤ timesF mn mx := by unfold timesF; omega
        have := (sizeL_all (timesF mn mx) ht l 1 h0 (by omega)).2.1
        show l.length ≤ 900
        omega
      · rw [if_neg hf] at h0; exact absurd rfl h0
    have h2 : ta.kind = 2 → 0 < ta.list.length := fun hk => by
      obtain ⟨k, mn, mx, s0, s1, s2, s3, l⟩ := ta
      have hk' : k = 2 := hk
      subst hk'
      rcases ma.kinds with ⟨h0, _⟩ | ⟨h0, _⟩ | ⟨_, _, _, _, _, _, _, hl⟩ | ⟨h0, _⟩
      · cases h0
      · cases h0
      · show 0 < l.length; omega
      · cases h0
    have R5 : Hid (∀ Y wr, J Y wr → Calls Tryd.prog 20 #[ta.val (.slice pa ta.list.length ca), tb.val (.slice pb tb.list.length cb)] wr fun e w' => Below wr.heap.size wr w' ∧ ∃ ao cap, e = .returned (.slice ao (rowsR ta ++ [ta, tb]).length cap) ∧ LiesL (fun _ => True) w' (.slice ao (rowsR ta ++ [ta, tb]).length cap) (rowsR ta ++ [ta, tb])) := by
      rw [hJ]; exact fun Y wr h => rows_any ta tb _ _ wr h.la h.lb h2 few
    have K5 : Hid (∀ s : ByteArray, s.data.toList = patR ta ++ 124 :: (40 :: (patR ta ++ [41]) ++ 124 :: 40 :: (patR tb ++ [41])) → ∀ ao cap wr, LiesL (fun _ => True) wr (.slice ao (rowsR ta ++ [ta, tb]).length cap) (rowsR ta ++ [ta, tb]) → Calls Tryd.prog 19 #[.string s, .agg #[.int .i64 2, .int .i64 0, .int .i64 0, .int .u64 0, .int .u64 0, .int .u64 0, .int .u64 0, .slice ao (rowsR ta ++ [ta, tb]).length cap]] wr fun e w' => e = .returned (.bool true) ∧ Below wr.heap.size wr w') := fun s hs ao cap wr h => T5_any ma mb hs h
    have K1 : Hid (∀ s : ByteArray, s.data.toList = 40 :: (patR ta ++ [41]) → ∀ Y wr, J Y wr → Calls Tryd.prog 19 #[.string s, ta.val (.slice pa ta.list.length ca)] wr fun e w' => e = .returned (.bool true) ∧ Below wr.heap.size wr w') := by rw [hJ]; exact fun s hs Y wr h => T1_any ma mb mab hs h
    have K2 : Hid (∀ s : ByteArray, s.data.toList = 40 :: 40 :: (patR ta ++ [41, 41]) → ∀ Y wr, J Y wr → Calls Tryd.prog 19 #[.string s, ta.val (.slice pa ta.list.length ca)] wr fun e w' => e = .returned (.bool true) ∧ Below wr.heap.size wr w') := by rw [hJ]; exact fun s hs Y wr h => T2_any ma mb mab hs h
    have K3 : Hid (∀ s : ByteArray, s.data.toList = 40 :: (patR ta ++ [41]) ++ 40 :: (patR tb ++ [41]) → ∀ Y wr, J Y wr → Calls Tryd.prog 19 #[.string s, .agg #[.int .i64 1, .int .i64 0, .int .i64 0, .int .u64 0, .int .u64 0, .int .u64 0, .int .u64 0, .slice (some ⟨Y, 0, none⟩) 2 2]] wr fun e w' => e = .returned (.bool true) ∧ Below wr.heap.size wr w') := by rw [hJ]; exact fun s hs Y wr h => T3_any ma mb mab hs h
    have K4 : Hid (∀ s : ByteArray, s.data.toList = 40 :: (patR ta ++ [41]) ++ 124 :: 40 :: (patR tb ++ [41]) → ∀ Y wr, J Y wr → Calls Tryd.prog 19 #[.string s, .agg #[.int .i64 2, .int .i64 0, .int .i64 0, .int .u64 0, .int .u64 0, .int .u64 0, .int .u64 0, .slice (some ⟨Y, 0, none⟩) 2 2]] wr fun e w' => e = .returned (.bool true) ∧ Below wr.heap.size wr w') := by rw [hJ]; exact fun s hs Y wr h => T4_any ma mb mab hs h
    have K6 : Hid (∀ s : ByteArray, s.data.toList = 40 :: (patR ta ++ [41]) ++ [42] → ∀ Y wr, J Y wr → Calls Tryd.prog 19 #[.string s, .agg #[.int .i64 3, .int .i64 0, .int .i64 (-1), .int .u64 0, .int .u64 0, .int .u64 0, .int .u64 0, .slice (some ⟨Y + 1, 0, none⟩) 1 1]] wr fun e w' => e = .returned (.bool true) ∧ Below wr.heap.size wr w') := by rw [hJ]; exact fun s hs Y wr h => T6_any ma mb mab hs h
    have K7 : Hid (∀ s : ByteArray, s.data.toList = 40 :: (patR ta ++ [41]) ++ [43] → ∀ Y wr, J Y wr → Calls Tryd.prog 19 #[.string s, .agg #[.int .i64 3, .int .i64 1, .int .i64 (-1), .int .u64 0, .int .u64 0, .int .u64 0, .int .u64 0, .slice (some ⟨Y + 1, 0, none⟩) 1 1]] wr fun e w' => e = .returned (.bool true) ∧ Below wr.heap.size wr w') := by rw [hJ]; exact fun s hs Y wr h => T7_any ma mb mab hs h
    have K8 : Hid (∀ s : ByteArray, s.data.toList = 40 :: (patR ta ++ [41]) ++ [63] → ∀ Y wr, J Y wr → Calls Tryd.prog 19 #[.string s, .agg #[.int .i64 3, .int .i64 0, .int .i64 1, .int .u64 0, .int .u64 0, .int .u64 0, .int .u64 0, .slice (some ⟨Y + 1, 0, none⟩) 1 1]] wr fun e w' => e = .returned (.bool true) ∧ Below wr.heap.size wr w') := by rw [hJ]; exact fun s hs Y wr h => T8_any ma mb mab hs h
    have K9 : Hid (∀ s : ByteArray, s.data.toList = 40 :: (patR ta ++ [41]) ++ 123 :: (decS m ++ [125]) → ∀ Y wr, J Y wr → Calls Tryd.prog 19 #[.string s, .agg #[.int .i64 3, .int .i64 m, .int .i64 m, .int .u64 0, .int .u64 0, .int .u64 0, .int .u64 0, .slice (some ⟨Y + 1, 0, none⟩) 1 1]] wr fun e w' => e = .returned (.bool true) ∧ Below wr.heap.size wr w') := by rw [hJ]; exact fun s hs Y wr h => T9_any ma mb mab hm15 hs h
    have K10 : Hid (∀ s : ByteArray, s.data.toList = 40 :: (patR ta ++ [41]) ++ 123 :: (decS m ++ [44, 125]) → ∀ Y wr, J Y wr → Calls Tryd.prog 19 #[.string s, .agg #[.int .i64 3, .int .i64 m, .int .i64 (-1), .int .u64 0, .int .u64 0, .int .u64 0, .int .u64 0, .slice (some ⟨Y + 1, 0, none⟩) 1 1]] wr fun e w' => e = .returned (.bool true) ∧ Below wr.heap.size wr w') := by rw [hJ]; exact fun s hs Y wr h => T10_any ma mb mab hm15 hs h
    have K11 : Hid (∀ s : ByteArray, s.data.toList = 40 :: (patR ta ++ [41]) ++ 123 :: (decS m ++ 44 :: 49 :: 53 :: [125]) → ∀ Y wr, J Y wr → Calls Tryd.prog 19 #[.string s, .agg #[.int .i64 3, .int .i64 m, .int .i64 15, .int .u64 0, .int .u64 0, .int .u64 0, .int .u64 0, .slice (some ⟨Y + 1, 0, none⟩) 1 1]] wr fun e w' => e = .returned (.bool true) ∧ Below wr.heap.size wr w') := by rw [hJ]; exact fun s hs Y wr h => T11_any ma mb mab hm15 hs h
    have hd1 : m ≤ 9 → decS m = [UInt8.ofNat (48 + m)] := dec_low m
    have hd2 : 10 ≤ m → decS m = [49, UInt8.ofNat (48 + (m - 10))] := fun h => dec_high m h hm15

    rw [hla, ← hea] at PA
    rw [hlb, ← heb] at PB
    have szA : (str (patR ta)).size ≤ 128 := by rw [str_size]; exact hlena
    have dA : (str (patR ta)).data.toList = patR ta := by simp [str]
    have szB : (str (patR tb)).size ≤ 128 := by rw [str_size]; exact hlenb
    have dB : (str (patR tb)).data.toList = patR tb := by simp [str]
    clear hza hzb hca hcb hpa hpb hla hlb hlena hlenb hsa hsb hea heb ma mb mab hJ hI few h2 ha hb oa ob IB hX sa sb
    generalize rowsR ta ++ [ta, tb] = RR at *
    generalize str (patR ta) = sA at *
    generalize str (patR tb) = sB at *
    generalize patR ta = LA at *
    generalize patR tb = LB at *
    generalize decS m = DD at *
    generalize ta.list.length = na at *
    generalize tb.list.length = nb at *
    obtain ⟨ka, mna, mxa, a0, a1, a2, a3, la⟩ := ta
    obtain ⟨kb, mnb, mxb, b0, b1, b2, b3, lb⟩ := tb
    unfold Rx.val at *
    dsimp only [Rx.cells, cellsX] at *
    have IC : Hid (∀ wr, I wr → wr.cell? ⟨X, 0, none⟩ = some (.int .i64 ka) ∧ wr.cell? ⟨X, 1, none⟩ = some (.int .i64 mna) ∧ wr.cell? ⟨X, 2, none⟩ = some (.int .i64 mxa) ∧ wr.cell? ⟨X, 3, none⟩ = some (.int .u64 a0) ∧ wr.cell? ⟨X, 4, none⟩ = some (.int .u64 a1) ∧ wr.cell? ⟨X, 5, none⟩ = some (.int .u64 a2) ∧ wr.cell? ⟨X, 6, none⟩ = some (.int .u64 a3) ∧ wr.cell? ⟨X, 7, none⟩ = some (.slice pa na ca) ∧ wr.cell? ⟨X + 1, 0, none⟩ = some (.int .i64 kb) ∧ wr.cell? ⟨X + 1, 1, none⟩ = some (.int .i64 mnb) ∧ wr.cell? ⟨X + 1, 2, none⟩ = some (.int .i64 mxb) ∧ wr.cell? ⟨X + 1, 3, none⟩ = some (.int .u64 b0) ∧ wr.cell? ⟨X + 1, 4, none⟩ = some (.int .u64 b1) ∧ wr.cell? ⟨X + 1, 5, none⟩ = some (.int .u64 b2) ∧ wr.cell? ⟨X + 1, 6, none⟩ = some (.int .u64 b3) ∧ wr.cell? ⟨X + 1, 7, none⟩ = some (.slice pb nb cb)) := fun wr h => by
      obtain ⟨q0, q1, q2, q3, q4, q5, q6, q7⟩ := cells8 (IC' wr h).1
      obtain ⟨r0, r1, r2, r3, r4, r5, r6, r7⟩ := cells8 (IC' wr h).2
      exact ⟨q0, q1, q2, q3, q4, q5, q6, q7, r0, r1, r2, r3, r4, r5, r6, r7⟩
    clear IC'
    have JC : Hid (∀ Y wr, J Y wr → wr.cell? ⟨X, 0, none⟩ = some (.int .i64 ka) ∧ wr.cell? ⟨X, 1, none⟩ = some (.int .i64 mna) ∧ wr.cell? ⟨X, 2, none⟩ = some (.int .i64 mxa) ∧ wr.cell? ⟨X, 3, none⟩ = some (.int .u64 a0) ∧ wr.cell? ⟨X, 4, none⟩ = some (.int .u64 a1) ∧ wr.cell? ⟨X, 5, none⟩ = some (.int .u64 a2) ∧ wr.cell? ⟨X, 6, none⟩ = some (.int .u64 a3) ∧ wr.cell? ⟨X, 7, none⟩ = some (.slice pa na ca) ∧ wr.cell? ⟨X + 1, 0, none⟩ = some (.int .i64 kb) ∧ wr.cell? ⟨X + 1, 1, none⟩ = some (.int .i64 mnb) ∧ wr.cell? ⟨X + 1, 2, none⟩ = some (.int .i64 mxb) ∧ wr.cell? ⟨X + 1, 3, none⟩ = some (.int .u64 b0) ∧ wr.cell? ⟨X + 1, 4, none⟩ = some (.int .u64 b1) ∧ wr.cell? ⟨X + 1, 5, none⟩ = some (.int .u64 b2) ∧ wr.cell? ⟨X + 1, 6, none⟩ = some (.int .u64 b3) ∧ wr.cell? ⟨X + 1, 7, none⟩ = some (.slice pb nb cb)) := fun Y wr h => IC.out wr (JI.out _ _ h)
    have JF2 : Hid (∀ wr o, I wr → J (wr.heap.size + 1) (((wr.alloc o).alloc (.cells #[.int .i64 ka, .int .i64 mna, .int .i64 mxa, .int .u64 a0, .int .u64 a1, .int .u64 a2, .int .u64 a3, .slice pa na ca, .int .i64 kb, .int .i64 mnb, .int .i64 mxb, .int .u64 b0, .int .u64 b1, .int .u64 b2, .int .u64 b3, .slice pb nb cb] 26)).alloc (.cells #[.int .i64 ka, .int .i64 mna, .int .i64 mxa, .int .u64 a0, .int .u64 a1, .int .u64 a2, .int .u64 a3, .slice pa na ca] 26))) := fun wr o h => JF.out wr o h
    clear JF
    rw [hzz]
    obtain ⟨c, hc⟩ : ∃ c : UInt8, c = UInt8.ofNat (48 + m % 10) := ⟨_, rfl⟩
    have hcn : ((c.toNat : Nat) : Int) = 48 + (m : Int) % 10 := by
      have : c.toNat = 48 + m % 10 := by rw [hc]; simp; omega
      omega
    have CV : Hid (∀ w : World, (convert 40 9 (.slice (some ⟨w.heap.size, 0, none⟩) 1 1)).run Tryd.prog (w.alloc (.cells #[.int .u8 (48 + (m : Int) % 10)] 5)) = .ok (.string ⟨#[c]⟩) (w.alloc (.cells #[.int .u8 (48 + (m : Int) % 10)] 5))) := fun w => by
      rw [← hcn]
      refine run_convert_bytes_back (P := Tryd.prog) _ 40 9 5 ⟨w.heap.size, 0, none⟩ 1 [c] Tryd.underlying40 Tryd.underlying5 Tryd.underlying9 (fun i hi => ?_)
      have : i = 0 := by simp at hi; omega
      subst this
      rw [show (⟨w.heap.size, 0, none⟩ : Addr).add 0 = ⟨w.heap.size, 0, none⟩ by simp [Addr.add]]
      exact cell_at (heap_alloc_new w _) rfl
    clear hn0 hn15
    by_cases h9 : m ≤ 9
    · have hD : DD = [c] := by rw [hd1 h9, hc, show m % 10 = m by omega]
      have h9i : ¬ (9 : Int) < (m : Int) := by omega
      clear hd1 hd2 hc hcn h9
      go_enter Tryd.func7, Tryd.ntmps7
      go_wp2_with (first
        | (go_at_call 9; (with_reducible refine (PA.out _ I0).mono ?_); rintro e w1 ⟨rfl, g1⟩; have i1 := IS.out _ _ I0 g1; obtain ⟨x0, x1, x2, x3, x4, x5, x6, x7, y0, y1, y2, y3, y4, y5, y6, y7⟩ := IC.out _ i1)
        | (go_at_call 9; (with_reducible refine (PB.out _ i1).mono ?_); rintro e w2 ⟨rfl, g2⟩; have i2 := IS.out _ _ i1 g2; obtain ⟨x0, x1, x2, x3, x4, x5, x6, x7, y0, y1, y2, y3, y4, y5, y6, y7⟩ := IC.out _ i2)
        | (go_at_call 11; (with_reducible refine (FX.out _).mono ?_); rintro e w3 ⟨rfl, g3⟩; have i3 := IS.out _ _ i2 g3; have CV3 := CV.out w3; obtain ⟨x0, x1, x2, x3, x4, x5, x6, x7, y0, y1, y2, y3, y4, y5, y6, y7⟩ := IC.out _ i3; obtain ⟨p0, p1, p2, p3, p4, p5, p6, p7, pp0, pp1, pp2, pp3, pp4, pp5, pp6, pp7⟩ := IC.out _ (IS.out _ _ i3 (below_new w3 (.cells #[.int .u8 (48 + (m : Int) % 10)] 5))); obtain ⟨q0, q1, q2, q3, q4, q5, q6, q7, qq0, qq1, qq2, qq3, qq4, qq5, qq6, qq7⟩ := IC.out _ (IS.out _ _ (IS.out _ _ i3 (below_new w3 (.cells #[.int .u8 (48 + (m : Int) % 10)] 5))) (below_new (w3.alloc (.cells #[.int .u8 (48 + (m : Int) % 10)] 5)) (.cells #[.int .i64 ka, .int .i64 mna, .int .i64 mxa, .int .u64 a0, .int .u64 a1, .int .u64 a2, .int .u64 a3, .slice pa na ca, .int .i64 kb, .int .i64 mnb, .int .i64 mxb, .int .u64 b0, .int .u64 b1, .int .u64 b2, .int .u64 b3, .slice pb nb cb] 26))); obtain ⟨r0, r1, r2, r3, r4, r5, r6, r7, rr0, rr1, rr2, rr3, rr4, rr5, rr6, rr7⟩ := JC.out _ _ (JF2.out w3 (.cells #[.int .u8 (48 + (m : Int) % 10)] 5) i3))
        | (go_at_call 19; (with_reducible refine (K1.out _ ?_ _ _ (JF2.out w3 _ i3)).mono ?_); (· simp [dA, dB, hD]); rintro e w4 ⟨rfl, g4⟩; have j4 := JS.out _ _ _ (JF2.out w3 _ i3) g4; obtain ⟨x0, x1, x2, x3, x4, x5, x6, x7, y0, y1, y2, y3, y4, y5, y6, y7⟩ := JC.out _ _ j4)
        | (go_at_call 19; (with_reducible refine (K2.out _ ?_ _ _ j4).mono ?_); (· simp [dA, dB, hD]); rintro e w5 ⟨rfl, g5⟩; have j5 := JS.out _ _ _ j4 g5; obtain ⟨x0, x1, x2, x3, x4, x5, x6, x7, y0, y1, y2, y3, y4, y5, y6, y7⟩ := JC.out _ _ j5)
        | (go_at_call 19; (with_reducible refine (K3.out _ ?_ _ _ j5).mono ?_); (· simp [dA, dB, hD]); rintro e w6 ⟨rfl, g6⟩; have j6 := JS.out _ _ _ j5 g6; obtain ⟨x0, x1, x2, x3, x4, x5, x6, x7, y0, y1, y2, y3, y4, y5, y6, y7⟩ := JC.out _ _ j6)
        | (go_at_call 19; (with_reducible refine (K4.out _ ?_ _ _ j6).mono ?_); (· simp [dA, dB, hD]); rintro e w7 ⟨rfl, g7⟩; have j7 := JS.out _ _ _ j6 g7; obtain ⟨x0, x1, x2, x3, x4, x5, x6, x7, y0, y1, y2, y3, y4, y5, y6, y7⟩ := JC.out _ _ j7)
        | (go_at_call 20; (with_reducible refine (R5.out _ _ j7).mono ?_); rintro e w8 ⟨g8, ao, cap, rfl, l5⟩; have j8 := JS.out _ _ _ j7 g8; obtain ⟨x0, x1, x2, x3, x4, x5, x6, x7, y0, y1, y2, y3, y4, y5, y6, y7⟩ := JC.out _ _ j8)
        | (go_at_call 19; (with_reducible refine (K5.out _ ?_ _ _ _ l5).mono ?_); (· simp [dA, dB, hD]); rintro e w9 ⟨rfl, g9⟩; have j9 := JS.out _ _ _ j8 g9; obtain ⟨x0, x1, x2, x3, x4, x5, x6, x7, y0, y1, y2, y3, y4, y5, y6, y7⟩ := JC.out _ _ j9)
        | (go_at_call 19; (with_reducible refine (K6.out _ ?_ _ _ j9).mono ?_); (· simp [dA, dB, hD]); rintro e w10 ⟨rfl, g10⟩; have j10 := JS.out _ _ _ j9 g10; obtain ⟨x0, x1, x2, x3, x4, x5, x6, x7, y0, y1, y2, y3, y4, y5, y6, y7⟩ := JC.out _ _ j10)
        | (go_at_call 19; (with_reducible refine (K7.out _ ?_ _ _ j10).mono ?_); (· simp [dA, dB, hD]); rintro e w11 ⟨rfl, g11⟩; have j11 := JS.out _ _ _ j10 g11; obtain ⟨x0, x1, x2, x3, x4, x5, x6, x7, y0, y1, y2, y3, y4, y5, y6, y7⟩ := JC.out _ _ j11)
        | (go_at_call 19; (with_reducible refine (K8.out _ ?_ _ _ j11).mono ?_); (· simp [dA, dB, hD]); rintro e w12 ⟨rfl, g12⟩; have j12 := JS.out _ _ _ j11 g12; obtain ⟨x0, x1, x2, x3, x4, x5, x6, x7, y0, y1, y2, y3, y4, y5, y6, y7⟩ := JC.out _ _ j12)
        | (go_at_call 19; (with_reducible refine (K9.out _ ?_ _ _ j12).mono ?_); (· simp [dA, dB, hD]); rintro e w13 ⟨rfl, g13⟩; have j13 := JS.out _ _ _ j12 g13; obtain ⟨x0, x1, x2, x3, x4, x5, x6, x7, y0, y1, y2, y3, y4, y5, y6, y7⟩ := JC.out _ _ j13)
        | (go_at_call 19; (with_reducible refine (K10.out _ ?_ _ _ j13).mono ?_); (· simp [dA, dB, hD]); rintro e w14 ⟨rfl, g14⟩; have j14 := JS.out _ _ _ j13 g14; obtain ⟨x0, x1, x2, x3, x4, x5, x6, x7, y0, y1, y2, y3, y4, y5, y6, y7⟩ := JC.out _ _ j14)
        | (go_at_call 19; (with_reducible refine (K11.out _ ?_ _ _ j14).mono ?_); (· simp [dA, dB, hD]); rintro e w15 ⟨rfl, g15⟩; have j15 := JS.out _ _ _ j14 g15; obtain ⟨x0, x1, x2, x3, x4, x5, x6, x7, y0, y1, y2, y3, y4, y5, y6, y7⟩ := JC.out _ _ j15))
      go_ret
      exact ⟨rfl, BEL.out _ (JI.out _ _ j15)⟩
    · have hD : DD = [49, c] := by rw [hd2 (by omega), hc, show m % 10 = m - 10 by omega]
      have h9i : (9 : Int) < (m : Int) := by omega
      clear hd1 hd2 hc hcn h9
      go_enter Tryd.func7, Tryd.ntmps7
      go_wp2_with (first
        | (go_at_call 9; (with_reducible refine (PA.out _ I0).mono ?_); rintro e w1 ⟨rfl, g1⟩; have i1 := IS.out _ _ I0 g1; obtain ⟨x0, x1, x2, x3, x4, x5, x6, x7, y0, y1, y2, y3, y4, y5, y6, y7⟩ := IC.out _ i1)
        | (go_at_call 9; (with_reducible refine (PB.out _ i1).mono ?_); rintro e w2 ⟨rfl, g2⟩; have i2 := IS.out _ _ i1 g2; obtain ⟨x0, x1, x2, x3, x4, x5, x6, x7, y0, y1, y2, y3, y4, y5, y6, y7⟩ := IC.out _ i2)
        | (go_at_call 11; (with_reducible refine (FX.out _).mono ?_); rintro e w3 ⟨rfl, g3⟩; have i3 := IS.out _ _ i2 g3; have CV3 := CV.out w3; obtain ⟨x0, x1, x2, x3, x4, x5, x6, x7, y0, y1, y2, y3, y4, y5, y6, y7⟩ := IC.out _ i3; obtain ⟨p0, p1, p2, p3, p4, p5, p6, p7, pp0, pp1, pp2, pp3, pp4, pp5, pp6, pp7⟩ := IC.out _ (IS.out _ _ i3 (below_new w3 (.cells #[.int .u8 (48 + (m : Int) % 10)] 5))); obtain ⟨q0, q1, q2, q3, q4, q5, q6, q7, qq0, qq1, qq2, qq3, qq4, qq5, qq6, qq7⟩ := IC.out _ (IS.out _ _ (IS.out _ _ i3 (below_new w3 (.cells #[.int .u8 (48 + (m : Int) % 10)] 5))) (below_new (w3.alloc (.cells #[.int .u8 (48 + (m : Int) % 10)] 5)) (.cells #[.int .i64 ka, .int .i64 mna, .int .i64 mxa, .int .u64 a0, .int .u64 a1, .int .u64 a2, .int .u64 a3, .slice pa na ca, .int .i64 kb, .int .i64 mnb, .int .i64 mxb, .int .u64 b0, .int .u64 b1, .int .u64 b2, .int .u64 b3, .slice pb nb cb] 26))); obtain ⟨r0, r1, r2, r3, r4, r5, r6, r7, rr0, rr1, rr2, rr3, rr4, rr5, rr6, rr7⟩ := JC.out _ _ (JF2.out w3 (.cells #[.int .u8 (48 + (m : Int) % 10)] 5) i3))
        | (go_at_call 19; (with_reducible refine (K1.out _ ?_ _ _ (JF2.out w3 _ i3)).mono ?_); (· simp [dA, dB, hD]); rintro e w4 ⟨rfl, g4⟩; have j4 := JS.out _ _ _ (JF2.out w3 _ i3) g4; obtain ⟨x0, x1, x2, x3, x4, x5, x6, x7, y0, y1, y2, y3, y4, y5, y6, y7⟩ := JC.out _ _ j4)
        | (go_at_call 19; (with_reducible refine (K2.out _ ?_ _ _ j4).mono ?_); (· simp [dA, dB, hD]); rintro e w5 ⟨rfl, g5⟩; have j5 := JS.out _ _ _ j4 g5; obtain ⟨x0, x1, x2, x3, x4, x5, x6, x7, y0, y1, y2, y3, y4, y5, y6, y7⟩ := JC.out _ _ j5)
        | (go_at_call 19; (with_reducible refine (K3.out _ ?_ _ _ j5).mono ?_); (· simp [dA, dB, hD]); rintro e w6 ⟨rfl, g6⟩; have j6 := JS.out _ _ _ j5 g6; obtain ⟨x0, x1, x2, x3, x4, x5, x6, x7, y0, y1, y2, y3, y4, y5, y6, y7⟩ := JC.out _ _ j6)
        | (go_at_call 19; (with_reducible refine (K4.out _ ?_ _ _ j6).mono ?_); (· simp [dA, dB, hD]); rintro e w7 ⟨rfl, g7⟩; have j7 := JS.out _ _ _ j6 g7; obtain ⟨x0, x1, x2, x3, x4, x5, x6, x7, y0, y1, y2, y3, y4, y5, y6, y7⟩ := JC.out _ _ j7)
        | (go_at_call 20; (with_reducible refine (R5.out _ _ j7).mono ?_); rintro e w8 ⟨g8, ao, cap, rfl, l5⟩; have j8 := JS.out _ _ _ j7 g8; obtain ⟨x0, x1, x2, x3, x4, x5, x6, x7, y0, y1, y2, y3, y4, y5, y6, y7⟩ := JC.out _ _ j8)
        | (go_at_call 19; (with_reducible refine (K5.out _ ?_ _ _ _ l5).mono ?_); (· simp [dA, dB, hD]); rintro e w9 ⟨rfl, g9⟩; have j9 := JS.out _ _ _ j8 g9; obtain ⟨x0, x1, x2, x3, x4, x5, x6, x7, y0, y1, y2, y3, y4, y5, y6, y7⟩ := JC.out _ _ j9)
        | (go_at_call 19; (with_reducible refine (K6.out _ ?_ _ _ j9).mono ?_); (· simp [dA, dB, hD]); rintro e w10 ⟨rfl, g10⟩; have j10 := JS.out _ _ _ j9 g10; obtain ⟨x0, x1, x2, x3, x4, x5, x6, x7, y0, y1, y2, y3, y4, y5, y6, y7⟩ := JC.out _ _ j10)
        | (go_at_call 19; (with_reducible refine (K7.out _ ?_ _ _ j10).mono ?_); (· simp [dA, dB, hD]); rintro e w11 ⟨rfl, g11⟩; have j11 := JS.out _ _ _ j10 g11; obtain ⟨x0, x1, x2, x3, x4, x5, x6, x7, y0, y1, y2, y3, y4, y5, y6, y7⟩ := JC.out _ _ j11)
        | (go_at_call 19; (with_reducible refine (K8.out _ ?_ _ _ j11).mono ?_); (· simp [dA, dB, hD]); rintro e w12 ⟨rfl, g12⟩; have j12 := JS.out _ _ _ j11 g12; obtain ⟨x0, x1, x2, x3, x4, x5, x6, x7, y0, y1, y2, y3, y4, y5, y6, y7⟩ := JC.out _ _ j12)
        | (go_at_call 19; (with_reducible refine (K9.out _ ?_ _ _ j12).mono ?_); (· simp [dA, dB, hD]); rintro e w13 ⟨rfl, g13⟩; have j13 := JS.out _ _ _ j12 g13; obtain ⟨x0, x1, x2, x3, x4, x5, x6, x7, y0, y1, y2, y3, y4, y5, y6, y7⟩ := JC.out _ _ j13)
        | (go_at_call 19; (with_reducible refine (K10.out _ ?_ _ _ j13).mono ?_); (· simp [dA, dB, hD]); rintro e w14 ⟨rfl, g14⟩; have j14 := JS.out _ _ _ j13 g14; obtain ⟨x0, x1, x2, x3, x4, x5, x6, x7, y0, y1, y2, y3, y4, y5, y6, y7⟩ := JC.out _ _ j14)
        | (go_at_call 19; (with_reducible refine (K11.out _ ?_ _ _ j14).mono ?_); (· simp [dA, dB, hD]); rintro e w15 ⟨rfl, g15⟩; have j15 := JS.out _ _ _ j14 g15; obtain ⟨x0, x1, x2, x3, x4, x5, x6, x7, y0, y1, y2, y3, y4, y5, y6, y7⟩ := JC.out _ _ j15))
      go_ret
      exact ⟨rfl, BEL.out _ (JI.out _ _ j15)⟩
  · rw [← hea] at PA
    rw [← heb] at PB
    clear hza hzb hsa hsb hea heb hJ hI ha hb oa ob IB hX sa sb JS JI JF J
    generalize str (printS ta).1 = sA at *
    generalize str (printS tb).1 = sB at *
    generalize ta.list.length = na at *
    generalize tb.list.length = nb at *
    obtain ⟨ka, mna, mxa, a0, a1, a2, a3, la⟩ := ta
    obtain ⟨kb, mnb, mxb, b0, b1, b2, b3, lb⟩ := tb
    unfold Rx.val at *
    dsimp only [Rx.cells, cellsX] at *
    have IC : Hid (∀ wr, I wr → wr.cell? ⟨X, 0, none⟩ = some (.int .i64 ka) ∧ wr.cell? ⟨X, 1, none⟩ = some (.int .i64 mna) ∧ wr.cell? ⟨X, 2, none⟩ = some (.int .i64 mxa) ∧ wr.cell? ⟨X, 3, none⟩ = some (.int .u64 a0) ∧ wr.cell? ⟨X, 4, none⟩ = some (.int .u64 a1) ∧ wr.cell? ⟨X, 5, none⟩ = some (.int .u64 a2) ∧ wr.cell? ⟨X, 6, none⟩ = some (.int .u64 a3) ∧ wr.cell? ⟨X, 7, none⟩ = some (.slice pa na ca) ∧ wr.cell? ⟨X + 1, 0, none⟩ = some (.int .i64 kb) ∧ wr.cell? ⟨X + 1, 1, none⟩ = some (.int .i64 mnb) ∧ wr.cell? ⟨X + 1, 2, none⟩ = some (.int .i64 mxb) ∧ wr.cell? ⟨X + 1, 3, none⟩ = some (.int .u64 b0) ∧ wr.cell? ⟨X + 1, 4, none⟩ = some (.int .u64 b1) ∧ wr.cell? ⟨X + 1, 5, none⟩ = some (.int .u64 b2) ∧ wr.cell? ⟨X + 1, 6, none⟩ = some (.int .u64 b3) ∧ wr.cell? ⟨X + 1, 7, none⟩ = some (.slice pb nb cb)) := fun wr h => by
      obtain ⟨q0, q1, q2, q3, q4, q5, q6, q7⟩ := cells8 (IC' wr h).1
      obtain ⟨r0, r1, r2, r3, r4, r5, r6, r7⟩ := cells8 (IC' wr h).2
      exact ⟨q0, q1, q2, q3, q4, q5, q6, q7, r0, r1, r2, r3, r4, r5, r6, r7⟩
    clear IC'
    rw [hzz]
    by_cases h1 : ea = 0
    · subst h1
      by_cases h2 : eb = 0
      · subst h2
        by_cases h3 : n < 0
        · clear hgo
          go_enter Tryd.func7, Tryd.ntmps7
          go_wp2_with (first
            | (go_at_call 9; (with_reducible refine (PA.out _ I0).mono ?_); rintro e w1 ⟨rfl, g1⟩; have i1 := IS.out _ _ I0 g1; obtain ⟨x0, x1, x2, x3, x4, x5, x6, x7, y0, y1, y2, y3, y4, y5, y6, y7⟩ := IC.out _ i1)
            | (go_at_call 9; (with_reducible refine (PB.out _ i1).mono ?_); rintro e w2 ⟨rfl, g2⟩; have i2 := IS.out _ _ i1 g2; obtain ⟨x0, x1, x2, x3, x4, x5, x6, x7, y0, y1, y2, y3, y4, y5, y6, y7⟩ := IC.out _ i2)
            | (go_at_call 11; (with_reducible refine (FX.out _).mono ?_); rintro e w3 ⟨rfl, g3⟩; have i3 := IS.out _ _ i2 g3; obtain ⟨x0, x1, x2, x3, x4, x5, x6, x7, y0, y1, y2, y3, y4, y5, y6, y7⟩ := IC.out _ i3))
          go_ret
          exact ⟨rfl, BEL.out _ i3⟩
        · have h4 : 15 < n := by omega
          clear hgo
          go_enter Tryd.func7, Tryd.ntmps7
          go_wp2_with (first
            | (go_at_call 9; (with_reducible refine (PA.out _ I0).mono ?_); rintro e w1 ⟨rfl, g1⟩; have i1 := IS.out _ _ I0 g1; obtain ⟨x0, x1, x2, x3, x4, x5, x6, x7, y0, y1, y2, y3, y4, y5, y6, y7⟩ := IC.out _ i1)
            | (go_at_call 9; (with_reducible refine (PB.out _ i1).mono ?_); rintro e w2 ⟨rfl, g2⟩; have i2 := IS.out _ _ i1 g2; obtain ⟨x0, x1, x2, x3, x4, x5, x6, x7, y0, y1, y2, y3, y4, y5, y6, y7⟩ := IC.out _ i2)
            | (go_at_call 11; (with_reducible refine (FX.out _).mono ?_); rintro e w3 ⟨rfl, g3⟩; have i3 := IS.out _ _ i2 g3; obtain ⟨x0, x1, x2, x3, x4, x5, x6, x7, y0, y1, y2, y3, y4, y5, y6, y7⟩ := IC.out _ i3))
          go_ret
          exact ⟨rfl, BEL.out _ i3⟩
      · have h2b : (eb != 0) = true := by simpa using h2
        clear hgo h2
        go_enter Tryd.func7, Tryd.ntmps7
        go_wp2_with (first
          | (go_at_call 9; (with_reducible refine (PA.out _ I0).mono ?_); rintro e w1 ⟨rfl, g1⟩; have i1 := IS.out _ _ I0 g1; obtain ⟨x0, x1, x2, x3, x4, x5, x6, x7, y0, y1, y2, y3, y4, y5, y6, y7⟩ := IC.out _ i1)
          | (go_at_call 9; (with_reducible refine (PB.out _ i1).mono ?_); rintro e w2 ⟨rfl, g2⟩; have i2 := IS.out _ _ i1 g2; obtain ⟨x0, x1, x2, x3, x4, x5, x6, x7, y0, y1, y2, y3, y4, y5, y6, y7⟩ := IC.out _ i2)
          | (go_at_call 11; (with_reducible refine (FX.out _).mono ?_); rintro e w3 ⟨rfl, g3⟩; have i3 := IS.out _ _ i2 g3; obtain ⟨x0, x1, x2, x3, x4, x5, x6, x7, y0, y1, y2, y3, y4, y5, y6, y7⟩ := IC.out _ i3))
        go_ret
        exact ⟨rfl, BEL.out _ i3⟩
    · have h1b : (ea != 0) = true := by simpa using h1
      clear hgo h1
      go_enter Tryd.func7, Tryd.ntmps7
      go_wp2_with (first
        | (go_at_call 9; (with_reducible refine (PA.out _ I0).mono ?_); rintro e w1 ⟨rfl, g1⟩; have i1 := IS.out _ _ I0 g1; obtain ⟨x0, x1, x2, x3, x4, x5, x6, x7, y0, y1, y2, y3, y4, y5, y6, y7⟩ := IC.out _ i1)
        | (go_at_call 9; (with_reducible refine (PB.out _ i1).mono ?_); rintro e w2 ⟨rfl, g2⟩; have i2 := IS.out _ _ i1 g2; obtain ⟨x0, x1, x2, x3, x4, x5, x6, x7, y0, y1, y2, y3, y4, y5, y6, y7⟩ := IC.out _ i2)
        | (go_at_call 11; (with_reducible refine (FX.out _).mono ?_); rintro e w3 ⟨rfl, g3⟩; have i3 := IS.out _ _ i2 g3; obtain ⟨x0, x1, x2, x3, x4, x5, x6, x7, y0, y1, y2, y3, y4, y5, y6, y7⟩ := IC.out _ i3))
      go_ret
      exact ⟨rfl, BEL.out _ i3⟩
end Go.Proofs.YthejkelnjimogaaDoor
