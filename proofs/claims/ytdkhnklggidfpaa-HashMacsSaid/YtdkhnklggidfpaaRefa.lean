/- The document's product of two numbers in digits of sixteen bits: what the call returns; nothing that was there turns. Conditions: the digits are below 2^16, of each number at most 64. -/
import Derived.Test.YtdkhnklggidfpaaRefm
import Derived.Test.YtdkhnklggidfpaaPad
import Derived.Laws.MakeOwn
import Derived.Laws.OwnMore
import Derived.IntWalk
namespace Go.Proofs.Ytdkhnklggidfpaa
open Go.RowKit
set_option linter.unusedVariables false

def cellL (x : Nat) : Value := .int .u64 (x : Int)
def ucells (l : List Nat) : Array Value := (l.map cellL).toArray
theorem ucells_size (l : List Nat) : (ucells l).size = l.length := by simp [ucells]
theorem ucells_at (l : List Nat) (i : Nat) (h : i < l.length) : (ucells l)[i]? = some (.int .u64 (l.getD i 0 : Nat)) := by
  simp [ucells, cellL, List.getElem?_eq_getElem h]
theorem ucells_set (l : List Nat) (i : Nat) (x : Nat) : (ucells l).setIfInBounds i (.int .u64 (x : Int)) = ucells (l.set i x) := by
  unfold ucells
  rw [List.setIfInBounds_toArray, show Value.int .u64 (x : Int) = cellL x from rfl, ← List.map_set]
/-- block g begins with these numbers of 64 bits -/
def RowU (w : World) (g : Nat) (l : List Nat) : Prop := g < w.heap.size ∧ ∀ i, i < l.length → w.cell? ⟨g, i, none⟩ = some (.int .u64 (l.getD i 0 : Nat))
theorem RowU.of_block {w : World} {g : Nat} {l : List Nat} {t : TypeId} {fr : Nat × Nat} (h : w.heap[g]? = some (.cells (ucells l) t fr)) : RowU w g l :=
  ⟨block_lt h, fun i hi => by rw [cell_of_row w g i _ _ _ h, ucells_at l i hi]⟩
theorem RowU.below {w w' : World} {B g : Nat} {l : List Nat} (h : RowU w g l) (hb : Below B w w') (hg : g < B) : RowU w' g l :=
  ⟨Nat.lt_of_lt_of_le h.1 hb.size, fun i hi => by rw [hb.cell (p := ⟨g, i, none⟩) hg]; exact h.2 i hi⟩

theorem inn_len (x i : Nat) (b o : List Nat) : ∀ k, (inn x i b o k).1.length = o.length
  | 0 => rfl
  | k + 1 => by simp only [inn, List.length_set]; exact inn_len x i b o k
theorem tim_len (a b : List Nat) : ∀ i, (tim a b i).length = a.length + b.length
  | 0 => by simp [tim]
  | i + 1 => by simp only [tim, List.length_set, inn_len]; exact tim_len a b i
theorem timesL_len (a b : List Nat) : (timesL a b).length = a.length + b.length := tim_len a b _
theorem getD_lt {l : List Nat} {B : Nat} (h : ∀ x ∈ l, x < B) (hB : 0 < B) (i : Nat) : l.getD i 0 < B := by
  rw [List.getD_eq_getElem?_getD]
  cases hi : l[i]? with
  | none => exact hB
  | some x => exact h x (List.mem_of_getElem? hi)
theorem step_lt {c o x y : Nat} (hc : c < 65536) (ho : o < 65536) (hx : x < 65536) (hy : y < 65536) : c + (o + x * y) < 4294967296 := by
  have : x * y ≤ 65535 * 65535 := Nat.mul_le_mul (by omega) (by omega)
  omega
theorem inn_lt {x i : Nat} {b o : List Nat} (hx : x < 65536) (hb : ∀ y ∈ b, y < 65536) (ho : ∀ y ∈ o, y < 65536) : ∀ k, (inn x i b o k).2 < 65536 ∧ ∀ y ∈ (inn x i b o k).1, y < 65536
  | 0 => ⟨by simp [inn], ho⟩
  | k + 1 => by
    obtain ⟨h1, h2⟩ := inn_lt (i := i) hx hb ho k
    have h3 := step_lt h1 (getD_lt h2 (by decide) (i + k)) hx (getD_lt hb (by decide) k)
    refine ⟨?_, ?_⟩
    · simp only [inn]; omega
    · intro y hy
      simp only [inn] at hy
      rcases List.mem_or_eq_of_mem_set hy with hy | rfl
      · exact h2 y hy
      · omega
theorem tim_lt {a b : List Nat} (ha : ∀ y ∈ a, y < 65536) (hb : ∀ y ∈ b, y < 65536) : ∀ i, ∀ y ∈ tim a b i, y < 65536
  | 0 => by intro y hy; simp [tim] at hy; omega
  | i + 1 => by
    intro y hy
    have h := inn_lt (i := i) (getD_lt ha (by decide) i) hb (tim_lt ha hb i) b.length
    simp only [tim] at hy
    rcases List.mem_or_eq_of_mem_set hy with hy | rfl
    · exact h.2 y hy
    · exact h.1
theorem timesL_lt {a b : List Nat} (ha : ∀ y ∈ a, y < 65536) (hb : ∀ y ∈ b, y < 65536) : ∀ y ∈ timesL a b, y < 65536 := tim_lt ha hb _

theorem Try.info56 : (Try.prog.info? 56).map (fun i => (i.zero, i.size, i.bytes)) = some (some (.int .u64 0), 1, 8) := by kernel_rfl
theorem made_zero (n : Nat) : madeCells (Value.int .u64 0).cells n = ucells (List.replicate n 0) := by
  apply Array.toList_inj.1
  show (madeCells #[Value.int .u64 0] n).toList = _
  rw [toList_madeCells_one]
  simp [ucells, cellL]

set_option maxRecDepth 100000 in
set_option maxHeartbeats 2000000 in
theorem times_any (ga gb ca cb : Nat) (a b : List Nat) (w : World) (ha : RowU w ga a) (hb : RowU w gb b) (la : a.length ≤ 64) (lb : b.length ≤ 64) (da : ∀ y ∈ a, y < 65536) (db : ∀ y ∈ b, y < 65536) :
    Calls Try.prog 45 #[.slice (some ⟨ga, 0, none⟩) a.length ca, .slice (some ⟨gb, 0, none⟩) b.length cb] w fun e w' => e = .returned (.slice (some ⟨w.heap.size, 0, none⟩) (a.length + b.length) (a.length + b.length)) ∧ RowU w' w.heap.size (timesL a b) ∧ Below w.heap.size w w' := by
  obtain ⟨i0, hi, hz0, hz1, hz2⟩ := info_parts Try.info56
  obtain ⟨G, hG⟩ : ∃ G, G = w.heap.size := ⟨_, rfl⟩
  have hmk : (Instr.makeSlice 59 (.int .i64 ((a.length : Int) + (b.length : Int))) (.int .i64 ((a.length : Int) + (b.length : Int)))).run Try.prog w = .ok (.slice (some ⟨G, 0, none⟩) (a.length + b.length) (a.length + b.length)) (w.alloc (.cells (ucells (tim a b 0)) 56)) := by
    have h := run_make (P := Try.prog) w 59 56 i0 _ Try.underlying59 hi hz0 .i64 .i64 ((a.length : Int) + (b.length : Int)) ((a.length : Int) + (b.length : Int)) (by omega) (Int.le_refl _) (by rw [hz2]; omega) (by omega)
    rw [h, hz1, hG, show ((a.length : Int) + (b.length : Int)).toNat = a.length + b.length by omega, Nat.mul_one, made_zero]
    rfl
  have hrow : (w.alloc (.cells (ucells (tim a b 0)) 56)).heap[G]? = some (.cells (ucells (tim a b 0)) 56 (0, 0)) := by rw [hG]; exact block_new _ _
  have hbel : Below G w (w.alloc (.cells (ucells (tim a b 0)) 56)) := by rw [hG]; exact (Below.refl _ _).alloc (Nat.le_refl _) _
  have hga : ga < G := by rw [hG]; exact ha.1
  have hgb : gb < G := by rw [hG]; exact hb.1
  have HA := Lib.hid ha.2
  have HB := Lib.hid hb.2
  have HG := Lib.hid hG
  have HDA := Lib.hid da
  have HDB := Lib.hid db
  generalize w.alloc (.cells (ucells (tim a b 0)) 56) = w0 at *
  rw [← hG]
  clear hi hz0 hz1 hz2 ha hb hG da db
  have hw1 : IntKind.i64.wrap ((a.length : Int) + (b.length : Int)) = (a.length : Int) + (b.length : Int) := IntWalk.i64_in _ (by omega)
  go_enter Try.func45, Try.ntmps45
  go_wp2
  clear hmk hw1
  go_loopw [6, 7, 8] (fun i _ _ wr => ∃ n : Nat, n ≤ a.length ∧ i = .int .i64 n ∧ wr.heap[G]? = some (.cells (ucells (tim a b n)) 56 (0, 0)) ∧ Below G w wr) (fun i _ _ _ => a.length - (intOf i).toNat)
  case atStart => exact ⟨0, by omega, rfl, hrow, hbel⟩
  case round =>
    obtain ⟨n, hn, rfl, hr, hbe⟩ := hrel
    clear hrow hbel
    by_cases hlt : n < a.length
    · go_wp2
      have hl0 := tim_len a b n
      have ho0 := tim_lt HDA.out HDB.out n
      have hx0 := getD_lt HDA.out (by decide) n
      have hax := HA.out n hlt
      obtain ⟨x, hx⟩ : ∃ x, x = a.getD n 0 := ⟨_, rfl⟩
      obtain ⟨o, ho⟩ : ∃ o, o = tim a b n := ⟨_, rfl⟩
      have hnx : Hid (tim a b (n + 1) = ((inn x n b o b.length).1).set (n + b.length) (inn x n b o b.length).2) := by unfold Hid; rw [hx, ho]; rfl
      rw [← hx] at hx0 hax
      rw [← ho] at hl0 ho0 hr
      clear hx ho
      have HO := Lib.hid ho0
      have HL := Lib.hid hl0
      clear ho0 hl0
      go_loopw [7, 8] (fun c k wr => ∃ m : Nat, m ≤ b.length ∧ k = .int .i64 m ∧ c = .int .u64 ((inn x n b o m).2 : Nat) ∧ wr.heap[G]? = some (.cells (ucells (inn x n b o m).1) 56 (0, 0)) ∧ Below G w wr) (fun _ k _ => b.length - (intOf k).toNat)
      case atStart => exact ⟨0, by omega, rfl, rfl, hr, hbe⟩
      case round =>
        obtain ⟨m, hm, rfl, rfl, hr2, hb2⟩ := hrel
        clear hr hbe
        by_cases hlm : m < b.length
        · have hi2 := inn_lt (i := n) hx0 HDB.out HO.out m
          have hol := getD_lt hi2.2 (by decide) (n + m)
          have hyl := getD_lt HDB.out (by decide) m
          have hst := step_lt hi2.1 hol hx0 hyl
          have hcl := hi2.1
          have hll : (inn x n b o m).1.length = a.length + b.length := by rw [inn_len, HL.out]
          have c1 : wr.cell? ⟨G, n + m, none⟩ = some (.int .u64 ((inn x n b o m).1.getD (n + m) 0 : Nat)) := by
            rw [cell_of_row wr G _ _ _ _ hr2, ucells_at _ _ (by rw [hll]; omega)]
          have c2 : wr.cell? ⟨ga, n, none⟩ = some (.int .u64 (x : Nat)) := by rw [hb2.cell (p := ⟨ga, n, none⟩) hga]; exact hax
          have c3 : wr.cell? ⟨gb, m, none⟩ = some (.int .u64 (b.getD m 0 : Nat)) := by rw [hb2.cell (p := ⟨gb, m, none⟩) hgb]; exact HB.out m hlm
          have hfree : wr.frozen? ⟨G, n + m, none⟩ = false := block_free hr2
          have HN : Hid (inn x n b o (m + 1) = (((inn x n b o m).1).set (n + m) (((inn x n b o m).2 + (((inn x n b o m).1).getD (n + m) 0 + x * b.getD m 0)) % 65536), ((inn x n b o m).2 + (((inn x n b o m).1).getD (n + m) 0 + x * b.getD m 0)) / 65536)) := rfl
          have HR2 := Lib.hid hr2
          clear hi2 hr2 hll
          generalize (inn x n b o m).1 = O at *
          generalize (inn x n b o m).2 = C at *
          generalize O.getD (n + m) 0 = oo at *
          generalize b.getD m 0 = y at *
          obtain ⟨pp, hpp⟩ : ∃ pp, pp = x * y := ⟨_, rfl⟩
          have hmul : (x : Int) * (y : Int) = (pp : Int) := by rw [hpp]; simp
          rw [← hpp] at hst HN
          clear hpp
          have f1 : IntKind.i64.wrap ((n : Int) + (m : Int)) = (n : Int) + (m : Int) := IntWalk.i64_in _ (by omega)
          have f2 : (0 : Int) ≤ (n : Int) + (m : Int) := by omega
          have f3 : ((n : Int) + (m : Int)).toNat = n + m := by omega
          have f4 : (n : Int) + (m : Int) < (a.length : Int) + (b.length : Int) := by omega
          go_wp2
          go_quiet (fail)
          have hr3 : (wr.drewN nq).heap[G]? = some (.cells (ucells O) 56 (0, 0)) := HR2.out
          have hb3 : Below G w (wr.drewN nq) := ⟨hb2.os, hb2.tape, hb2.output, hb2.size, hb2.block⟩
          have c13 : (wr.drewN nq).cell? ⟨G, n + m, none⟩ = some (.int .u64 (oo : Nat)) := c1
          have hf3 : (wr.drewN nq).frozen? ⟨G, n + m, none⟩ = false := hfree
          clear c1 c2 c3 hfree hb2 HR2
          generalize wr.drewN nq = w3 at *
          have hand : bits BinOp.and IntKind.u64 ((C : Int) + ((oo : Int) + (pp : Int))) 65535 = (((C + (oo + pp)) % 65536 : Nat) : Int) := by
            have h := u64_and_nat (C + (oo + pp)) 65535 (by omega) (by decide)
            rw [nat_mask16, show ((C + (oo + pp) : Nat) : Int) = (C : Int) + ((oo : Int) + (pp : Int)) by omega] at h
            exact h
          obtain ⟨lo, hlo⟩ : ∃ lo, lo = (C + (oo + pp)) % 65536 := ⟨_, rfl⟩
          rw [← hlo] at hand HN
          have HLO := Lib.hid hlo
          have HR3 := Lib.hid hr3
          clear hlo hr3
          go_wp2
          go_roundw
          case rel =>
            refine ⟨m + 1, by omega, by go_num, ?_, ?_, hb3.setCell (by exact Nat.le_refl _) _⟩
            · rw [HN.out]; go_num
            · rw [block_setCell HR3.out, ucells_set, HN.out]
          case measure => simp [intOf]; omega
        · have hmb : m = b.length := by omega
          subst hmb
          have hi2 := inn_lt (i := n) hx0 HDB.out HO.out b.length
          have hll : (inn x n b o b.length).1.length = a.length + b.length := by rw [inn_len, HL.out]
          have hr3 := Lib.hid hr2
          have c13 : wr.cell? ⟨G, n + b.length, none⟩ = some (.int .u64 ((inn x n b o b.length).1.getD (n + b.length) 0 : Nat)) := by
            rw [cell_of_row wr G _ _ _ _ hr2, ucells_at _ _ (by rw [hll]; omega)]
          have hf3 : wr.frozen? ⟨G, n + b.length, none⟩ = false := block_free hr2
          clear hr2 hi2 hll
          generalize (inn x n b o b.length).1 = O at *
          generalize (inn x n b o b.length).2 = C at *
          generalize O.getD (n + b.length) 0 = oo at *
          have f1 : IntKind.i64.wrap ((n : Int) + (b.length : Int)) = (n : Int) + (b.length : Int) := IntWalk.i64_in _ (by omega)
          have f2 : (0 : Int) ≤ (n : Int) + (b.length : Int) := by omega
          have f3 : ((n : Int) + (b.length : Int)).toNat = n + b.length := by omega
          have f4 : (n : Int) + (b.length : Int) < (a.length : Int) + (b.length : Int) := by omega
          go_wp2
          go_roundw
          case rel =>
            refine ⟨n + 1, by omega, by go_num, ?_, hb2.setCell (by exact Nat.le_refl _) _⟩
            rw [block_setCell hr3.out, ucells_set, hnx.out]
          case measure => simp [intOf]; omega
    · have hna : n = a.length := by omega
      subst hna
      have hre : RowU wr G (timesL a b) := RowU.of_block hr
      clear hr
      go_wp2
      go_ret
      exact ⟨rfl, hre, hbe⟩
end Go.Proofs.Ytdkhnklggidfpaa
