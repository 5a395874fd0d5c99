/- One call on both memories, of any kind; a table picked out of a list of tables. Conditions: no list is longer than a machine holds. -/
import Derived.Test.YtnhfbeehoifddaaRfh
namespace Go.Proofs.Ytnhfbeehoifddaa
open Go.ChangeShapes Go.WideShapes Go.ChangeAt Go.RowKit Go.Deep Go.Maps
set_option linter.unusedVariables false

set_option maxRecDepth 20000 in
set_option maxHeartbeats 4000000 in
theorem doesE (w0 : World) (p g c p2 g2 c2 F : Nat) (B : Bts) (W : World) (h : MM w0 p g c p2 g2 c2 F B B W) (v : Value) (on kd oa ob oc : Int) (os : ByteArray) (k0 : ¬ kd = 0) (k1 : ¬ kd = 1) (k2 : ¬ kd = 2) (k3 : ¬ kd = 3) (k4 : ¬ kd = 4) (k5 : ¬ kd = 5) :
    Calls Try.prog 18 #[.pointer (some ⟨p, 0, none⟩), .pointer (some ⟨p2, 0, none⟩), v, .agg #[.int .i64 on, .int .i64 kd, .int .i64 oa, .int .i64 ob, .int .i64 oc, .string os]] W fun e w' => e = .returned (.bool true) ∧ DoesPost w0 p g c p2 g2 c2 F w' := by
  obtain ⟨w1, hw1⟩ : ∃ w1, w1 = W.alloc (.cells #[.int .i64 on, .int .i64 kd, .int .i64 oa, .int .i64 ob, .int .i64 oc, .string os] 35) := ⟨_, rfl⟩
  obtain ⟨X, hX⟩ : ∃ X, X = W.heap.size := ⟨_, rfl⟩
  have cb : w1.heap[X]? = some (.cells #[.int .i64 on, .int .i64 kd, .int .i64 oa, .int .i64 ob, .int .i64 oc, .string os] 35 (0, 0)) := by rw [hw1, hX]; exact block_new _ _
  have h1 : MM w0 p g c p2 g2 c2 F B B w1 := h.below (by rw [hw1]; exact (Below.refl _ W).alloc (Nat.le_refl _) _)
  have c1 : w1.cell? ⟨X, 1, none⟩ = some (.int .i64 kd) := by rw [cell_of_row _ _ _ _ _ _ cb]; rfl
  have k0' : (kd == 0) = false := by simpa using k0
  have k1' : (kd == 1) = false := by simpa using k1
  have k2' : (kd == 2) = false := by simpa using k2
  have k3' : (kd == 3) = false := by simpa using k3
  have k4' : (kd == 4) = false := by simpa using k4
  have k5' : (kd == 5) = false := by simpa using k5
  have HM := Lib.hid h1
  clear h h1 cb
  rw [hw1, hX] at c1
  rw [hw1] at HM
  go_enter Try.func18, Try.ntmps18
  go_wp2
  go_ret
  exact ⟨rfl, B, HM.out⟩
theorem does_any (w0 : World) (p g c p2 g2 c2 F : Nat) (B : Bts) (W : World) (h : MM w0 p g c p2 g2 c2 F B B W) (v : Value) (ps : List Pg) (ht : TabV (fun b => b < w0.heap.size) w0 v ps) (on kd oa ob oc : Int) (os : ByteArray) (hoa : In64 oa) (hob : In64 ob) (hoc : In64 oc) (hos : os.size ≤ 140737488351232) :
    Calls Try.prog 18 #[.pointer (some ⟨p, 0, none⟩), .pointer (some ⟨p2, 0, none⟩), v, .agg #[.int .i64 on, .int .i64 kd, .int .i64 oa, .int .i64 ob, .int .i64 oc, .string os]] W fun e w' => e = .returned (.bool true) ∧ DoesPost w0 p g c p2 g2 c2 F w' := by
  by_cases k0 : kd = 0
  · subst k0; exact does0 w0 p g c p2 g2 c2 F B W h v ps ht on oa ob oc os hoa hob hoc hos
  by_cases k1 : kd = 1
  · subst k1; exact does1 w0 p g c p2 g2 c2 F B W h v ps ht on oa ob oc os hoa hob hoc hos
  by_cases k2 : kd = 2
  · subst k2; exact does2 w0 p g c p2 g2 c2 F B W h v ps ht on oa ob oc os hoa hob hoc hos
  by_cases k3 : kd = 3
  · subst k3; exact does3 w0 p g c p2 g2 c2 F B W h v ps ht on oa ob oc os hoa hob hoc hos
  by_cases k4 : kd = 4
  · subst k4; exact does4 w0 p g c p2 g2 c2 F B W h v ps ht on oa ob oc os hoa hob hoc hos
  by_cases k5 : kd = 5
  · subst k5; exact does5 w0 p g c p2 g2 c2 F B W h v ps ht on oa ob oc os hoa hob hoc hos
  exact doesE w0 p g c p2 g2 c2 F B W h v on kd oa ob oc os k0 k1 k2 k3 k4 k5
/-- a list of tables that came in -/
def Tabs (W : World) (v : Value) (n : Nat) : Prop :=
  ∃ q cap, v = .slice q n cap ∧ n ≤ 17592186044416 ∧ ∀ i, i < n → ∃ b o vi ps, q = some ⟨b, o, none⟩ ∧ b < W.heap.size ∧ W.cell? ⟨b, o + i, none⟩ = some vi ∧ PgOk W vi ps
theorem Tabs.cell {W0 W : World} {b o n cap : Nat} (h : Tabs W0 (.slice (some ⟨b, o, none⟩) n cap) n) (hb : Below W0.heap.size W0 W) {i : Nat} (hi : i < n) : ∃ vi ps, W.cell? ⟨b, o + i, none⟩ = some vi ∧ PgOk W0 vi ps := by
  obtain ⟨q, cap', e, _, hc⟩ := h
  obtain ⟨b', o', vi, ps, e2, hlt, hcell, hok⟩ := hc i hi
  injection e with e
  rw [← e] at e2
  injection e2 with e2
  injection e2 with e2 e3
  subst e2 e3
  exact ⟨vi, ps, by simp only [World.cell?, hb.block b hlt]; exact hcell, hok⟩
set_option maxHeartbeats 2000000 in
theorem pick_any (W0 : World) (v : Value) (n : Nat) (ht : Tabs W0 v n) (on : Int) (hon : In64 on) (W : World) (hb : Below W0.heap.size W0 W) :
    Calls Try.prog 13 #[v, .int .i64 on] W fun e w' => (∃ vi ps, e = .returned vi ∧ TabV (fun b => b < W0.heap.size) W0 vi ps) ∧ W = w' := by
  obtain ⟨q, cap0, rfl⟩ : ∃ q cap, v = .slice q n cap := by obtain ⟨q, cap, e, _⟩ := ht; exact ⟨_, _, e⟩
  by_cases z : n = 0
  · subst z
    clear ht
    go_enter Try.func13, Try.ntmps13
    go_wp2
    go_ret
    exact ⟨⟨_, [], rfl, TabV.nil _ _⟩, rfl⟩
  · have hn44 : n ≤ 17592186044416 := by obtain ⟨_, _, _, h, _⟩ := ht; exact h
    obtain ⟨b, o, rfl⟩ : ∃ b o, q = some ⟨b, o, none⟩ := by
      obtain ⟨q', cap', e, _, hc⟩ := ht
      obtain ⟨b, o, _, _, e2, _⟩ := hc 0 (by omega)
      injection e with e
      exact ⟨b, o, by rw [e, e2]⟩
    obtain ⟨T, hT⟩ : ∃ T, T = on.tmod (n : Int) := ⟨_, rfl⟩
    have hT1 : T < n := by rw [hT]; exact Int.tmod_lt_of_pos _ (by omega)
    have hT2 : -(n : Int) < T := by rw [hT]; exact Int.lt_tmod_of_pos on (by omega)
    have ez : ((n : Int) == 0) = false := by simp; omega
    have hz0 : ¬ (n : Int) = 0 := by omega
    have hTs := hT.symm
    have hw : IntKind.i64.wrap T = T := wrap_in (by omega)
    by_cases neg : T < 0
    · obtain ⟨I, hI⟩ : ∃ I : Nat, (I : Int) = T + n := ⟨(T + n).toNat, by omega⟩
      obtain ⟨vi, ps, hcell, hok⟩ := ht.cell hb (i := I) (by omega)
      have hw2 : IntKind.i64.wrap (T + (n : Int)) = (I : Int) := by rw [wrap_in (by omega)]; omega
      have hI1 : (I : Int) < n := by omega
      have hI2 : I < n := by omega
      have HK := Lib.hid hok
      clear ht hb hok hT hI hon
      go_enter Try.func13, Try.ntmps13
      go_wp2

      go_ret
      exact ⟨⟨vi, ps, rfl, HK.out.1⟩, rfl⟩
    · obtain ⟨I, rfl⟩ : ∃ I : Nat, T = (I : Int) := ⟨T.toNat, by omega⟩
      obtain ⟨vi, ps, hcell, hok⟩ := ht.cell hb (i := I) (by omega)
      have hI2 : I < n := by omega
      have HK := Lib.hid hok
      clear ht hb hok hT hon
      go_enter Try.func13, Try.ntmps13
      go_wp2
      go_ret
      exact ⟨⟨vi, rfl, ps, HK.out.1⟩, rfl⟩
set_option maxRecDepth 100000 in
theorem tabs_of {H : Type} {enc : TypeId × Value → H} {W : World} {base : Nat} {v : Value} {d : DataW H} {p : List MemPlace} {held : Bool}
    (h : DataW.Trod enc Try.prog W base (fun _ => true) held 22 v d p) (hv : ∃ ao len cap, v = .slice ao len cap) (hwt : ∀ u ∈ d.weights Try.prog 22, u ≤ reachBytes) : ∃ n, Tabs W v n := by
  obtain ⟨ao, len, cap, rfl⟩ := hv
  obtain ⟨fuel, hf⟩ := h
  rcases DataW.trod_slice Try.underlying22 hf with ⟨hcs, _⟩ | ⟨a, len', cap', elems, rest, m, hm, hcs, hx, hb, hlc, hcm, hel, hev, _, _⟩
  · simp [Value.cells] at hcs
    obtain ⟨rfl, rfl, rfl⟩ := hcs
    exact ⟨0, none, 0, rfl, Nat.zero_le _, fun i hi => absurd hi (Nat.not_lt_zero _)⟩
  · simp [Value.cells] at hcs
    obtain ⟨rfl, rfl, rfl⟩ := hcs
    have hx' : d = _ := congrArg Prod.fst hx
    rw [hx', DataW.weights, Try.underlying22] at hwt
    have hfew : (elems.length + rest.length) * Try.prog.bytesOf 32 ≤ reachBytes := by
      have := hwt _ (List.mem_cons_self ..)
      simpa using this
    rw [show Try.prog.bytesOf 32 = 24 by kernel_rfl] at hfew
    have hR := reachBytes_lt
    have each : ∀ i, i < len → ∃ vi ps, W.cell? (a.add i) = some vi ∧ a.block < W.heap.size ∧ PgOk W vi ps := by
      intro i hi
      have he := hev i hi
      rw [show Try.prog.cellsOf 32 = 1 by kernel_rfl] at he
      obtain ⟨cs', hc', ht'⟩ := Option.bind_eq_some_iff.1 (he.trans (List.getElem?_eq_getElem (by omega)))
      obtain ⟨_, hlen', hcell⟩ := World.cells?_some hc'
      have q0 := hcell 0 (by omega)
      rw [add_add', Nat.mul_one, Nat.add_zero] at q0
      match cs', hlen' with
      | [c0], _ =>
        obtain ⟨ps, hps⟩ := pages_of (trod_up Try.underlying32 ht') (slice_trod Try.underlying32 ht') (fun u hu => hwt u (by
          refine List.mem_cons_of_mem _ (List.mem_append_left _ (mem_all (d := (elems[i]'(by omega)).1) ?_ u hu))
          exact List.mem_map.2 ⟨_, List.getElem_mem (by omega), rfl⟩))
        have := World.block_lt_of_cell? W _ q0
        rw [add_block] at this
        exact ⟨c0, ps, q0, this, hps⟩
    refine ⟨len, some a, cap, rfl, by omega, fun i hi => ?_⟩
    obtain ⟨vi, ps, g1, g2, g3⟩ := each i hi
    obtain ⟨b, o, spot⟩ := a
    have hz := (each 0 (by omega)).choose_spec.choose_spec.1
    have hspot : spot = none := by simpa [Addr.add] using World.cell?_spot hz
    subst hspot
    rw [addr_at] at g1
    exact ⟨b, o, vi, ps, rfl, g2, g1, g3⟩
end Go.Proofs.Ytnhfbeehoifddaa
