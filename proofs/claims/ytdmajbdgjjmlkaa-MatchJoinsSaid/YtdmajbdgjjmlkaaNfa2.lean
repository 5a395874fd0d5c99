/- What the states of an expression take is its language: nothing of the program. No conditions. -/
import Derived.Test.YtdmajbdgjjmlkaaNfa
namespace Go.Proofs.Ytdmajbdgjjmlkaa
set_option linter.unusedVariables false

theorem Rx.ind {P : Rx → Prop} (h : ∀ k mn mx s0 s1 s2 s3 l, (∀ x ∈ l, P x) → P (.mk k mn mx s0 s1 s2 s3 l)) : ∀ t, P t := by
  intro t
  refine Rx.rec (motive_1 := P) (motive_2 := fun l => ∀ x ∈ l, P x) ?_ ?_ ?_ t
  · intro k mn mx s0 s1 s2 s3 l ih
    exact h k mn mx s0 s1 s2 s3 l ih
  · intro x hx; cases hx
  · intro x l hx hl y hy
    rcases List.mem_cons.1 hy with rfl | hy
    · exact hx
    · exact hl y hy

theorem hasB_zero (b : UInt8) : hasB 0 0 0 0 b = false := by
  unfold hasB
  have : (if b.toNat / 64 = 0 then (0 : Int) else if b.toNat / 64 = 1 then 0 else if b.toNat / 64 = 2 then 0 else 0) = 0 := by
    split
    · rfl
    · split
      · rfl
      · split <;> rfl
  rw [this]
  simp
theorem Sta.empty_eq {x : Sta} (h : x.empty = true) : x.s0 = 0 ∧ x.s1 = 0 ∧ x.s2 = 0 ∧ x.s3 = 0 := by
  unfold Sta.empty at h
  simp only [Bool.and_eq_true, beq_iff_eq] at h
  exact ⟨h.1.1.1, h.1.1.2, h.1.2, h.2⟩
theorem Sta.no_read {x : Sta} (h : x.empty = true) (b : UInt8) : x.reads b = false := by
  obtain ⟨e0, e1, e2, e3⟩ := Sta.empty_eq h
  unfold Sta.reads
  rw [e0, e1, e2, e3, hasB_zero]
theorem bitN_bit (i j : Nat) : (bitN i).testBit j = decide (i = j) := by
  unfold bitN
  rw [Nat.testBit_two_pow]
theorem acc_eps {L : List Sta} {n p : Nat} {x : Sta} {s : Bs} (hx : L[p]? = some x) (he : x.empty = true) (hp : p ≠ 0) (h : Acc L n p s) :
    ∃ m q, n = m + 1 ∧ x.nx.testBit q = true ∧ Acc L m q s := by
  cases h with
  | fin => exact absurd rfl hp
  | eps n p q y s hy he' hq h => rw [hx] at hy; cases hy; exact ⟨n, q, rfl, hq, h⟩
  | byte n p q y b s hy hb hq h => rw [hx] at hy; cases hy; rw [Sta.no_read he] at hb; cases hb
theorem acc_set {L : List Sta} {n p : Nat} {x : Sta} {s : Bs} (hx : L[p]? = some x) (he : x.empty = false) (hp : p ≠ 0) (h : Acc L n p s) :
    ∃ m q b s', n = m + 1 ∧ s = b :: s' ∧ x.reads b = true ∧ x.nx.testBit q = true ∧ Acc L m q s' := by
  cases h with
  | fin => exact absurd rfl hp
  | eps n p q y s hy he' hq h => rw [hx] at hy; cases hy; rw [he] at he'; cases he'
  | byte n p q y b s hy hb hq h => rw [hx] at hy; cases hy; exact ⟨n, q, b, s, rfl, rfl, hb, hq, h⟩

/-- what laying has done: all that is ahead stays, what is new leads to what is there -/
structure Laid (A : Bs → Prop) (L : List Sta) (nx : Nat) (r : Nat × List Sta) : Prop where
  len : L.length ≤ r.2.length
  pre : ∀ i, i < L.length → r.2[i]? = L[i]?
  at_ : r.1 < r.2.length
  new : L.length ≤ r.1 ∨ r.1 = nx
  bits : ∀ i x, L.length ≤ i → r.2[i]? = some x → ∀ q, x.nx.testBit q = true → q < r.2.length
  to : ∀ L3 : List Sta, (∀ i, L.length ≤ i → i < r.2.length → L3[i]? = r.2[i]?) → ∀ n s, Acc L3 n r.1 s → ∃ u v m, s = u ++ v ∧ A u ∧ m ≤ n ∧ Acc L3 m nx v
  of : ∀ L3 : List Sta, (∀ i, L.length ≤ i → i < r.2.length → L3[i]? = r.2[i]?) → ∀ u v, A u → Takes L3 nx v → Takes L3 r.1 (u ++ v)
/-- a way to lay states -/
def Lays (A : Bs → Prop) (f : Nat → List Sta → Nat × List Sta) : Prop := ∀ L nx, 0 < L.length → nx < L.length → Laid A L nx (f nx L)
theorem lays_nil : Lays (fun s => s = []) (fun nx L => (nx, L)) := fun L nx h0 hn =>
  ⟨Nat.le_refl _, fun _ _ => rfl, hn, .inr rfl, fun i x hi hx => by
    have := (List.getElem?_eq_some_iff.1 hx).1
    have hi' : L.length ≤ i := hi
    have this' : i < L.length := this
    omega,
   fun L3 _ n s h => ⟨[], s, n, rfl, rfl, Nat.le_refl _, h⟩, fun L3 _ u v hu h => by subst hu; exact h⟩
theorem Laid.congr {A B : Bs → Prop} {L : List Sta} {nx : Nat} {r : Nat × List Sta} (h : Laid A L nx r) (e : ∀ s, A s ↔ B s) : Laid B L nx r :=
  ⟨h.len, h.pre, h.at_, h.new, h.bits, fun L3 a n s q => by
    obtain ⟨u, v, m, h1, h2, h3⟩ := h.to L3 a n s q
    exact ⟨u, v, m, h1, (e u).1 h2, h3⟩, fun L3 a u v hu hv => h.of L3 a u v ((e u).2 hu) hv⟩
/-- a row of two: the second one is laid first -/
theorem Laid.cat {A B : Bs → Prop} {L : List Sta} {nx : Nat} {r1 r2 : Nat × List Sta} (h0 : 0 < L.length) (h1 : Laid B L nx r1) (h2 : Laid A r1.2 r1.1 r2) : Laid (Cat A B) L nx r2 := by
  have ag1 : ∀ L3 : List Sta, (∀ i, L.length ≤ i → i < r2.2.length → L3[i]? = r2.2[i]?) → ∀ i, L.length ≤ i → i < r1.2.length → L3[i]? = r1.2[i]? := fun L3 a i hi hl => by
    rw [a i hi (Nat.lt_of_lt_of_le hl h2.len), h2.pre i hl]
  have ag2 : ∀ L3 : List Sta, (∀ i, L.length ≤ i → i < r2.2.length → L3[i]? = r2.2[i]?) → ∀ i, r1.2.length ≤ i → i < r2.2.length → L3[i]? = r2.2[i]? := fun L3 a i hi hl => a i (Nat.le_trans h1.len hi) hl
  refine ⟨Nat.le_trans h1.len h2.len, fun i hi => by rw [h2.pre i (Nat.lt_of_lt_of_le hi h1.len), h1.pre i hi], h2.at_, ?_, ?_, ?_, ?_⟩
  · rcases h2.new with h | h
    · exact .inl (Nat.le_trans h1.len h)
    · rw [h]; exact h1.new
  · intro i x hi hx q hq
    by_cases c : r1.2.length ≤ i
    · exact h2.bits i x c hx q hq
    · rw [h2.pre i (by omega)] at hx
      exact Nat.lt_of_lt_of_le (h1.bits i x hi hx q hq) h2.len
  · intro L3 a n s h
    obtain ⟨u, v, m, rfl, hu, hm, hv⟩ := h2.to L3 (ag2 L3 a) n s h
    obtain ⟨u', v', m', rfl, hu', hm', hv'⟩ := h1.to L3 (ag1 L3 a) m v hv
    exact ⟨u ++ u', v', m', by simp, ⟨u, u', rfl, hu, hu'⟩, by omega, hv'⟩
  · intro L3 a u v hu hv
    obtain ⟨x, y, rfl, hx, hy⟩ := hu
    rw [List.append_assoc]
    exact h2.of L3 (ag2 L3 a) x _ hx (h1.of L3 (ag1 L3 a) y v hy hv)
theorem Lays.cat {A B : Bs → Prop} {f g : Nat → List Sta → Nat × List Sta} (hf : Lays A f) (hg : Lays B g) : Lays (Cat A B) (fun nx L => f (g nx L).1 (g nx L).2) := fun L nx h0 hn => by
  have h1 := hg L nx h0 hn
  exact h1.cat h0 (hf _ _ (Nat.lt_of_lt_of_le h0 h1.len) h1.at_)
/-- a state by itself -/
theorem lays_set (s0 s1 s2 s3 : Int) (hne : noS s0 s1 s2 s3 = false) : Lays (fun s => ∃ b, s = [b] ∧ hasB s0 s1 s2 s3 b = true) (fun nx L => (L.length, L ++ [⟨s0, s1, s2, s3, bitN nx⟩])) := fun L nx h0 hn => by
  have hat : ∀ L3 : List Sta, (∀ i, L.length ≤ i → i < (L ++ [(⟨s0, s1, s2, s3, bitN nx⟩ : Sta)]).length → L3[i]? = (L ++ [(⟨s0, s1, s2, s3, bitN nx⟩ : Sta)])[i]?) → L3[L.length]? = some ⟨s0, s1, s2, s3, bitN nx⟩ := fun L3 a => by
    rw [a _ (Nat.le_refl _) (by simp)]; simp
  have he : (⟨s0, s1, s2, s3, bitN nx⟩ : Sta).empty = false := by
    unfold Sta.empty
    unfold noS at hne
    exact hne
  refine ⟨by simp, fun i hi => by simp [List.getElem?_append_left hi], by simp, .inl (Nat.le_refl _), ?_, ?_, ?_⟩
  · intro i x hi hx q hq
    have hi2 := (List.getElem?_eq_some_iff.1 hx).1
    simp at hi2
    have : i = L.length := by omega
    subst this
    simp at hx
    subst hx
    rw [bitN_bit] at hq
    have := of_decide_eq_true hq
    simp; omega
  · intro L3 a n s h
    obtain ⟨m, q, b, s', rfl, rfl, hb, hq, h'⟩ := acc_set (hat L3 a) he (by show L.length ≠ 0; omega) h
    rw [bitN_bit] at hq
    have := of_decide_eq_true hq
    subst this
    exact ⟨[b], s', m, rfl, ⟨b, rfl, hb⟩, by omega, h'⟩
  · rintro L3 a u v ⟨b, rfl, hb⟩ ⟨n, hv⟩
    exact ⟨n + 1, .byte n _ nx _ b v (hat L3 a) hb (by rw [bitN_bit]; simp) hv⟩
/-- a state that leads on by nothing read, on top of what some ways laid: bs are their beginnings -/
theorem laid_top {L L1 : List Sta} {nx bs : Nat} {A : Bs → Prop} (h0 : 0 < L.length) (hlen : L.length ≤ L1.length) (hpre : ∀ i, i < L.length → L1[i]? = L[i]?)
    (hb1 : ∀ q, bs.testBit q = true → q < L1.length) (hbits : ∀ i x, L.length ≤ i → L1[i]? = some x → ∀ q, x.nx.testBit q = true → q < L1.length)
    (hto : ∀ L3 : List Sta, (∀ i, L.length ≤ i → i < L1.length → L3[i]? = L1[i]?) → ∀ q, bs.testBit q = true → ∀ n s, Acc L3 n q s → ∃ u v m, s = u ++ v ∧ A u ∧ m ≤ n ∧ Acc L3 m nx v)
    (hof : ∀ L3 : List Sta, (∀ i, L.length ≤ i → i < L1.length → L3[i]? = L1[i]?) → ∀ u v, A u → Takes L3 nx v → ∃ q, bs.testBit q = true ∧ Takes L3 q (u ++ v)) :
    Laid A L nx (L1.length, L1 ++ [⟨0, 0, 0, 0, bs⟩]) := by
  have hat : ∀ L3 : List Sta, (∀ i, L.length ≤ i → i < (L1 ++ [(⟨0, 0, 0, 0, bs⟩ : Sta)]).length → L3[i]? = (L1 ++ [(⟨0, 0, 0, 0, bs⟩ : Sta)])[i]?) → L3[L1.length]? = some ⟨0, 0, 0, 0, bs⟩ := fun L3 a => by
    rw [a _ hlen (by simp)]; simp
  have hag : ∀ L3 : List Sta, (∀ i, L.length ≤ i → i < (L1 ++ [(⟨0, 0, 0, 0, bs⟩ : Sta)]).length → L3[i]? = (L1 ++ [(⟨0, 0, 0, 0, bs⟩ : Sta)])[i]?) → ∀ i, L.length ≤ i → i < L1.length → L3[i]? = L1[i]? := fun L3 a i hi hl => by
    rw [a i hi (by simp; omega), List.getElem?_append_left hl]
  have he : (⟨0, 0, 0, 0, bs⟩ : Sta).empty = true := rfl
  refine ⟨by simp; omega, fun i hi => by show (L1 ++ _)[i]? = _; rw [List.getElem?_append_left (by omega)]; exact hpre i hi, by simp, .inl hlen, ?_, ?_, ?_⟩
  · intro i x hi hx q hq
    show q < (L1 ++ [(⟨0, 0, 0, 0, bs⟩ : Sta)]).length
    rw [List.length_append, List.length_singleton]
    have hx' : (L1 ++ [(⟨0, 0, 0, 0, bs⟩ : Sta)])[i]? = some x := hx
    by_cases c : i < L1.length
    · rw [List.getElem?_append_left c] at hx'
      have := hbits i x hi hx' q hq
      omega
    · have hi2 := (List.getElem?_eq_some_iff.1 hx').1
      simp at hi2
      have e : i = L1.length := by omega
      subst e
      simp at hx'
      subst hx'
      have := hb1 q hq
      omega
  · intro L3 a n s h
    obtain ⟨m, q, rfl, hq, h'⟩ := acc_eps (hat L3 a) he (by show L1.length ≠ 0; omega) h
    obtain ⟨u, v, m', h1, h2, h3, h4⟩ := hto L3 (hag L3 a) q hq m s h'
    exact ⟨u, v, m', h1, h2, by omega, h4⟩
  · intro L3 a u v hu hv
    obtain ⟨q, hq, n, hn⟩ := hof L3 (hag L3 a) u v hu hv
    exact ⟨n + 1, .eps n _ q _ _ (hat L3 a) he hq hn⟩
theorem or_bit (a b q : Nat) : (a ||| b).testBit q = (a.testBit q || b.testBit q) := Nat.testBit_or a b q
/-- an alternative's elements, one behind another -/
structure LaidA (A : Bs → Prop) (L : List Sta) (nx : Nat) (bs0 : Nat) (r : Nat × List Sta) : Prop where
  len : L.length ≤ r.2.length
  pre : ∀ i, i < L.length → r.2[i]? = L[i]?
  bs : ∀ q, r.1.testBit q = true → bs0.testBit q = true ∨ q < r.2.length
  keep : ∀ q, bs0.testBit q = true → r.1.testBit q = true
  bits : ∀ i x, L.length ≤ i → r.2[i]? = some x → ∀ q, x.nx.testBit q = true → q < r.2.length
  to : ∀ L3 : List Sta, (∀ i, L.length ≤ i → i < r.2.length → L3[i]? = r.2[i]?) → ∀ q, r.1.testBit q = true → bs0.testBit q = true ∨ ∀ n s, Acc L3 n q s → ∃ u v m, s = u ++ v ∧ A u ∧ m ≤ n ∧ Acc L3 m nx v
  of : ∀ L3 : List Sta, (∀ i, L.length ≤ i → i < r.2.length → L3[i]? = r.2[i]?) → ∀ u v, A u → Takes L3 nx v → ∃ q, r.1.testBit q = true ∧ Takes L3 q (u ++ v)
theorem LaidA.cons {A B : Bs → Prop} {L : List Sta} {nx bs0 : Nat} {r1 r2 : Nat × List Sta} (h1 : Laid A L nx r1) (h2 : LaidA B r1.2 nx (bs0 ||| bitN r1.1) r2) : LaidA (fun s => A s ∨ B s) L nx bs0 r2 := by
  have ag1 : ∀ L3 : List Sta, (∀ i, L.length ≤ i → i < r2.2.length → L3[i]? = r2.2[i]?) → ∀ i, L.length ≤ i → i < r1.2.length → L3[i]? = r1.2[i]? := fun L3 a i hi hl => by
    rw [a i hi (Nat.lt_of_lt_of_le hl h2.len), h2.pre i hl]
  have ag2 : ∀ L3 : List Sta, (∀ i, L.length ≤ i → i < r2.2.length → L3[i]? = r2.2[i]?) → ∀ i, r1.2.length ≤ i → i < r2.2.length → L3[i]? = r2.2[i]? := fun L3 a i hi hl => a i (Nat.le_trans h1.len hi) hl
  have hat : r2.1.testBit r1.1 = true := h2.keep _ (by rw [or_bit, bitN_bit]; simp)
  refine ⟨Nat.le_trans h1.len h2.len, fun i hi => by rw [h2.pre i (Nat.lt_of_lt_of_le hi h1.len), h1.pre i hi], ?_, fun q hq => h2.keep q (by rw [or_bit, hq]; rfl), ?_, ?_, ?_⟩
  · intro q hq
    rcases h2.bs q hq with h | h
    · rw [or_bit, bitN_bit, Bool.or_eq_true] at h
      rcases h with h | h
      · exact .inl h
      · have := of_decide_eq_true h
        subst this
        exact .inr (Nat.lt_of_lt_of_le h1.at_ h2.len)
    · exact .inr h
  · intro i x hi hx q hq
    by_cases c : r1.2.length ≤ i
    · exact h2.bits i x c hx q hq
    · rw [h2.pre i (by omega)] at hx
      exact Nat.lt_of_lt_of_le (h1.bits i x hi hx q hq) h2.len
  · intro L3 a q hq
    have first : q = r1.1 → ∀ n s, Acc L3 n q s → ∃ u v m, s = u ++ v ∧ (A u ∨ B u) ∧ m ≤ n ∧ Acc L3 m nx v := fun e n s hn => by
      subst e
      obtain ⟨u, v, m, e1, e2, e3, e4⟩ := h1.to L3 (ag1 L3 a) n s hn
      exact ⟨u, v, m, e1, .inl e2, e3, e4⟩
    rcases h2.to L3 (ag2 L3 a) q hq with h | h
    · rw [or_bit, bitN_bit, Bool.or_eq_true] at h
      rcases h with h | h
      · exact .inl h
      · exact .inr (first (of_decide_eq_true h).symm)
    · exact .inr fun n s hn => by
        obtain ⟨u, v, m, e1, e2, e3, e4⟩ := h n s hn
        exact ⟨u, v, m, e1, .inr e2, e3, e4⟩
  · intro L3 a u v hu hv
    rcases hu with hu | hu
    · exact ⟨r1.1, hat, h1.of L3 (ag1 L3 a) u v hu hv⟩
    · exact h2.of L3 (ag2 L3 a) u v hu hv
theorem laidA_nil (L : List Sta) (nx bs : Nat) : LaidA (fun _ => False) L nx bs (bs, L) :=
  ⟨Nat.le_refl _, fun _ _ => rfl, fun q h => .inl h, fun q h => h, fun i x hi hx => by
    have := (List.getElem?_eq_some_iff.1 hx).1
    have hi' : L.length ≤ i := hi
    have this' : i < L.length := this
    omega, fun L3 _ q h => .inl h, fun _ _ u v h _ => h.elim⟩
theorem LaidA.top {A : Bs → Prop} {L : List Sta} {nx : Nat} {r : Nat × List Sta} (h0 : 0 < L.length) (h : LaidA A L nx 0 r) : Laid A L nx (r.2.length, r.2 ++ [⟨0, 0, 0, 0, r.1⟩]) := by
  refine laid_top h0 h.len h.pre (fun q hq => ?_) h.bits (fun L3 a q hq => ?_) h.of
  · rcases h.bs q hq with e | e
    · simp at e
    · exact e
  · rcases h.to L3 a q hq with e | e
    · simp at e
    · exact e
theorem Pow_succ' {A : Bs → Prop} : ∀ (n : Nat) (s : Bs), Pow A (n + 1) s ↔ Cat (Pow A n) A s
  | 0, s => by
    constructor
    · rintro ⟨u, v, rfl, hu, hv⟩
      have hv' : v = [] := hv
      subst hv'
      exact ⟨[], u, by simp, rfl, hu⟩
    · rintro ⟨u, v, rfl, hu, hv⟩
      have hu' : u = [] := hu
      subst hu'
      exact ⟨v, [], by simp, hv, rfl⟩
  | n + 1, s => by
    constructor
    · rintro ⟨u, v, rfl, hu, hv⟩
      obtain ⟨x, y, rfl, hx, hy⟩ := (Pow_succ' n v).1 hv
      exact ⟨u ++ x, y, by simp, ⟨u, x, rfl, hu, hx⟩, hy⟩
    · rintro ⟨u, v, rfl, ⟨x, y, rfl, hx, hy⟩, hv⟩
      exact ⟨x, y ++ v, by simp, hx, (Pow_succ' n (y ++ v)).2 ⟨y, v, rfl, hy, hv⟩⟩
theorem Pow_add {A : Bs → Prop} : ∀ (a b : Nat) (s : Bs), Pow A (a + b) s ↔ Cat (Pow A a) (Pow A b) s
  | 0, b, s => by
    rw [Nat.zero_add]
    constructor
    · intro h; exact ⟨[], s, rfl, rfl, h⟩
    · rintro ⟨u, v, rfl, hu, hv⟩
      have hu' : u = [] := hu
      subst hu'
      exact hv
  | a + 1, b, s => by
    rw [show a + 1 + b = (a + b) + 1 by omega]
    constructor
    · rintro ⟨u, v, rfl, hu, hv⟩
      obtain ⟨x, y, rfl, hx, hy⟩ := (Pow_add a b v).1 hv
      exact ⟨u ++ x, y, by simp, ⟨u, x, rfl, hu, hx⟩, hy⟩
    · rintro ⟨u, v, rfl, ⟨x, y, rfl, hx, hy⟩, hv⟩
      exact ⟨x, y ++ v, by simp, hx, (Pow_add a b (y ++ v)).2 ⟨y, v, rfl, hy, hv⟩⟩
/-- texts of an expression, so many times: from where c more are to be laid and left are laid; bs are the beginnings so far -/
theorem layT_ok {A : Bs → Prop} {f : Nat → List Sta → Nat × List Sta} (hf : Lays A f) (least : Int) {L0 : List Sta} {nx0 : Nat} (h0 : 0 < L0.length) (hn0 : nx0 < L0.length) (most : Nat) : ∀ (c left nx bs : Nat) (L : List Sta), c + left = most + 1 →
    (left = 0 → nx = nx0 ∧ L = L0 ∧ bs = 0) → (0 < left → Laid (Pow A (left - 1)) L0 nx0 (nx, L)) → LaidA (fun s => ∃ j : Nat, least ≤ (j : Int) ∧ j < left ∧ Pow A j s) L0 nx0 0 (bs, L) →
    LaidA (fun s => ∃ j : Nat, least ≤ (j : Int) ∧ j ≤ most ∧ Pow A j s) L0 nx0 0 (layT f least c left nx bs L)
  | 0, left, nx, bs, L, hc, _, _, h => by
    rw [layT]
    have e : ∀ s, (∃ j : Nat, least ≤ (j : Int) ∧ j < left ∧ Pow A j s) ↔ (∃ j : Nat, least ≤ (j : Int) ∧ j ≤ most ∧ Pow A j s) := fun s =>
      ⟨fun ⟨j, a, b, c⟩ => ⟨j, a, by omega, c⟩, fun ⟨j, a, b, c⟩ => ⟨j, a, by omega, c⟩⟩
    exact ⟨h.len, h.pre, h.bs, h.keep, h.bits, fun L3 a q hq => (h.to L3 a q hq).imp id fun h n s hn => by
      obtain ⟨u, v, m, e1, e2, e3⟩ := h n s hn
      exact ⟨u, v, m, e1, (e u).1 e2, e3⟩, fun L3 a u v hu hv => h.of L3 a u v ((e u).2 hu) hv⟩
  | c + 1, left, nx, bs, L, hc, hz, hl, h => by
    rw [layT]
    -- the beginning of left times
    have key : Laid (Pow A left) L0 nx0 (if 0 < left then f nx L else (nx, L)) ∧ L.length ≤ (if 0 < left then f nx L else (nx, L)).2.length ∧ (∀ i, i < L.length → (if 0 < left then f nx L else (nx, L)).2[i]? = L[i]?) := by
      by_cases c0 : 0 < left
      · rw [if_pos c0]
        have h1 := hl c0
        have h2 := hf L nx (Nat.lt_of_lt_of_le h0 h1.len) h1.at_
        have h3 := Laid.cat h0 h1 h2
        obtain ⟨k, rfl⟩ : ∃ k, left = k + 1 := ⟨left - 1, by omega⟩
        exact ⟨h3, h2.len, h2.pre⟩
      · rw [if_neg c0]
        have e : left = 0 := by omega
        obtain ⟨rfl, rfl, rfl⟩ := hz e
        subst e
        exact ⟨lays_nil L nx h0 hn0, Nat.le_refl _, fun _ _ => rfl⟩
    generalize (if 0 < left then f nx L else (nx, L)) = r at *
    obtain ⟨k1, k2, k3⟩ := key
    refine layT_ok hf least h0 hn0 most c (left + 1) r.1 _ r.2 (by omega) (by omega) (fun _ => k1) ?_
    have ag : ∀ L3 : List Sta, (∀ i, L0.length ≤ i → i < r.2.length → L3[i]? = r.2[i]?) → ∀ i, L0.length ≤ i → i < L.length → L3[i]? = L[i]? := fun L3 a i hi hl => by
      rw [a i hi (by omega), k3 i hl]
    by_cases cl : least ≤ (left : Int)
    · rw [if_pos cl]
      refine ⟨k1.len, k1.pre, ?_, fun q hq => by simp at hq, k1.bits, ?_, ?_⟩
      · intro q hq
        rw [or_bit, bitN_bit, Bool.or_eq_true] at hq
        rcases hq with hq | hq
        · rcases h.bs q hq with e | e
          · exact .inl e
          · exact .inr (Nat.lt_of_lt_of_le e k2)
        · have := of_decide_eq_true hq
          subst this
          exact .inr k1.at_
      · intro L3 a q hq
        rw [or_bit, bitN_bit, Bool.or_eq_true] at hq
        rcases hq with hq | hq
        · exact (h.to L3 (ag L3 a) q hq).imp id fun g n s hn => by
            obtain ⟨u, v, m, e1, ⟨j, j1, j2, j3⟩, e3⟩ := g n s hn
            exact ⟨u, v, m, e1, ⟨j, j1, by omega, j3⟩, e3⟩
        · have := of_decide_eq_true hq
          subst this
          exact .inr fun n s hn => by
            obtain ⟨u, v, m, e1, e2, e3⟩ := k1.to L3 a n s hn
            exact ⟨u, v, m, e1, ⟨left, cl, by omega, e2⟩, e3⟩
      · intro L3 a u v ⟨j, j1, j2, j3⟩ hv
        by_cases cj : j = left
        · subst cj
          exact ⟨r.1, by rw [or_bit, bitN_bit]; simp, k1.of L3 a u v j3 hv⟩
        · obtain ⟨q, hq, hq2⟩ := h.of L3 (ag L3 a) u v ⟨j, j1, by omega, j3⟩ hv
          exact ⟨q, by rw [or_bit, hq]; rfl, hq2⟩
    · rw [if_neg cl]
      refine ⟨k1.len, k1.pre, fun q hq => (h.bs q hq).imp id fun e => Nat.lt_of_lt_of_le e k2, fun q hq => by simp at hq, k1.bits, ?_, ?_⟩
      · intro L3 a q hq
        exact (h.to L3 (ag L3 a) q hq).imp id fun g n s hn => by
          obtain ⟨u, v, m, e1, ⟨j, j1, j2, j3⟩, e3⟩ := g n s hn
          exact ⟨u, v, m, e1, ⟨j, j1, by omega, j3⟩, e3⟩
      · intro L3 a u v ⟨j, j1, j2, j3⟩ hv
        exact h.of L3 (ag L3 a) u v ⟨j, j1, by omega, j3⟩ hv
theorem lays_times {A : Bs → Prop} {f : Nat → List Sta → Nat × List Sta} (hf : Lays A f) (least : Int) (most : Nat) :
    Lays (fun s => ∃ j : Nat, least ≤ (j : Int) ∧ j ≤ most ∧ Pow A j s) (fun nx L => ((layT f least (most + 1) 0 nx 0 L).2.length, (layT f least (most + 1) 0 nx 0 L).2 ++ [⟨0, 0, 0, 0, (layT f least (most + 1) 0 nx 0 L).1⟩])) := fun L nx h0 hn => by
  refine LaidA.top h0 (layT_ok hf least h0 hn most (most + 1) 0 nx 0 L (by omega) (fun _ => ⟨rfl, rfl, rfl⟩) (by omega) ?_)
  have := laidA_nil L nx 0
  exact ⟨this.len, this.pre, this.bs, this.keep, this.bits, fun L3 a q hq => .inl hq, fun L3 a u v ⟨j, _, h, _⟩ _ => by omega⟩
theorem lays_N {A : Bs → Prop} {f : Nat → List Sta → Nat × List Sta} (hf : Lays A f) : ∀ (c : Nat), Lays (Pow A c) (layN f c)
  | 0 => lays_nil
  | c + 1 => fun L nx h0 hn => by
    rw [layN]
    have h1 := hf L nx h0 hn
    have h2 := lays_N hf c _ _ (Nat.lt_of_lt_of_le h0 h1.len) h1.at_
    exact (Laid.cat h0 h1 h2).congr fun s => (Pow_succ' c s).symm
theorem setNx_len (L : List Sta) (i nx : Nat) : (setNx L i nx).length = L.length := by unfold setNx; simp
theorem setNx_at (L : List Sta) (i nx : Nat) (x : Sta) (h : L[i]? = some x) : (setNx L i nx)[i]? = some { x with nx := nx } := by
  unfold setNx; rw [List.getElem?_modify_eq, h]; rfl
theorem setNx_ne (L : List Sta) (i j nx : Nat) (h : i ≠ j) : (setNx L i nx)[j]? = L[j]? := by
  unfold setNx; simp [h]
/-- any number of times: the state ahead of which one is laid again and again -/
theorem lays_star {A : Bs → Prop} {f : Nat → List Sta → Nat × List Sta} (hf : Lays A f) (L : List Sta) (nx : Nat) (h0 : 0 < L.length) (hn : nx < L.length) :
    Laid (fun s => ∃ j, Pow A j s) L nx (L.length, setNx (f L.length (L ++ [⟨0, 0, 0, 0, 0⟩])).2 L.length (bitN nx ||| bitN (f L.length (L ++ [⟨0, 0, 0, 0, 0⟩])).1)) ∧
    Laid (fun s => ∃ j, Pow A (j + 1) s) L nx ((f L.length (L ++ [⟨0, 0, 0, 0, 0⟩])).1, setNx (f L.length (L ++ [⟨0, 0, 0, 0, 0⟩])).2 L.length (bitN nx ||| bitN (f L.length (L ++ [⟨0, 0, 0, 0, 0⟩])).1)) := by
  have hl1 : (L ++ [(⟨0, 0, 0, 0, 0⟩ : Sta)]).length = L.length + 1 := by simp
  have h1 := hf (L ++ [⟨0, 0, 0, 0, 0⟩]) L.length (by omega) (by omega)
  generalize f L.length (L ++ [⟨0, 0, 0, 0, 0⟩]) = r at *
  have hlen := h1.len
  rw [hl1] at hlen
  have hk : r.2[L.length]? = some ⟨0, 0, 0, 0, 0⟩ := by rw [h1.pre _ (by omega)]; simp
  have hk2 := setNx_at r.2 L.length (bitN nx ||| bitN r.1) _ hk
  have hne : ∀ j, L.length ≠ j → (setNx r.2 L.length (bitN nx ||| bitN r.1))[j]? = r.2[j]? := fun j hj => setNx_ne r.2 L.length j _ hj
  have hsl := setNx_len r.2 L.length (bitN nx ||| bitN r.1)
  generalize setNx r.2 L.length (bitN nx ||| bitN r.1) = M at *
  dsimp only at hk2
  have hbit : ∀ q, (bitN nx ||| bitN r.1).testBit q = true ↔ q = nx ∨ q = r.1 := fun q => by
    rw [or_bit, bitN_bit, bitN_bit, Bool.or_eq_true, decide_eq_true_iff, decide_eq_true_iff]
    constructor
    · rintro (h | h)
      · exact .inl h.symm
      · exact .inr h.symm
    · rintro (h | h)
      · exact .inl h.symm
      · exact .inr h.symm
  have ag : ∀ L3 : List Sta, (∀ i, L.length ≤ i → i < M.length → L3[i]? = M[i]?) → ∀ i, (L ++ [(⟨0, 0, 0, 0, 0⟩ : Sta)]).length ≤ i → i < r.2.length → L3[i]? = r.2[i]? := fun L3 a i hi hl => by
    rw [hl1] at hi
    rw [a i (by omega) (by omega), hne i (by omega)]
  have hb : ∀ L3 : List Sta, (∀ i, L.length ≤ i → i < M.length → L3[i]? = M[i]?) → L3[L.length]? = some ⟨0, 0, 0, 0, bitN nx ||| bitN r.1⟩ := fun L3 a => by
    rw [a _ (Nat.le_refl _) (by omega)]; exact hk2
  have he : ∀ bs, (⟨0, 0, 0, 0, bs⟩ : Sta).empty = true := fun _ => rfl
  -- from the state back
  have to1 : ∀ L3 : List Sta, (∀ i, L.length ≤ i → i < M.length → L3[i]? = M[i]?) → ∀ n s, Acc L3 n L.length s → ∃ u v m, s = u ++ v ∧ (∃ j, Pow A j u) ∧ m ≤ n ∧ Acc L3 m nx v := by
    intro L3 a n
    induction n using Nat.strongRecOn with
    | _ n ih =>
      intro s h
      obtain ⟨m, q, rfl, hq, h'⟩ := acc_eps (hb L3 a) (he _) (by omega) h
      rcases (hbit q).1 hq with rfl | rfl
      · exact ⟨[], s, m, rfl, ⟨0, rfl⟩, by omega, h'⟩
      · obtain ⟨u, v, m', rfl, hu, hm', hv⟩ := h1.to L3 (ag L3 a) m s h'
        obtain ⟨u2, v2, m2, rfl, ⟨j, hj⟩, hm2, hv2⟩ := ih m' (by omega) v hv
        exact ⟨u ++ u2, v2, m2, by simp, ⟨j + 1, u, u2, rfl, hu, hj⟩, by omega, hv2⟩
  have of1 : ∀ L3 : List Sta, (∀ i, L.length ≤ i → i < M.length → L3[i]? = M[i]?) → ∀ j u v, Pow A j u → Takes L3 nx v → Takes L3 L.length (u ++ v) := by
    intro L3 a j
    induction j with
    | zero =>
      intro u v hu ⟨n, hv⟩
      have hu' : u = [] := hu
      subst hu'
      exact ⟨n + 1, .eps n _ nx _ _ (hb L3 a) (he _) ((hbit nx).2 (.inl rfl)) hv⟩
    | succ j ih =>
      rintro u v ⟨x, y, rfl, hx, hy⟩ hv
      rw [List.append_assoc]
      obtain ⟨n, hn⟩ := h1.of L3 (ag L3 a) x (y ++ v) hx (ih y v hy hv)
      exact ⟨n + 1, .eps n _ r.1 _ _ (hb L3 a) (he _) ((hbit r.1).2 (.inr rfl)) hn⟩
  have bits1 : ∀ i x, L.length ≤ i → M[i]? = some x → ∀ q, x.nx.testBit q = true → q < M.length := by
    intro i x hi hx q hq
    by_cases c : i = L.length
    · subst c
      rw [hk2] at hx
      cases hx
      rcases (hbit q).1 hq with rfl | rfl
      · omega
      · have := h1.at_; omega
    · rw [hne i (by omega)] at hx
      have := h1.bits i x (by omega) hx q hq
      omega
  have pre1 : ∀ i, i < L.length → M[i]? = L[i]? := fun i hi => by
    rw [hne i (by omega), h1.pre i (by omega), List.getElem?_append_left hi]
  refine ⟨⟨by show L.length ≤ M.length; omega, pre1, by show L.length < M.length; omega, .inl (Nat.le_refl _), bits1, to1, fun L3 a u v ⟨j, hj⟩ hv => of1 L3 a j u v hj hv⟩, ⟨by show L.length ≤ M.length; omega, pre1, by show r.1 < M.length; have := h1.at_; omega, ?_, bits1, ?_, ?_⟩⟩
  · rcases h1.new with h | h
    · left; show L.length ≤ r.1; omega
    · left; show L.length ≤ r.1; omega
  · intro L3 a n s h
    obtain ⟨u, v, m', rfl, hu, hm', hv⟩ := h1.to L3 (ag L3 a) n s h
    obtain ⟨u2, v2, m2, rfl, ⟨j, hj⟩, hm2, hv2⟩ := to1 L3 a m' v hv
    exact ⟨u ++ u2, v2, m2, by simp, ⟨j, u, u2, rfl, hu, hj⟩, by omega, hv2⟩
  · rintro L3 a u v ⟨j, x, y, rfl, hx, hy⟩ hv
    rw [List.append_assoc]
    exact h1.of L3 (ag L3 a) x (y ++ v) hx (of1 L3 a j y v hy hv)
/-- sizes: what may be has elements that may be -/
theorem sizeL_all (m : Nat) : ∀ (l : List Rx) (acc : Nat), sizeL m l acc ≠ 0 → ∀ x ∈ l, sizeR x ≠ 0
  | [], acc, h, x, hx => by cases hx
  | y :: l, acc, h, x, hx => by
    rw [sizeL] at h
    split at h
    · exact absurd rfl h
    · next hy =>
      rcases List.mem_cons.1 hx with rfl | hx
      · exact hy
      · exact sizeL_all m l _ h x hx
theorem sizeR_form {k mn mx s0 s1 s2 s3 : Int} {l : List Rx} (h : sizeR (.mk k mn mx s0 s1 s2 s3 l) ≠ 0) : formF k mn mx s0 s1 s2 s3 l.length = true ∧ ∀ x ∈ l, sizeR x ≠ 0 := by
  rw [sizeR] at h
  split at h
  · next hf => exact ⟨hf, sizeL_all _ _ _ h⟩
  · exact absurd rfl h
theorem layS_ok : ∀ (l : List Rx), (∀ x ∈ l, Lays (Lang x) (layR x)) → Lays (LangS l) (layS l)
  | [], _ => by
    have e : layS [] = fun nx L => (nx, L) := rfl
    have e2 : LangS [] = fun s => s = [] := rfl
    rw [e, e2]; exact lays_nil
  | x :: l, h => by
    have e : layS (x :: l) = fun nx L => layR x (layS l nx L).1 (layS l nx L).2 := rfl
    have e2 : LangS (x :: l) = Cat (Lang x) (LangS l) := rfl
    rw [e, e2]
    exact (h x (by simp)).cat (layS_ok l fun y hy => h y (by simp [hy]))
theorem layA_ok : ∀ (l : List Rx), (∀ x ∈ l, Lays (Lang x) (layR x)) → ∀ (L : List Sta) (nx bs : Nat), 0 < L.length → nx < L.length → LaidA (LangA l) L nx bs (layA l nx bs L)
  | [], _, L, nx, bs, _, _ => laidA_nil L nx bs
  | x :: l, h, L, nx, bs, h0, hn => by
    have h1 := h x (by simp) L nx h0 hn
    exact LaidA.cons h1 (layA_ok l (fun y hy => h y (by simp [hy])) _ nx _ (Nat.lt_of_lt_of_le h0 h1.len) (Nat.lt_of_lt_of_le hn h1.len))
theorem form3_parts {mn mx s0 s1 s2 s3 : Int} {n : Nat} (h : formF 3 mn mx s0 s1 s2 s3 n = true) : 0 ≤ mn ∧ mn ≤ 15 ∧ (mx = -1 ∨ mn ≤ mx ∧ mx ≤ 15) ∧ n = 1 := by
  unfold formF areT at h
  rw [if_neg (by decide), if_neg (by decide), if_neg (by decide), if_pos rfl] at h
  simp only [Bool.and_eq_true, Bool.or_eq_true, decide_eq_true_eq] at h
  exact ⟨h.1.2.1.1, h.1.2.1.2, h.1.2.2, h.2⟩
/-- what is laid of an expression that may be takes its language -/
theorem layR_ok : ∀ t : Rx, sizeR t ≠ 0 → Lays (Lang t) (layR t) := by
  intro t
  refine Rx.ind (P := fun t => sizeR t ≠ 0 → Lays (Lang t) (layR t)) ?_ t
  intro k mn mx s0 s1 s2 s3 l ih h
  obtain ⟨hf, hx⟩ := sizeR_form h
  have ih' : ∀ x ∈ l, Lays (Lang x) (layR x) := fun x hm => ih x hm (hx x hm)
  by_cases k0 : k = 0
  · subst k0
    have hne : noS s0 s1 s2 s3 = false := by
      unfold formF at hf
      rw [if_pos rfl] at hf
      simp only [Bool.and_eq_true, Bool.not_eq_true'] at hf
      exact hf.1.1
    have := lays_set s0 s1 s2 s3 hne
    exact this
  · by_cases k2 : k = 2
    · subst k2
      intro L nx h0 hn
      exact LaidA.top h0 (layA_ok l ih' L nx 0 h0 hn)
    · by_cases k3 : k = 3
      · subst k3
        obtain ⟨m0, m1, m2, hl⟩ := form3_parts hf
        match l, hl with
        | [x], _ =>
          have hx1 := ih' x (by simp)
          by_cases c : mx = -1
          · subst c
            have eL : ∀ s, Lang (.mk 3 mn (-1) s0 s1 s2 s3 [x]) s ↔ ∃ j : Nat, mn ≤ (j : Int) ∧ Pow (Lang x) j s := fun s => by
              constructor
              · rintro ⟨j, h1, _, h3⟩; exact ⟨j, h1, h3⟩
              · rintro ⟨j, h1, h3⟩; exact ⟨j, h1, .inl rfl, h3⟩
            intro L nx h0 hn
            obtain ⟨a1, a2⟩ := lays_star hx1 L nx h0 hn
            by_cases c0 : mn = 0
            · subst c0
              exact a1.congr fun s => by
                rw [eL]
                exact ⟨fun ⟨j, hj⟩ => ⟨j, by omega, hj⟩, fun ⟨j, _, hj⟩ => ⟨j, hj⟩⟩
            · have e : layR (.mk 3 mn (-1) s0 s1 s2 s3 [x]) nx L = layN (layR x) (mn - 1).toNat (layR x L.length (L ++ [⟨0, 0, 0, 0, 0⟩])).1 (setNx (layR x L.length (L ++ [⟨0, 0, 0, 0, 0⟩])).2 L.length (bitN nx ||| bitN (layR x L.length (L ++ [⟨0, 0, 0, 0, 0⟩])).1)) := by
                have : layR (.mk 3 mn (-1) s0 s1 s2 s3 [x]) nx L = if mn = 0 then (L.length, setNx (layR x L.length (L ++ [⟨0, 0, 0, 0, 0⟩])).2 L.length (bitN nx ||| bitN (layR x L.length (L ++ [⟨0, 0, 0, 0, 0⟩])).1)) else layN (layR x) (mn - 1).toNat (layR x L.length (L ++ [⟨0, 0, 0, 0, 0⟩])).1 (setNx (layR x L.length (L ++ [⟨0, 0, 0, 0, 0⟩])).2 L.length (bitN nx ||| bitN (layR x L.length (L ++ [⟨0, 0, 0, 0, 0⟩])).1)) := rfl
                rw [this, if_neg c0]
              rw [e]
              have hb := lays_N hx1 (mn - 1).toNat _ _ (Nat.lt_of_lt_of_le h0 a2.len) a2.at_
              refine (Laid.cat h0 a2 hb).congr fun s => ?_
              rw [eL]
              constructor
              · rintro ⟨u, v, rfl, hu, j, hv⟩
                exact ⟨(mn - 1).toNat + (j + 1), by omega, (Pow_add _ _ _).2 ⟨u, v, rfl, hu, hv⟩⟩
              · rintro ⟨j, hj, hp⟩
                obtain ⟨u, v, rfl, hu, hv⟩ := (Pow_add (mn - 1).toNat (j - (mn - 1).toNat) s).1 (by rw [show (mn - 1).toNat + (j - (mn - 1).toNat) = j by omega]; exact hp)
                exact ⟨u, v, rfl, hu, j - (mn - 1).toNat - 1, by rw [show j - (mn - 1).toNat - 1 + 1 = j - (mn - 1).toNat by omega]; exact hv⟩
          · have hm : mn ≤ mx ∧ mx ≤ 15 := by omega
            intro L nx h0 hn
            have e : layR (.mk 3 mn mx s0 s1 s2 s3 [x]) nx L = ((layT (layR x) mn (mx.toNat + 1) 0 nx 0 L).2.length, (layT (layR x) mn (mx.toNat + 1) 0 nx 0 L).2 ++ [⟨0, 0, 0, 0, (layT (layR x) mn (mx.toNat + 1) 0 nx 0 L).1⟩]) := by
              rw [show mx.toNat + 1 = (mx + 1).toNat by omega]
              rw [layR]
              simp only []
              rw [if_neg (by decide), if_neg (by decide), if_pos trivial, if_neg c]
              rfl
            rw [e]
            refine (lays_times hx1 mn mx.toNat L nx h0 hn).congr fun s => ?_
            constructor
            · rintro ⟨j, h1, h2, h3⟩
              exact ⟨j, h1, .inr (by omega), h3⟩
            · rintro ⟨j, h1, h2, h3⟩
              exact ⟨j, h1, by omega, h3⟩
      · have e : layR (.mk k mn mx s0 s1 s2 s3 l) = layS l := by
          funext nx L
          rw [layR]
          simp only []
          rw [if_neg k0, if_neg k2, if_neg k3]
        have e2 : Lang (.mk k mn mx s0 s1 s2 s3 l) = LangS l := by
          funext s
          rw [Lang]
          simp only []
          rw [if_neg k0, if_neg k2, if_neg k3]
        rw [e, e2]
        exact layS_ok l ih'
end Go.Proofs.Ytdmajbdgjjmlkaa
