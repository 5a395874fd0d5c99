/- A block's bytes, and what a sector says: nothing of the program. No conditions. -/
import Derived.Test.YtnecbbflcpngcaaMat
import Derived.Test.YtnecbbflcpngcaaCMatc
namespace Go.Proofs.Ytnecbbflcpngcaa
set_option linter.unusedVariables false

def padB (d : Bts) : Bts := d ++ List.replicate (116 - d.length) 0
def sumB (d : Bts) : Bts := Cd.putS ((Cd.crc d : Nat) : Int) 4
def blkB (d : Bts) (n : Int) : Bts := padB d ++ sumB (padB d) ++ Cd.putS n 8
def stOk (n : Int) : Prop := 0 ≤ n ∧ n ≤ 4611686018427387904
instance (n : Int) : Decidable (stOk n) := by unfold stOk; infer_instance
def bytE (d : Bts) (n : Int) : Int := if 116 < d.length then 152 else if stOk n then 0 else 1
def bytS (d : Bts) (n : Int) : Bts := if bytE d n = 0 then blkB d n else []
def parE (s : Bts) : Int := if s.length ≠ 128 then 152 else if (s.drop 116).take 4 = sumB (s.take 116) ∧ stOk (Cd.numS (s.drop 120)) then 0 else 153
def parD (s : Bts) : Bts := if parE s = 0 then s.take 116 else []
def parN (s : Bts) : Int := if parE s = 0 then Cd.numS (s.drop 120) else 0
theorem padB_len {d : Bts} (h : d.length ≤ 116) : (padB d).length = 116 := by simp [padB]; omega
theorem sumB_len (d : Bts) : (sumB d).length = 4 := Cd.putS_length _ _
theorem blkB_len {d : Bts} (n : Int) (h : d.length ≤ 116) : (blkB d n).length = 128 := by
  unfold blkB; rw [List.length_append, List.length_append, padB_len h, sumB_len, Cd.putS_length]
theorem bytE_ok {d : Bts} {n : Int} (h : bytE d n = 0) : d.length ≤ 116 ∧ stOk n := by
  unfold bytE at h
  split at h
  · cases h
  · split at h
    · exact ⟨by omega, by assumption⟩
    · cases h
theorem bytE_of {d : Bts} {n : Int} (h : d.length ≤ 116) (k : stOk n) : bytE d n = 0 := by
  unfold bytE; rw [if_neg (by omega), if_pos k]
theorem bytS_of {d : Bts} {n : Int} (h : bytE d n = 0) : bytS d n = blkB d n := by unfold bytS; rw [if_pos h]
theorem blkB_take {d : Bts} (n : Int) (h : d.length ≤ 116) : (blkB d n).take 116 = padB d := by
  unfold blkB
  rw [List.append_assoc, List.take_append_of_le_length (by rw [padB_len h]; omega), List.take_of_length_le (by rw [padB_len h]; omega)]
theorem blkB_mid {d : Bts} (n : Int) (h : d.length ≤ 116) : ((blkB d n).drop 116).take 4 = sumB (padB d) := by
  unfold blkB
  rw [List.append_assoc, List.drop_append, padB_len h, List.drop_of_length_le (by rw [padB_len h]; omega), List.nil_append, Nat.sub_self, List.drop_zero,
    List.take_append_of_le_length (by rw [sumB_len]; omega), List.take_of_length_le (by rw [sumB_len]; omega)]
theorem blkB_end {d : Bts} (n : Int) (h : d.length ≤ 116) : (blkB d n).drop 120 = Cd.putS n 8 := by
  unfold blkB
  rw [List.drop_append, List.drop_of_length_le (by rw [List.length_append, padB_len h, sumB_len]; omega), List.nil_append, List.length_append, padB_len h, sumB_len]
  rfl
theorem num_stOk {n : Int} (h : stOk n) : Cd.numS (Cd.putS n 8) = n := by unfold stOk at h; exact Cd.num_back8 n (by omega) (by omega)
theorem par_blk {d : Bts} {n : Int} (h : d.length ≤ 116) (k : stOk n) : parE (blkB d n) = 0 := by
  unfold parE
  rw [if_neg (by rw [blkB_len n h]; omega), blkB_take n h, blkB_mid n h, blkB_end n h, num_stOk k, if_pos ⟨rfl, k⟩]
theorem parD_blk {d : Bts} {n : Int} (h : d.length ≤ 116) (k : stOk n) : parD (blkB d n) = padB d := by
  unfold parD; rw [if_pos (par_blk h k), blkB_take n h]
theorem parN_blk {d : Bts} {n : Int} (h : d.length ≤ 116) (k : stOk n) : parN (blkB d n) = n := by
  unfold parN; rw [if_pos (par_blk h k), blkB_end n h, num_stOk k]
theorem parE_cases (s : Bts) : parE s = 0 ∨ parE s = 152 ∨ parE s = 153 := by
  unfold parE; split
  · exact .inr (.inl rfl)
  · split
    · exact .inl rfl
    · exact .inr (.inr rfl)
theorem parE_ok {s : Bts} (h : parE s = 0) : s.length = 128 ∧ (s.drop 116).take 4 = sumB (s.take 116) ∧ stOk (Cd.numS (s.drop 120)) := by
  unfold parE at h
  split at h
  · cases h
  · split at h
    · rename_i h1 h2; exact ⟨by omega, h2.1, h2.2⟩
    · cases h
/-- a sum turned is another one -/
theorem sumB_inj {a b : Bts} (h : sumB a = sumB b) : Cd.crc a = Cd.crc b := by
  have h1 := Cd.be_putS ((Cd.crc a : Nat) : Int) 4
  have h2 := Cd.be_putS ((Cd.crc b : Nat) : Int) 4
  unfold sumB at h
  rw [h] at h1
  have h3 := Cd.crc_lt a
  have h4 := Cd.crc_lt b
  rw [h1] at h2
  have e : (256 : Int) ^ 4 = 4294967296 := by decide
  rw [e] at h2
  omega
end Go.Proofs.Ytnecbbflcpngcaa
