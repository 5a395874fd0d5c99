/- A journal of eight blocks, by hand. Conditions: none. -/
import Derived.Test.YtjippoejaieneaaGreatJrj
namespace Go.Proofs.YtjippoejaieneaaGreat
open Go.RowKit Go.Maps
set_option maxRecDepth 100000
set_option linter.unusedVariables false

def fx1 : List Wt := [⟨0, ⟨#[97]⟩⟩, ⟨1, ⟨#[98]⟩⟩]
def fx2 : List Wt := [⟨0, ⟨#[120]⟩⟩, ⟨0, ⟨#[121]⟩⟩]
def fx3 : List Wt := [⟨2, ⟨#[99]⟩⟩]
def jS0 : St := ldS 8
def jV0 : Dv := ldV 8
def jJ0 : Jn := fmtJ 5
theorem jg1 : cmGo jJ0 jV0 fx1 := ⟨by unfold fx1; simp, by decide +kernel, by decide +kernel⟩
def fL1 : List Stp := cmP jJ0 jV0 fx1 ++ recS (cmK jJ0 fx1).en (cmK jJ0 fx1).next fx1 fx1.length
def jJ1 : Jn := takeJ (cmK jJ0 fx1) fx1
def jS1 : St := (runS fL1 jS0 jV0).1
def jV1 : Dv := (runS fL1 jS0 jV0).2
theorem jg2 : cmE jJ1 jV1 fx2 = 161 := by decide +kernel
theorem jg2' : ¬ cmGo jJ1 jV1 fx2 := fun z => by have := cmE_go z; rw [jg2] at this; cases this
theorem jg3 : cmGo jJ1 jV1 fx3 := ⟨by unfold fx3; simp, by decide +kernel, by decide +kernel⟩
def fL3 : List Stp := cmP jJ1 jV1 fx3 ++ recS (cmK jJ1 fx3).en (cmK jJ1 fx3).next fx3 fx3.length
def jJ3 : Jn := takeJ (cmK jJ1 fx3) fx3
def jS3 : St := (runS fL3 jS1 jV1).1
def jV3 : Dv := (runS fL3 jS1 jV1).2
def jS4 : St := (jS3.lose []).revive
def jV4 : Dv := newV 0 8 0
def jV5 : Dv := vk jS4 jV4 2
def jJ5 : Jn := opnJ jS4 jV4 5
def jV6 : Dv := celV jS4 jV5 jJ5 0
theorem jg4 : isA jV4 5 = true ∧ nwE jS4 0 8 0 = 0 := by decide +kernel
theorem jg5 : hb jS4 jV4 2 = (3, 2) := by decide +kernel
theorem jg6 : ∀ k : Nat, k < 3 → stE jS4 jV4 ((k : Int) + 2) = 0 := by decide +kernel
theorem jg7 : stMax jS4 jV4 3 < 2 := by decide +kernel
theorem jopen : CanOpen jS4 jV4 5 := by
  refine ⟨jg4.1, ?_, ?_, fun k hk => jg6 k hk, ?_⟩
  · rw [jg5]; exact ⟨by decide, by decide⟩
  · rw [jg5]; exact ⟨by decide, by decide⟩
  · rw [jg5]; exact jg7
theorem jg8 : celD jS4 jV5 jJ5 0 = 97 :: List.replicate 115 0 ∧ celE jS4 jV5 jJ5 0 = 0 := by decide +kernel
theorem jg9 : celD jS4 jV6 jJ5 2 = List.replicate 116 0 ∧ celE jS4 jV6 jJ5 2 = 0 := by decide +kernel
theorem jga : jV5.mis < 1000 ∧ jV6.mis < 1000 ∧ jS4.dead = false ∧ jS3.dead = false := by decide +kernel
theorem jgb : ((jV0.cnt - jJ0.area : Nat) : Int) = 3 ∧ mostN jJ0.area jJ0.en = 2 ∧ jJ0.next = 1 ∧ mostN jJ1.area jJ1.en = 0 ∧ jJ1.next = 2 := by decide +kernel
end Go.Proofs.YtjippoejaieneaaGreat
