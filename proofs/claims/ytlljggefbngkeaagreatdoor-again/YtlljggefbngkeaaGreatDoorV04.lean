import Derived.Test.YtlljggefbngkeaaGreatDoorV03
import Derived.Test.YtlljggefbngkeaaGreatDoorV01
import Derived.Deep.LoopGhost
namespace Go.Proofs.YtlljggefbngkeaaGreatDoor
open Go.RowKit

theorem lt_of_peek (s : ByteArray) (i : Nat) (b : Bool) (h : peekI s i b ≠ 0) : i < s.size ∧ b = false := by
  unfold peekI at h
  by_cases hb : b = true
  · simp [hb] at h
  · by_cases hi : i < s.size
    · exact ⟨hi, by simpa using hb⟩
    · simp [hi] at h
theorem peekI_bd (s : ByteArray) (i : Nat) (b : Bool) : 0 ≤ peekI s i b ∧ peekI s i b ≤ 255 := by
  unfold peekI
  split
  · omega
  · split
    · rename_i h
      have := (s[i]).toNat_lt
      omega
    · omega





end Go.Proofs.YtlljggefbngkeaaGreatDoor
