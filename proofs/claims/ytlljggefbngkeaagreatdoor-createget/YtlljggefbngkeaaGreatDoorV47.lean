import Derived.Test.YtlljggefbngkeaaGreatDoorV43
import Derived.Test.YtlljggefbngkeaaGreatDoorV46
namespace Go.Proofs.YtlljggefbngkeaaGreatDoor
open Go.RowKit Go.Shelf

theorem MakeR.rng {s : ByteArray} {u r : List UInt8} {c : Int} (h : MakeR s u r c) : 0 ≤ c ∧ c ≤ 6 := by
  rcases h with ⟨h, _⟩ | ⟨t, _, ⟨_, _, h⟩ | ⟨_, _, _, h⟩ | ⟨_, _, _, h⟩⟩
  · have := h.nz; omega
  · omega
  · omega
  · omega




end Go.Proofs.YtlljggefbngkeaaGreatDoor
