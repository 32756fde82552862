import Derived.Test.YtlljggefbngkeaaGreatDoorV02
import Derived.BigRegion
import Derived.Maps.AppendAt
import Derived.Maps.Range
namespace Go.Proofs.YtlljggefbngkeaaGreatDoor
open Go.RowKit

theorem cellOf {w : World} {b : Nat} {c : Array Value} {T : TypeId} {f : Nat × Nat} (h : w.heap[b]? = some (.cells c T f)) (o : Nat) : w.cell? ⟨b, o, none⟩ = c[o]? := by
  simp [World.cell?, h]

theorem frozenOf {w : World} {b : Nat} {c : Array Value} {T : TypeId} (h : w.heap[b]? = some (.cells c T (0, 0))) (o : Nat) : w.frozen? ⟨b, o, none⟩ = false := by
  simp [World.frozen?, h]

theorem heap_set {w : World} {b : Nat} {c : Array Value} {T : TypeId} {f : Nat × Nat} (h : w.heap[b]? = some (.cells c T f)) (o : Nat) (v : Value) :
    (w.setCell ⟨b, o, none⟩ v).heap[b]? = some (.cells (c.setIfInBounds o v) T f) := by
  simp [World.setCell, Array.getElem?_modify, h]

theorem heap_lt {w : World} {b : Nat} {x : Obj} (h : w.heap[b]? = some x) : b < w.heap.size := by
  exact (Array.getElem?_eq_some_iff.1 h).1

theorem heap_alloc_old {w : World} {b : Nat} {x : Obj} (o : Obj) (h : w.heap[b]? = some x) : (w.alloc o).heap[b]? = some x := by
  rw [Below.heap_alloc _ _ _ (heap_lt h)]; exact h

theorem grown_set (w : World) (b o : Nat) (v : Value) : w.grownBy (w.setCell ⟨b, o, none⟩ v) (some b) :=
  ⟨rfl, rfl, rfl, by simp [World.setCell], fun k _ hne => Below.heap_setCell _ _ _ _ (fun e => hne (by simp at e; rw [e]))⟩

theorem grown_drewN' (w : World) (n : Nat) (r : Option Nat) : w.grownBy (w.drewN n) r := ⟨rfl, rfl, rfl, Nat.le_refl _, fun _ _ _ => rfl⟩
theorem grown_drew' (w : World) (r : Option Nat) : w.grownBy w.drew r := ⟨rfl, rfl, rfl, Nat.le_refl _, fun _ _ _ => rfl⟩

theorem drew_heap (w : World) : w.drew.heap = w.heap := rfl


/-- the byte at hand -/
def peekI (s : ByteArray) (i : Nat) (bad : Bool) : Int := if bad then 0 else if h : i < s.size then (s[i].toNat : Int) else 0

theorem peekI_end (s : ByteArray) (i : Nat) (b : Bool) (h : ¬ i < s.size) : peekI s i b = 0 := by simp [peekI, h]







end Go.Proofs.YtlljggefbngkeaaGreatDoor
