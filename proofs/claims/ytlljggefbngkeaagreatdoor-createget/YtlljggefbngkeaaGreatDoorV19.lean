import Derived.Test.YtlljggefbngkeaaGreatDoorV18
import Derived.Recover
import Derived.Defers
import Derived.Deep.RegionHeld3
import Derived.BigQuiet
namespace Go.Proofs.YtlljggefbngkeaaGreatDoor
open Go.RowKit Go.Shelf

set_option maxRecDepth 100000 in
set_option maxHeartbeats 1600000 in
theorem catch_idle (p : Addr) (w : World) :
    CallsD Tryz.prog 78 #[.pointer (some p)] .returning w fun e u' w' => e = .returned (.tuple #[]) ∧ u' = .returning ∧ w' = w := by
  refine callsD_of_wpS Tryz.func78 rfl fun c₀ cs hu => ?_
  apply wpS_seq
  apply wpS_region
  simp [wpOpsS, go_sem, recoverD, hu, Tryz.ntmps78, Exit.thenS]
  refine wpS_of_wp ?_
  simp only [Array.replicate_succ, Array.replicate_zero, List.push_toArray, List.append_toArray, List.nil_append, List.cons_append, List.setIfInBounds_toArray, List.set_cons_zero, List.set_cons_succ]
  go_wp2
  cases c₀
  simp_all [bodyPostS, results, Tryz.results78]

set_option maxRecDepth 100000 in
set_option maxHeartbeats 1600000 in
theorem catch_panicking (p : Addr) (x m : Int) (older : List PanicEntry) (w : World) (hc : w.cell? p = some (.int .i64 x)) (hz : w.frozen? p = false) :
    CallsD Tryz.prog 78 #[.pointer (some p)] (.panicking ({ v := .iface 60 (.int .i64 m), recovered := false } :: older)) w fun e u' w' =>
      e = .returned (.tuple #[]) ∧ u' = .panicking ({ v := .iface 60 (.int .i64 m), recovered := true } :: older) ∧ w' = w.setCell p (.int .i64 m) := by
  have hta : ∀ W : World, (Instr.typeAssert (.iface 60 (.int .i64 m)) 20 60 true).run Tryz.prog W = .ok (.tuple #[.int .i64 m, .bool true]) W := fun W => by first | rfl | kernel_rfl | simp [Instr.typeAssert, go_sem]
  refine callsD_of_wpS Tryz.func78 rfl fun c₀ cs hu => ?_
  apply wpS_seq
  apply wpS_region
  simp [wpOpsS, go_sem, recoverD, hu, Tryz.ntmps78, Exit.thenS]
  refine wpS_of_wp ?_
  simp only [Array.replicate_succ, Array.replicate_zero, List.push_toArray, List.append_toArray, List.nil_append, List.cons_append, List.setIfInBounds_toArray, List.set_cons_zero, List.set_cons_succ]
  go_wp2
  trace_state
  cases c₀
  simp_all [bodyPostS, results, Tryz.results78]

end Go.Proofs.YtlljggefbngkeaaGreatDoor

namespace Go.Proofs.YtlljggefbngkeaaGreatDoor
open Go.RowKit Go.Shelf

def CloneSaid : Prop := ∀ (s : ByteArray) (w : World), s.size ≤ 1000000000 → Calls Tryz.prog 79 #[.string s] w fun e w' => e = .returned (.string s) ∧ K0 w w'

/-- entered as it is called -/
def Ent (N : Nat) : Prop := ∀ (args : Array Value) (w : World), (callFunc N args).run Tryz.prog w = .ok (.enter N args) w

def misP (m : Int) : List PanicEntry := [{ v := .iface 60 (.int .i64 m), recovered := false }]

set_option maxRecDepth 100000 in
set_option maxHeartbeats 3200000 in
theorem caught_ok (hC : CloneSaid) {w : World} {N : Nat} {first caps : Array Value} {u : List UInt8} (eg : Ent N) (hu : u.length ≤ 1000000000)
    (hN : ∀ W, K0 w W → Calls Tryz.prog N (first ++ caps) W fun e w' => e = .returned (.string (txt u)) ∧ K0 W w') :
    Calls Tryz.prog 48 #[.func (.func N) first caps] w fun e w' => e = .returned (.tuple #[.string (txt u), .int .i64 0]) ∧ K0 w w' := by
  have hmf : ∀ (fn : Fn) (first cap : Array Value) (w : World), (Instr.makeFunc fn first cap).run Tryz.prog w = .ok (.func fn first cap) w := fun _ _ _ _ => rfl
  unfold Ent at eg
  have HN := hide hN
  have HC := hide (fun W => hC (txt u) W (by rw [txt_size]; exact hu))
  clear hN hC
  go_enter_defers Tryz.func48, Tryz.ntmps48
  go_wp2_with fail
  have hk0 : K0 w (w.alloc (.cells #[.int .i64 0] 60)) := Kp.alloc _ _ _
  have hb0 : (w.alloc (.cells #[.int .i64 0] 60)).heap[w.heap.size]? = some (.cells #[.int .i64 0] 60 (0, 0)) := heap_alloc_new w _
  refine (unhide HN _ hk0).mono ?_
  rintro e w1 ⟨rfl, hk1⟩
  have hb1 := (hk1.heap (heap_lt hb0)).trans hb0
  go_wp2_with fail
  refine (unhide HC _).mono ?_
  rintro e w2 ⟨rfl, hk2⟩
  have hb2 := (hk2.heap (heap_lt hb1)).trans hb1
  have c2 := cellOf hb2 0
  have f2 := frozenOf hb2 0
  simp at c2
  have hk3 := (hk0.trans hk1).trans hk2
  go_wp2
  refine leaves_cons (f := 78) (args := #[.pointer (some ⟨w.heap.size, 0, none⟩)]) (by simp) (by simp [go_sem]) ?_
  refine (catch_idle ⟨w.heap.size, 0, none⟩ _).mono ?_
  rintro e u' w'' ⟨rfl, rfl, rfl⟩
  have hb3 := heap_set hb2 0 (.int .i64 0)
  simp at hb3
  have c3 := cellOf hb3 0
  simp at c3
  simp [Leaves, settle, results, Tryz.f48, go_sem, c3]
  exact K0.set hk3 (Nat.le_refl _) 0 (.int .i64 0)

set_option maxRecDepth 100000 in
set_option maxHeartbeats 3200000 in
theorem caught_no {w : World} {N : Nat} {first caps : Array Value} {m : Int} (eg : Ent N)
    (hN : ∀ W, K0 w W → Calls Tryz.prog N (first ++ caps) W fun e w' => e = .panicked (misP m) ∧ K0 W w') :
    Calls Tryz.prog 48 #[.func (.func N) first caps] w fun e w' => e = .returned (.tuple #[.string ⟨#[]⟩, .int .i64 m]) ∧ K0 w w' := by
  have hmf : ∀ (fn : Fn) (first cap : Array Value) (w : World), (Instr.makeFunc fn first cap).run Tryz.prog w = .ok (.func fn first cap) w := fun _ _ _ _ => rfl
  unfold Ent at eg
  have HN := hide hN
  clear hN
  go_enter_defers Tryz.func48, Tryz.ntmps48
  go_wp2_with fail
  have hk0 : K0 w (w.alloc (.cells #[.int .i64 0] 60)) := Kp.alloc _ _ _
  have hb0 : (w.alloc (.cells #[.int .i64 0] 60)).heap[w.heap.size]? = some (.cells #[.int .i64 0] 60 (0, 0)) := heap_alloc_new w _
  refine (unhide HN _ hk0).mono ?_
  rintro e w1 ⟨rfl, hk1⟩
  have hb1 := (hk1.heap (heap_lt hb0)).trans hb0
  have c1 := cellOf hb1 0
  have f1 := frozenOf hb1 0
  simp at c1
  unfold misP
  refine leaves_cons (f := 78) (args := #[.pointer (some ⟨w.heap.size, 0, none⟩)]) (by simp) (by simp [go_sem]) ?_
  refine (catch_panicking ⟨w.heap.size, 0, none⟩ 0 m [] _ c1 f1).mono ?_
  rintro e u' w'' ⟨rfl, rfl, rfl⟩
  have hb3 := heap_set hb1 0 (.int .i64 m)
  simp at hb3
  have c3 := cellOf hb3 0
  simp at c3
  simp [Leaves, settle, results, Tryz.f48, go_sem, c3]
  exact K0.set (hk0.trans hk1) (Nat.le_refl _) 0 (.int .i64 m)

end Go.Proofs.YtlljggefbngkeaaGreatDoor
