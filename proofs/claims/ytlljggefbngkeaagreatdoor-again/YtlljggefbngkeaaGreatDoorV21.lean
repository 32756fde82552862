import Derived.Test.YtlljggefbngkeaaGreatDoorV19
import Derived.Shelf.Strconv.Clone
namespace Go.Proofs.YtlljggefbngkeaaGreatDoor
open Go.RowKit Go.Shelf

def cren : Go.Shelf.Ren := ⟨fun | 316 => 122 | n => n, fun | 0 => 0 | 3 => 3 | 4 => 4 | 5 => 5 | 9 => 9 | 37 => 96 | 127 => 152 | n => n, fun | n => n⟩
theorem clays : Go.Proofs.LaysM.n316 Tryz.prog cren := {
  mixed := by kernel_rfl
  f316 := Tryz.func122.trans (congrArg some (by kernel_rfl))
  t0 := Tryz.underlying0
  a0 := Tryz.isAgg0
  z0 := Tryz.sizeOf0
  v0 := Tryz.zeroValue0
  t3 := Tryz.underlying3
  a3 := Tryz.isAgg3
  z3 := Tryz.sizeOf3
  v3 := Tryz.zeroValue3
  t4 := Tryz.underlying4
  a4 := Tryz.isAgg4
  z4 := Tryz.sizeOf4
  v4 := Tryz.zeroValue4
  t5 := Tryz.underlying5
  a5 := Tryz.isAgg5
  z5 := Tryz.sizeOf5
  v5 := Tryz.zeroValue5
  t9 := Tryz.underlying9
  a9 := Tryz.isAgg9
  z9 := Tryz.sizeOf9
  v9 := Tryz.zeroValue9
  t37 := Tryz.underlying96
  a37 := Tryz.isAgg96
  z37 := Tryz.sizeOf96
  v37 := Tryz.zeroValue96
  t127 := Tryz.underlying152
  a127 := Tryz.isAgg152
  z127 := Tryz.sizeOf152
  v127 := Tryz.zeroValue152
  i0 := by kernel_rfl
  i3 := by kernel_rfl
  i4 := by kernel_rfl
  i5 := by kernel_rfl
  i9 := by kernel_rfl
  i37 := by kernel_rfl
  i127 := by kernel_rfl }

set_option maxHeartbeats 400000 in
theorem clone_said : CloneSaid := by
  intro s w hs
  have HC := hide (fun W => Any.stringslite_Clone clays s W (by omega))
  go_enter Tryz.func79, Tryz.ntmps79
  go_wp2_with fail
  refine (unhide HC _).mono ?_
  rintro e w' ⟨rfl, hb⟩
  go_wp2
  go_ret
  exact ⟨rfl, hb.os, hb.tape, hb.output, hb.size, fun k hk _ => hb.block k hk⟩

end Go.Proofs.YtlljggefbngkeaaGreatDoor

namespace Go.Proofs.YtlljggefbngkeaaGreatDoor
open Go.RowKit Go.Shelf

/-- a text, or a misfit -/
def OwPost (w : World) (P : Prop) (t : List UInt8) (m : Int) (e : Ending) (w' : World) : Prop := ((P ∧ e = .returned (.string (txt t))) ∨ (¬ P ∧ e = .panicked (misP m))) ∧ K0 w w'

set_option maxRecDepth 100000 in
set_option maxHeartbeats 1600000 in
theorem own_said {w : World} {t : PT} {b : Nat} {m : Int} {u : List UInt8} (h : MachAt w t b) (hu : u.length ≤ 1000) :
    Calls Tryz.prog 94 #[.agg #[.int .i64 m, .pointer (some ⟨b, 0, none⟩)], .string (txt u)] w fun e w' => OwPost w (M t u) u m e w' := by
  have HH := hide (fun (W : World) (hk : K0 w W) => mach_holds (h.k0 hk) hu)
  clear h
  go_enter Tryz.func94, Tryz.ntmps94
  go_wp2_with fail
  have hk0 : K0 w (w.alloc (.cells #[.int .i64 m, .pointer (some ⟨b, 0, none⟩)] 122)) := Kp.alloc _ _ _
  have hb0 : (w.alloc (.cells #[.int .i64 m, .pointer (some ⟨b, 0, none⟩)] 122)).heap[w.heap.size]? = some (.cells #[.int .i64 m, .pointer (some ⟨b, 0, none⟩)] 122 (0, 0)) := heap_alloc_new w _
  refine (unhide HH _ hk0).mono ?_
  rintro e w1 ⟨x, rfl, hx, hk1⟩
  have hb1 := (hk1.heap (heap_lt hb0)).trans hb0
  have c0 := cellOf hb1 0
  simp at c0
  have hk2 := hk0.trans hk1
  cases x
  · have HN := hide (show ¬ M t u from fun h => by have := hx.2 h; cases this)
    clear hx
    go_wp2
    refine ⟨rfl, .inr ⟨unhide HN, rfl⟩, hk2⟩
  · have HN := hide (hx.1 rfl)
    clear hx
    go_wp2
    go_ret
    exact ⟨.inl ⟨unhide HN, rfl⟩, hk2⟩

end Go.Proofs.YtlljggefbngkeaaGreatDoor
