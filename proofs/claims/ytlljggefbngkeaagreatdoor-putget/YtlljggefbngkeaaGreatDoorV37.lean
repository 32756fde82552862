import Derived.Test.YtlljggefbngkeaaGreatDoorV21
import Derived.Test.YtlljggefbngkeaaGreatDoorV32
import Derived.Test.YtlljggefbngkeaaGreatDoorV36
import Derived.Test.YtlljggefbngkeaaGreatDoorV11
namespace Go.Proofs.YtlljggefbngkeaaGreatDoor
open Go.RowKit Go.Shelf

/-- a machine that lies outside Y -/
def MachO (w : World) (Y : Nat → Prop) (t : PT) (b : Nat) : Prop := okRep t ∧ stSize t ≤ 1000 ∧ MH w Y b (mBuild t).1 (mBuild t).2 0
/-- all but the blocks of Y is as it was -/
def KY (Y : Nat → Prop) (w w' : World) : Prop := Kp (fun k => ¬ Y k) w w'
theorem K0.ky {w w' : World} (h : K0 w w') (Y : Nat → Prop) : KY Y w w' := h.kp _
theorem KY.trans {Y : Nat → Prop} {a b c : World} (h : KY Y a b) (k : KY Y b c) : KY Y a c := Kp.trans h k
theorem KY.refl (Y : Nat → Prop) (w : World) : KY Y w w := Kp.refl _ _
theorem KY.heap {Y : Nat → Prop} {w w' : World} (h : KY Y w w') {k : Nat} {x : Obj} (hk : w.heap[k]? = some x) (hy : ¬ Y k) : w'.heap[k]? = some x := Kp.at h hk hy
theorem KY.reY {Y Z : Nat → Prop} {w w' : World} (h : KY Z w w') (hZ : ∀ k, k < w.heap.size → Z k → Y k) : KY Y w w' := Kp.mono h (fun k hk hn hz => hn (hZ k hk hz))
theorem MachO.at_ {w : World} {Y : Nat → Prop} {t : PT} {b : Nat} (h : MachO w Y t b) : MachAt w t b := ⟨h.1, h.2.1, h.2.2.reY (fun k hk hz => by omega)⟩
theorem MachO.ky {w w' : World} {Y : Nat → Prop} {t : PT} {b : Nat} (h : MachO w Y t b) (hk : KY Y w w') : MachO w' Y t b := ⟨h.1, h.2.1, h.2.2.kept (fun k h1 h2 => hk.block k h1 h2)⟩
theorem MachO.reY {w : World} {Y Z : Nat → Prop} {t : PT} {b : Nat} (h : MachO w Y t b) (hZ : ∀ k, k < w.heap.size → Z k → Y k) : MachO w Z t b := ⟨h.1, h.2.1, h.2.2.reY hZ⟩

/-- Pattern.Machine: all that it lays is new -/
theorem mach_new {w : World} {Y : Nat → Prop} {t : PT} {p : Nat} (hT : TR w Y t p) (hok : okRep t) (hsz : stSize t ≤ 1000) :
    Calls Tryz.prog 98 #[.pointer (some ⟨p, 0, none⟩)] w fun e w' => ∃ b, e = .returned (.pointer (some ⟨b, 0, none⟩)) ∧ (∀ w'', (∀ k, w.heap.size ≤ k → k < w'.heap.size → w''.heap[k]? = w'.heap[k]?) → w'.heap.size ≤ w''.heap.size → MachO w'' (fun k => k < w.heap.size) t b) ∧ K0 w w' := by
  refine (mbuild hT hok hsz).mono ?_
  rintro e w' ⟨b, rfl, hM, hg⟩
  refine ⟨b, rfl, fun w'' hk hs => ⟨hok, hsz, ?_⟩, K0.of_grownz hg⟩
  have h1 : MH w'' (fun k => k < w.heap.size ∨ w'.heap.size ≤ k) b (mBuild t).1 (mBuild t).2 0 := (hM.reY (Z := fun k => k < w.heap.size ∨ w'.heap.size ≤ k) (fun k hk' hz => hz.resolve_right (by omega))).kept (fun k hk' hn => hk k (by omega) hk')
  exact h1.reY (fun k _ hz => .inl hz)

/-- the misfit of a side -/
def misV (v : Bool) : Int := if v then 2 else 1

set_option maxHeartbeats 400000 in
theorem misfit_said (v : Bool) (w : World) : Calls Tryz.prog 96 #[.int .i64 (sdV v)] w fun e w' => e = .returned (.int .i64 (misV v)) ∧ w' = w := by
  cases v
  · have e1 : sdV false = 0 := rfl
    rw [e1]
    go_enter Tryz.func96, Tryz.ntmps96
    go_wp2
    go_ret
    exact ⟨rfl, rfl⟩
  · have e1 : sdV true = 1 := rfl
    rw [e1]
    go_enter Tryz.func96, Tryz.ntmps96
    go_wp2
    go_ret
    exact ⟨rfl, rfl⟩

set_option maxRecDepth 100000 in
set_option maxHeartbeats 1600000 in
theorem textsOf_said {s : ByteArray} {v : Bool} {t : LT} {w : World} {Y : Nat → Prop} {g : Nat} (hL : LR s w Y t g) (hO : VOk t) (hY : ∀ k, Y k → k < w.heap.size) (hN : NOk t) (hz : lsz t ≤ 400) :
    Calls Tryz.prog 69 #[.int .i64 (sdV v), .pointer (some ⟨g, 0, none⟩)] w fun e w' => (∃ b, e = .returned (.agg #[.int .i64 (misV v), .pointer (some ⟨b, 0, none⟩)]) ∧ MachO w' (fun k => k < w.heap.size) (sideT v t) b) ∧ K0 w w' := by
  have hk0 : ∀ o, K0 w (w.alloc o) := fun o => Kp.alloc _ _ _
  have HT := hide (fun (W : World) (hk : K0 w W) => stexts (v := v) t W Y g (LR.kept (fun k hk' _ => hk.heap hk') hL) hO (fun k h => Nat.lt_of_lt_of_le (hY k h) hk.size))
  have hok := sideT_ok v t hN
  have hss := sideT_size v t
  have HM := hide (fun (W : World) (p : Nat) (hT : TR W Y (sideT v t) p) => mach_new hT hok (by omega))
  clear hL hO hY hN
  go_enter Tryz.func69, Tryz.ntmps69
  go_wp2_with fail
  refine (misfit_said v _).mono ?_
  rintro e w' ⟨rfl, rfl⟩
  go_wp2_with fail
  have hb0 := heap_alloc_new w (.cells #[.int .i64 0, .pointer none] 122)
  have hk1 := hk0 (.cells #[.int .i64 0, .pointer none] 122)
  refine (unhide HT _ hk1).mono ?_
  rintro e w1 ⟨p, rfl, hg1, hT1⟩
  have hk2 := K0.of_grownz hg1
  have hb1 := (hk2.heap (heap_lt hb0)).trans hb0
  go_wp2_with fail
  refine (unhide HM _ p hT1).mono ?_
  rintro e w2 ⟨b, rfl, hMa, hk3⟩
  have hb2 := (hk3.heap (heap_lt hb1)).trans hb1
  have c0 := cellOf hb2 0
  have c1 := cellOf hb2 1
  have f0 := frozenOf hb2 0
  have f1 := frozenOf hb2 1
  simp at c0 c1
  have hk9 := (hk1.trans hk2).trans hk3
  have HMa := hide hMa
  clear hMa hT1
  go_wp2
  have g0 := heap_set hb2 0 (.int .i64 (misV v))
  have g1 := heap_set g0 1 (.pointer (some ⟨b, 0, none⟩))
  simp at g1
  have e0 := cellOf g1 0
  have e1 := cellOf g1 1
  simp at e0 e1
  have far : ∀ k, k ≠ w.heap.size → ((w2.setCell ⟨w.heap.size, 0, none⟩ (.int .i64 (misV v))).setCell ⟨w.heap.size, 1, none⟩ (.pointer (some ⟨b, 0, none⟩))).heap[k]? = w2.heap[k]? := fun k h => (Below.heap_setCell _ _ _ _ h).trans (Below.heap_setCell _ _ _ _ h)
  have hsz2 : ((w2.setCell ⟨w.heap.size, 0, none⟩ (.int .i64 (misV v))).setCell ⟨w.heap.size, 1, none⟩ (.pointer (some ⟨b, 0, none⟩))).heap.size = w2.heap.size := by simp [World.setCell]
  have hs1 := hk2.size
  simp at hs1
  refine bodyPost_ret (v := .agg #[.int .i64 (misV v), .pointer (some ⟨b, 0, none⟩)]) ?_ rfl ?_
  · simp [results, Tryz.f69, go_sem, e0, e1]
  · exact ⟨⟨b, rfl, (unhide HMa _ (fun k h1 h2 => far k (by omega)) (by omega)).reY (fun k _ hz => by omega)⟩, K0.set (K0.set hk9 (Nat.le_refl _) 0 _) (Nat.le_refl _) 1 _⟩

end Go.Proofs.YtlljggefbngkeaaGreatDoor

namespace Go.Proofs.YtlljggefbngkeaaGreatDoor
open Go.RowKit Go.Shelf

set_option maxRecDepth 100000 in
set_option maxHeartbeats 1600000 in
theorem newParting_said {v : Bool} {A B : PT} {w : World} {Y : Nat → Prop} {pa pb : Nat} (hA : TR w Y A pa) (hB : TR w Y B pb) (oka : okRep A) (okb : okRep B) (hsa : stSize A ≤ 1000) (hsb : stSize B ≤ 1000) :
    Calls Tryz.prog 107 #[.int .i64 (sdV v), .pointer (some ⟨pa, 0, none⟩), .pointer (some ⟨pb, 0, none⟩)] w fun e w' => (∃ ba bb, e = .returned (.agg #[.int .i64 (misV v), .pointer (some ⟨ba, 0, none⟩), .pointer (some ⟨bb, 0, none⟩)]) ∧ MachO w' (fun k => k < w.heap.size) A ba ∧ MachO w' (fun k => k < w.heap.size) B bb) ∧ K0 w w' := by
  have HA := hide (fun (W : World) (hk : K0 w W) => mach_new (TR.kept (w' := W) (fun k hk' _ => hk.heap hk') hA) oka hsa)
  have HB := hide (fun (W : World) (hk : K0 w W) => mach_new (TR.kept (w' := W) (fun k hk' _ => hk.heap hk') hB) okb hsb)
  clear hA hB
  go_enter Tryz.func107, Tryz.ntmps107
  go_wp2_with fail
  refine (misfit_said v _).mono ?_
  rintro e w' ⟨rfl, rfl⟩
  go_wp2_with fail
  have hb0 := heap_alloc_new w (.cells #[.int .i64 0, .pointer none, .pointer none] 128)
  have hk1 : K0 w (w.alloc (.cells #[.int .i64 0, .pointer none, .pointer none] 128)) := Kp.alloc _ _ _
  refine (unhide HA _ hk1).mono ?_
  rintro e w1 ⟨ba, rfl, hMa, hk2⟩
  have hb1 := (hk2.heap (heap_lt hb0)).trans hb0
  have hk12 := hk1.trans hk2
  have HMa := hide hMa
  clear hMa
  go_wp2_with fail
  refine (unhide HB _ hk12).mono ?_
  rintro e w2 ⟨bb, rfl, hMb, hk3⟩
  have hb2 := (hk3.heap (heap_lt hb1)).trans hb1
  have c0 := cellOf hb2 0
  have c1 := cellOf hb2 1
  have c2 := cellOf hb2 2
  have f0 := frozenOf hb2 0
  have f1 := frozenOf hb2 1
  have f2 := frozenOf hb2 2
  simp at c0 c1 c2
  have hk9 := hk12.trans hk3
  have HMb := hide hMb
  clear hMb
  go_wp2
  have g0 := heap_set hb2 0 (.int .i64 (misV v))
  have g1 := heap_set g0 1 (.pointer (some ⟨ba, 0, none⟩))
  have g2 := heap_set g1 2 (.pointer (some ⟨bb, 0, none⟩))
  simp at g2
  have e0 := cellOf g2 0
  have e1 := cellOf g2 1
  have e2 := cellOf g2 2
  simp at e0 e1 e2
  have far : ∀ k, k ≠ w.heap.size → (((w2.setCell ⟨w.heap.size, 0, none⟩ (.int .i64 (misV v))).setCell ⟨w.heap.size, 1, none⟩ (.pointer (some ⟨ba, 0, none⟩))).setCell ⟨w.heap.size, 2, none⟩ (.pointer (some ⟨bb, 0, none⟩))).heap[k]? = w2.heap[k]? := fun k h => (Below.heap_setCell _ _ _ _ h).trans ((Below.heap_setCell _ _ _ _ h).trans (Below.heap_setCell _ _ _ _ h))
  have hsz2 : (((w2.setCell ⟨w.heap.size, 0, none⟩ (.int .i64 (misV v))).setCell ⟨w.heap.size, 1, none⟩ (.pointer (some ⟨ba, 0, none⟩))).setCell ⟨w.heap.size, 2, none⟩ (.pointer (some ⟨bb, 0, none⟩))).heap.size = w2.heap.size := by simp [World.setCell]
  have hs1 := hk2.size
  have hs2 := hk3.size
  have hs0 : (w.alloc (.cells #[.int .i64 0, .pointer none, .pointer none] 128)).heap.size = w.heap.size + 1 := by simp
  refine bodyPost_ret (v := .agg #[.int .i64 (misV v), .pointer (some ⟨ba, 0, none⟩), .pointer (some ⟨bb, 0, none⟩)]) ?_ rfl ?_
  · simp [results, Tryz.f107, go_sem, e0, e1, e2]
  · exact ⟨⟨ba, bb, rfl, (unhide HMa _ (fun k h1 h2 => (far k (by omega)).trans (hk3.heap h2)) (by omega)).reY (fun k _ hz => by omega), (unhide HMb _ (fun k h1 h2 => far k (by omega)) (by omega)).reY (fun k _ hz => by omega)⟩, K0.set (K0.set (K0.set hk9 (Nat.le_refl _) 0 _) (Nat.le_refl _) 1 _) (Nat.le_refl _) 2 _⟩

end Go.Proofs.YtlljggefbngkeaaGreatDoor

namespace Go.Proofs.YtlljggefbngkeaaGreatDoor
open Go.RowKit Go.Shelf

/-- a function value of one text, in every later world -/
def Fn1 (Y : Nat → Prop) (w0 : World) (f : Value) (P : List UInt8 → Prop) (G : List UInt8 → List UInt8) (m : Int) : Prop :=
  ∃ (N : Nat) (first caps : Array Value), f = .func (.func N) first caps ∧ Ent N ∧ ∀ (W : World) (u : List UInt8), KY Y w0 W → u.length ≤ 1000 →
    Calls Tryz.prog N (first.push (.string (txt u)) ++ caps) W fun e w' => OwPost W (P u) (G u) m e w'
/-- of a view and a source -/
def LbPost (w : World) (Pv Ps : Prop) (t : List UInt8) (e : Ending) (w' : World) : Prop :=
  ((Pv ∧ Ps ∧ e = .returned (.string (txt t))) ∨ (¬ Pv ∧ e = .panicked (misP 2)) ∨ (Pv ∧ ¬ Ps ∧ e = .panicked (misP 1))) ∧ K0 w w'
def Fn2 (Y : Nat → Prop) (w0 : World) (f : Value) (Pv Ps : List UInt8 → Prop) (G : List UInt8 → List UInt8 → List UInt8) : Prop :=
  ∃ (N : Nat) (first caps : Array Value), f = .func (.func N) first caps ∧ Ent N ∧ ∀ (W : World) (v s : List UInt8), KY Y w0 W → v.length ≤ 1000 → s.length ≤ 1000 →
    Calls Tryz.prog N (first ++ (#[.string (txt v), .string (txt s)] ++ caps)) W fun e w' => LbPost W (Pv v) (Ps s) (G v s) e w'
/-- a lens as functions, in memory, outside Y -/
def CL (Y : Nat → Prop) (w : World) (b : Nat) (c : BT) : Prop :=
  ∃ f1 f2 f3, w.heap[b]? = some (.cells #[f1, f2, f3] 88 (0, 0)) ∧ ¬ Y b ∧ Fn1 Y w f1 (fun u => M (bS c) u) (getF c) 1 ∧ Fn2 Y w f2 (fun v => M (bV c) v) (fun s => M (bS c) s) (putF c) ∧ Fn1 Y w f3 (fun v => M (bV c) v) (makeF c) 2
theorem Fn1.ky {Y : Nat → Prop} {w w' : World} {f : Value} {P : List UInt8 → Prop} {G : List UInt8 → List UInt8} {m : Int} (h : Fn1 Y w f P G m) (hk : KY Y w w') : Fn1 Y w' f P G m := by
  obtain ⟨N, first, caps, e, he, hc⟩ := h
  exact ⟨N, first, caps, e, he, fun W u hW hu => hc W u (hk.trans hW) hu⟩
theorem Fn2.ky {Y : Nat → Prop} {w w' : World} {f : Value} {Pv Ps : List UInt8 → Prop} {G : List UInt8 → List UInt8 → List UInt8} (h : Fn2 Y w f Pv Ps G) (hk : KY Y w w') : Fn2 Y w' f Pv Ps G := by
  obtain ⟨N, first, caps, e, he, hc⟩ := h
  exact ⟨N, first, caps, e, he, fun W v s hW hv hs => hc W v s (hk.trans hW) hv hs⟩
theorem CL.ky {Y : Nat → Prop} {w w' : World} {b : Nat} {c : BT} (h : CL Y w b c) (hk : KY Y w w') : CL Y w' b c := by
  obtain ⟨f1, f2, f3, hb, hy, h1, h2, h3⟩ := h
  exact ⟨f1, f2, f3, hk.heap hb hy, hy, h1.ky hk, h2.ky hk, h3.ky hk⟩
theorem Fn1.reY {Y Z : Nat → Prop} {w : World} {f : Value} {P : List UInt8 → Prop} {G : List UInt8 → List UInt8} {m : Int} (h : Fn1 Y w f P G m) (hZ : ∀ k, k < w.heap.size → Z k → Y k) : Fn1 Z w f P G m := by
  obtain ⟨N, first, caps, e, he, hc⟩ := h
  exact ⟨N, first, caps, e, he, fun W u hW hu => hc W u (hW.reY hZ) hu⟩
theorem Fn2.reY {Y Z : Nat → Prop} {w : World} {f : Value} {Pv Ps : List UInt8 → Prop} {G : List UInt8 → List UInt8 → List UInt8} (h : Fn2 Y w f Pv Ps G) (hZ : ∀ k, k < w.heap.size → Z k → Y k) : Fn2 Z w f Pv Ps G := by
  obtain ⟨N, first, caps, e, he, hc⟩ := h
  exact ⟨N, first, caps, e, he, fun W v s hW hv hs => hc W v s (hW.reY hZ) hv hs⟩
theorem CL.reY {Y Z : Nat → Prop} {w : World} {b : Nat} {c : BT} (h : CL Y w b c) (hZ : ∀ k, k < w.heap.size → Z k → Y k) : CL Z w b c := by
  obtain ⟨f1, f2, f3, hb, hy, h1, h2, h3⟩ := h
  exact ⟨f1, f2, f3, hb, fun hz => hy (hZ b (heap_lt hb) hz), h1.reY hZ, h2.reY hZ, h3.reY hZ⟩

theorem ent_own : Ent 94 := enters_of Tryz.func94 (by kernel_rfl) rfl
theorem ent_same1 : Ent 95 := enters_of Tryz.func95 (by kernel_rfl) rfl

/-- texts.own, bound to its texts -/
theorem fn_own {Y : Nat → Prop} {w : World} {t : PT} {b : Nat} {m : Int} {Q : List UInt8 → Prop} {G : List UInt8 → List UInt8} (h : MachO w Y t b) (hQ : ∀ u, M t u ↔ Q u) (hG : ∀ u, G u = u) : Fn1 Y w (.func (.func 94) #[.agg #[.int .i64 m, .pointer (some ⟨b, 0, none⟩)]] #[]) Q G m := by
  refine ⟨_, _, _, rfl, ent_own, fun W u hW hu => ?_⟩
  have e : #[Value.agg #[.int .i64 m, .pointer (some ⟨b, 0, none⟩)]].push (.string (txt u)) ++ #[] = #[.agg #[.int .i64 m, .pointer (some ⟨b, 0, none⟩)], .string (txt u)] := by simp
  rw [e, hG u]
  refine (own_said (m := m) (h.ky hW).at_ hu).mono ?_
  rintro e w' ⟨h1, hk⟩
  rw [hQ u] at h1
  exact ⟨h1, hk⟩

set_option maxRecDepth 100000 in
set_option maxHeartbeats 1600000 in
theorem same1_said {W : World} {t t' : PT} {b1 b2 Bs Bv : Nat} {v s : List UInt8} (hs : W.heap[Bs]? = some (.cells #[.int .i64 1, .pointer (some ⟨b1, 0, none⟩)] 122 (0, 0))) (hv : W.heap[Bv]? = some (.cells #[.int .i64 2, .pointer (some ⟨b2, 0, none⟩)] 122 (0, 0))) (h1 : MachAt W t b1) (h2 : MachAt W t' b2) (hvl : v.length ≤ 1000) (hsl : s.length ≤ 1000) :
    Calls Tryz.prog 95 #[.string (txt v), .string (txt s), .pointer (some ⟨Bv, 0, none⟩), .pointer (some ⟨Bs, 0, none⟩)] W fun e w' => LbPost W (M t' v) (M t s) v e w' := by
  have c0 := cellOf hv 0
  have c1 := cellOf hv 1
  simp at c0 c1
  have HV := hide (own_said (m := 2) (u := v) h2 hvl)
  have HS := hide (fun (A : World) (hk : K0 W A) => own_said (m := 1) (u := s) (h1.k0 hk) hsl)
  have HB := hide hs
  clear hs hv h1 h2
  go_enter Tryz.func95, Tryz.ntmps95
  go_wp2_with fail
  refine (unhide HV).mono ?_
  rintro e w1 ⟨(⟨hv, rfl⟩ | ⟨hv, rfl⟩), hk1⟩
  · have hb1 := (hk1.heap (heap_lt (unhide HB))).trans (unhide HB)
    have d0 := cellOf hb1 0
    have d1 := cellOf hb1 1
    simp at d0 d1
    have Hv := hide hv
    clear hv
    go_wp2_with fail
    refine (unhide HS _ hk1).mono ?_
    rintro e w2 ⟨(⟨hs, rfl⟩ | ⟨hs, rfl⟩), hk2⟩
    · have Hs := hide hs
      clear hs
      go_wp2
      go_ret
      exact ⟨.inl ⟨unhide Hv, unhide Hs, rfl⟩, hk1.trans hk2⟩
    · have Hs := hide hs
      clear hs
      exact ⟨rfl, .inr (.inr ⟨unhide Hv, unhide Hs, rfl⟩), hk1.trans hk2⟩
  · exact ⟨rfl, .inr (.inl ⟨hv, rfl⟩), hk1⟩

end Go.Proofs.YtlljggefbngkeaaGreatDoor

namespace Go.Proofs.YtlljggefbngkeaaGreatDoor
open Go.RowKit Go.Shelf

def ClPost (Y : Nat → Prop) (w : World) (c : BT) (e : Ending) (w' : World) : Prop := ∃ b, e = .returned (.pointer (some ⟨b, 0, none⟩)) ∧ CL Y w' b c ∧ K0 w w'

set_option maxRecDepth 100000 in
set_option maxHeartbeats 1600000 in
theorem same_said {Y : Nat → Prop} {w : World} {t t1 t2 : PT} {b1 b2 : Nat} (hY : ∀ k, Y k → k < w.heap.size) (h1 : MachO w Y t1 b1) (h2 : MachO w Y t2 b2) (e1 : ∀ u, M t1 u ↔ M t u) (e2 : ∀ u, M t2 u ↔ M t u) :
    Calls Tryz.prog 68 #[.agg #[.int .i64 1, .pointer (some ⟨b1, 0, none⟩)], .agg #[.int .i64 2, .pointer (some ⟨b2, 0, none⟩)]] w fun e w' => ClPost Y w (.pat t) e w' := by
  have hmf : ∀ (fn : Fn) (first cap : Array Value) (w : World), (Instr.makeFunc fn first cap).run Tryz.prog w = .ok (.func fn first cap) w := fun _ _ _ _ => rfl
  have HH := hide (And.intro h1 (And.intro h2 (And.intro e1 (And.intro e2 hY))))
  clear h1 h2 e1 e2 hY
  go_enter Tryz.func68, Tryz.ntmps68
  go_wp2
  go_ret
  obtain ⟨h1, h2, e1, e2, hY⟩ := unhide HH
  obtain ⟨w3, hw3, hs3, p0, p1, p2, hg⟩ := thr_at w (.cells #[.int .i64 1, .pointer (some ⟨b1, 0, none⟩)] 122) (.cells #[.int .i64 2, .pointer (some ⟨b2, 0, none⟩)] 122) (.cells #[.func (.func 94) #[.agg #[.int .i64 1, .pointer (some ⟨b1, 0, none⟩)]] #[], .func (.func 95) #[] #[.pointer (some ⟨w.heap.size + 1, 0, none⟩), .pointer (some ⟨w.heap.size, 0, none⟩)], .func (.func 94) #[.agg #[.int .i64 2, .pointer (some ⟨b2, 0, none⟩)]] #[]] 88)
  have hk := K0.of_grownz hg
  refine ⟨w.heap.size + 2, rfl, ?_, ?_⟩
  · rw [hw3]
    refine ⟨_, _, _, p2, fun hy => by have := hY _ hy; omega, fn_own (h1.ky (hk.ky Y)) e1 (fun u => by rw [getF]), ?_, fn_own (h2.ky (hk.ky Y)) e2 (fun u => by rw [makeF])⟩
    refine ⟨_, _, _, rfl, ent_same1, fun W v s hW hv hs => ?_⟩
    have e : (#[] : Array Value) ++ (#[.string (txt v), .string (txt s)] ++ #[.pointer (some ⟨w.heap.size + 1, 0, none⟩), .pointer (some ⟨w.heap.size, 0, none⟩)]) = #[.string (txt v), .string (txt s), .pointer (some ⟨w.heap.size + 1, 0, none⟩), .pointer (some ⟨w.heap.size, 0, none⟩)] := by simp
    rw [e]
    refine (same1_said (hW.heap p0 (fun hy => by have := hY _ hy; omega)) (hW.heap p1 (fun hy => by have := hY _ hy; omega)) ((h1.ky (hk.ky Y)).ky hW).at_ ((h2.ky (hk.ky Y)).ky hW).at_ hv hs).mono ?_
    rintro e w' ⟨hh, hk'⟩
    rw [e1 s, e2 v] at hh
    rw [putF]
    exact ⟨hh, hk'⟩
  · rw [hw3]
    exact hk

end Go.Proofs.YtlljggefbngkeaaGreatDoor

namespace Go.Proofs.YtlljggefbngkeaaGreatDoor
open Go.RowKit Go.Shelf

def tcell (m : Int) (b : Nat) : Obj := .cells #[.int .i64 m, .pointer (some ⟨b, 0, none⟩)] 122 (0, 0)

set_option maxRecDepth 100000 in
set_option maxHeartbeats 1600000 in
theorem fixed1_said {W : World} {t : PT} {b1 Bs Bl g : Nat} {pv jv pat : Value} {wr : ByteArray} {v d s : List UInt8} {a : Nat} (hs : W.heap[Bs]? = some (tcell 1 b1)) (hl : W.heap[Bl]? = some (.cells #[.pointer (some ⟨g, 0, none⟩)] 54 (0, 0))) (hg : W.heap[g]? = some (lblk 1 pv jv pat wr (txt v) (txt d) a)) (h1 : MachAt W t b1) (hsl : s.length ≤ 1000) :
    Calls Tryz.prog 99 #[.string (txt s), .pointer (some ⟨Bs, 0, none⟩), .pointer (some ⟨Bl, 0, none⟩)] W fun e w' => OwPost W (M t s) v 1 e w' := by
  have c0 := cellOf hs 0
  have c1 := cellOf hs 1
  simp at c0 c1
  have HS := hide (own_said (m := 1) (u := s) h1 hsl)
  have HB := hide (And.intro hl hg)
  clear hs hl hg h1
  go_enter Tryz.func99, Tryz.ntmps99
  go_wp2_with fail
  refine (unhide HS).mono ?_
  rintro e w1 ⟨(⟨hm, rfl⟩ | ⟨hm, rfl⟩), hk1⟩
  · obtain ⟨hl, hg⟩ := unhide HB
    have d0 := cellOf ((hk1.heap (heap_lt hl)).trans hl) 0
    have d5 := cellOf ((hk1.heap (heap_lt hg)).trans hg) 5
    simp at d0 d5
    have Hm := hide hm
    clear hm hl hg
    go_wp2
    go_ret
    exact ⟨.inl ⟨unhide Hm, rfl⟩, hk1⟩
  · exact ⟨rfl, .inr ⟨hm, rfl⟩, hk1⟩

set_option maxRecDepth 100000 in
set_option maxHeartbeats 1600000 in
theorem fixed3_said {W : World} {t : PT} {b2 Bv Bl g : Nat} {pv jv pat : Value} {wr : ByteArray} {v d s : List UInt8} {a : Nat} (hs : W.heap[Bv]? = some (tcell 2 b2)) (hl : W.heap[Bl]? = some (.cells #[.pointer (some ⟨g, 0, none⟩)] 54 (0, 0))) (hg : W.heap[g]? = some (lblk 1 pv jv pat wr (txt v) (txt d) a)) (h1 : MachAt W t b2) (hsl : s.length ≤ 1000) :
    Calls Tryz.prog 101 #[.string (txt s), .pointer (some ⟨Bv, 0, none⟩), .pointer (some ⟨Bl, 0, none⟩)] W fun e w' => OwPost W (M t s) d 2 e w' := by
  have c0 := cellOf hs 0
  have c1 := cellOf hs 1
  simp at c0 c1
  have HS := hide (own_said (m := 2) (u := s) h1 hsl)
  have HB := hide (And.intro hl hg)
  clear hs hl hg h1
  go_enter Tryz.func101, Tryz.ntmps101
  go_wp2_with fail
  refine (unhide HS).mono ?_
  rintro e w1 ⟨(⟨hm, rfl⟩ | ⟨hm, rfl⟩), hk1⟩
  · obtain ⟨hl, hg⟩ := unhide HB
    have d0 := cellOf ((hk1.heap (heap_lt hl)).trans hl) 0
    have d6 := cellOf ((hk1.heap (heap_lt hg)).trans hg) 6
    simp at d0 d6
    have Hm := hide hm
    clear hm hl hg
    go_wp2
    go_ret
    exact ⟨.inl ⟨unhide Hm, rfl⟩, hk1⟩
  · exact ⟨rfl, .inr ⟨hm, rfl⟩, hk1⟩

set_option maxRecDepth 100000 in
set_option maxHeartbeats 1600000 in
theorem fixed2_said {W : World} {t t' : PT} {b1 b2 Bs Bv : Nat} {v s : List UInt8} (hs : W.heap[Bs]? = some (tcell 1 b1)) (hv : W.heap[Bv]? = some (tcell 2 b2)) (h1 : MachAt W t b1) (h2 : MachAt W t' b2) (hvl : v.length ≤ 1000) (hsl : s.length ≤ 1000) :
    Calls Tryz.prog 100 #[.string (txt v), .string (txt s), .pointer (some ⟨Bv, 0, none⟩), .pointer (some ⟨Bs, 0, none⟩)] W fun e w' => LbPost W (M t' v) (M t s) s e w' := by
  have c0 := cellOf hv 0
  have c1 := cellOf hv 1
  simp at c0 c1
  have HV := hide (own_said (m := 2) (u := v) h2 hvl)
  have HS := hide (fun (A : World) (hk : K0 W A) => own_said (m := 1) (u := s) (h1.k0 hk) hsl)
  have HB := hide hs
  clear hs hv h1 h2
  go_enter Tryz.func100, Tryz.ntmps100
  go_wp2_with fail
  refine (unhide HV).mono ?_
  rintro e w1 ⟨(⟨hv, rfl⟩ | ⟨hv, rfl⟩), hk1⟩
  · have hb1 := (hk1.heap (heap_lt (unhide HB))).trans (unhide HB)
    have d0 := cellOf hb1 0
    have d1 := cellOf hb1 1
    simp at d0 d1
    have Hv := hide hv
    clear hv
    go_wp2_with fail
    refine (unhide HS _ hk1).mono ?_
    rintro e w2 ⟨(⟨hs, rfl⟩ | ⟨hs, rfl⟩), hk2⟩
    · have Hs := hide hs
      clear hs
      go_wp2
      go_ret
      exact ⟨.inl ⟨unhide Hv, unhide Hs, rfl⟩, hk1.trans hk2⟩
    · have Hs := hide hs
      clear hs
      exact ⟨rfl, .inr (.inr ⟨unhide Hv, unhide Hs, rfl⟩), hk1.trans hk2⟩
  · exact ⟨rfl, .inr (.inl ⟨hv, rfl⟩), hk1⟩

theorem ent_fixed1 : Ent 99 := enters_of Tryz.func99 (by kernel_rfl) rfl
theorem ent_fixed2 : Ent 100 := enters_of Tryz.func100 (by kernel_rfl) rfl
theorem ent_fixed3 : Ent 101 := enters_of Tryz.func101 (by kernel_rfl) rfl

set_option maxRecDepth 100000 in
set_option maxHeartbeats 1600000 in
theorem fixed_said {Y : Nat → Prop} {w : World} {t t1 t2 : PT} {b1 b2 g : Nat} {pv jv pat : Value} {wr : ByteArray} {v d : List UInt8} {a : Nat} (hY : ∀ k, Y k → k < w.heap.size) (hgy : ¬ Y g) (hg : w.heap[g]? = some (lblk 1 pv jv pat wr (txt v) (txt d) a)) (h1 : MachO w Y t1 b1) (h2 : MachO w Y t2 b2) (e1 : ∀ u, M t1 u ↔ M (bS (.key t v d)) u) (e2 : ∀ u, M t2 u ↔ M (bV (.key t v d)) u) :
    Calls Tryz.prog 70 #[.pointer (some ⟨g, 0, none⟩), .agg #[.int .i64 1, .pointer (some ⟨b1, 0, none⟩)], .agg #[.int .i64 2, .pointer (some ⟨b2, 0, none⟩)]] w fun e w' => ClPost Y w (.key t v d) e w' := by
  have hmf : ∀ (fn : Fn) (first cap : Array Value) (w : World), (Instr.makeFunc fn first cap).run Tryz.prog w = .ok (.func fn first cap) w := fun _ _ _ _ => rfl
  have HH := hide (And.intro hg (And.intro h1 (And.intro h2 (And.intro e1 (And.intro e2 (And.intro hY hgy))))))
  clear hg h1 h2 e1 e2 hY hgy
  go_enter Tryz.func70, Tryz.ntmps70
  go_wp2
  go_ret
  obtain ⟨hg, h1, h2, e1, e2, hY, hgy⟩ := unhide HH
  obtain ⟨w3, hw3, hs3, p0, p1, p2, p3, hg3⟩ := four_at w (.cells #[.pointer (some ⟨g, 0, none⟩)] 54) (.cells #[.int .i64 1, .pointer (some ⟨b1, 0, none⟩)] 122) (.cells #[.int .i64 2, .pointer (some ⟨b2, 0, none⟩)] 122) (.cells #[.func (.func 99) #[] #[.pointer (some ⟨w.heap.size + 1, 0, none⟩), .pointer (some ⟨w.heap.size, 0, none⟩)], .func (.func 100) #[] #[.pointer (some ⟨w.heap.size + 2, 0, none⟩), .pointer (some ⟨w.heap.size + 1, 0, none⟩)], .func (.func 101) #[] #[.pointer (some ⟨w.heap.size + 2, 0, none⟩), .pointer (some ⟨w.heap.size, 0, none⟩)]] 88)
  have hk := K0.of_grownz hg3
  have ny : ∀ k, w.heap.size ≤ k → ¬ Y k := fun k h hy => by have := hY _ hy; omega
  refine ⟨w.heap.size + 3, rfl, ?_, ?_⟩
  · rw [hw3]
    refine ⟨_, _, _, p3, ny _ (by omega), ?_, ?_, ?_⟩
    · refine ⟨_, _, _, rfl, ent_fixed1, fun W u hW hu => ?_⟩
      have e : (#[] : Array Value).push (.string (txt u)) ++ #[.pointer (some ⟨w.heap.size + 1, 0, none⟩), .pointer (some ⟨w.heap.size, 0, none⟩)] = #[.string (txt u), .pointer (some ⟨w.heap.size + 1, 0, none⟩), .pointer (some ⟨w.heap.size, 0, none⟩)] := by simp
      rw [e]
      refine (fixed1_said (v := v) (d := d) (hW.heap p1 (ny _ (by omega))) (hW.heap p0 (ny _ (by omega))) (hW.heap ((hk.heap (heap_lt hg)).trans hg) hgy) ((h1.ky (hk.ky Y)).ky hW).at_ hu).mono ?_
      rintro e w' ⟨hh, hk'⟩
      rw [e1 u] at hh
      rw [getF]
      exact ⟨hh, hk'⟩
    · refine ⟨_, _, _, rfl, ent_fixed2, fun W v' s hW hv hs => ?_⟩
      have e : (#[] : Array Value) ++ (#[.string (txt v'), .string (txt s)] ++ #[.pointer (some ⟨w.heap.size + 2, 0, none⟩), .pointer (some ⟨w.heap.size + 1, 0, none⟩)]) = #[.string (txt v'), .string (txt s), .pointer (some ⟨w.heap.size + 2, 0, none⟩), .pointer (some ⟨w.heap.size + 1, 0, none⟩)] := by simp
      rw [e]
      refine (fixed2_said (hW.heap p1 (ny _ (by omega))) (hW.heap p2 (ny _ (by omega))) ((h1.ky (hk.ky Y)).ky hW).at_ ((h2.ky (hk.ky Y)).ky hW).at_ hv hs).mono ?_
      rintro e w' ⟨hh, hk'⟩
      rw [e1 s, e2 v'] at hh
      rw [putF]
      exact ⟨hh, hk'⟩
    · refine ⟨_, _, _, rfl, ent_fixed3, fun W u hW hu => ?_⟩
      have e : (#[] : Array Value).push (.string (txt u)) ++ #[.pointer (some ⟨w.heap.size + 2, 0, none⟩), .pointer (some ⟨w.heap.size, 0, none⟩)] = #[.string (txt u), .pointer (some ⟨w.heap.size + 2, 0, none⟩), .pointer (some ⟨w.heap.size, 0, none⟩)] := by simp
      rw [e]
      refine (fixed3_said (v := v) (d := d) (hW.heap p2 (ny _ (by omega))) (hW.heap p0 (ny _ (by omega))) (hW.heap ((hk.heap (heap_lt hg)).trans hg) hgy) ((h2.ky (hk.ky Y)).ky hW).at_ hu).mono ?_
      rintro e w' ⟨hh, hk'⟩
      rw [e2 u] at hh
      rw [makeF]
      exact ⟨hh, hk'⟩
  · rw [hw3]
    exact hk

end Go.Proofs.YtlljggefbngkeaaGreatDoor
