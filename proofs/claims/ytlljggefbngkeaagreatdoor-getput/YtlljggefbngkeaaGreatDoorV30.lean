import Derived.Test.YtlljggefbngkeaaGreatDoorV29
import Derived.Test.YtlljggefbngkeaaGreatDoorV18
import Derived.Deep.RegionHeld3
import Derived.Test.YtlljggefbngkeaaGreatDoorV15
import Derived.Deep.AppendLies
import Derived.BigQuiet
namespace Go.Proofs.YtlljggefbngkeaaGreatDoor
open Go.RowKit Go.Shelf Go.Maps
attribute [local go_sem] Oper.semAt_some

/-- what shortest() answers -/
def ShPost (W : World) (F : List MSt) (gate beh : Nat) (s0 : P3) (en : Nat) (e : Ending) (w' : World) : Prop :=
  ∃ (u : List UInt8) (f : Bool), e = .returned (.tuple #[.string (txt u), .bool f]) ∧ (f = true → Way F gate beh s0 u (3, en, en) ∧ u.length ≤ 100000000) ∧ (f = false → u = [] ∧ ∀ u', ¬ Way F gate beh s0 u' (3, en, en)) ∧ W.grownBy w' none

def ShI (W : World) (en : Nat) (pre : List (Nat × P3)) (A : World) : Prop := (∀ x, x ∈ pre → x.2 ≠ (3, en, en)) ∧ A.heap[W.heap.size + 1]? = some (.cells #[.string ⟨#[]⟩] 9 (0, 0)) ∧ A.heap[W.heap.size + 2]? = some (.cells #[.bool false] 4 (0, 0)) ∧ A.heap[W.heap.size + 3]? = some (.cells #[.int .i64 3, .int .i64 (en : Int), .int .i64 (en : Int)] 211 (0, 0)) ∧ W.grownBy A none
def ShX (W : World) (F : List MSt) (gate beh : Nat) (s0 : P3) (en : Nat) (_ : List (Nat × P3)) (A : World) : Prop := ∃ u, (Way F gate beh s0 u (3, en, en) ∧ u.length ≤ 100000000) ∧ A.heap[W.heap.size + 1]? = some (.cells #[.string (txt u)] 9 (0, 0)) ∧ A.heap[W.heap.size + 2]? = some (.cells #[.bool true] 4 (0, 0)) ∧ W.grownBy A none
def fpSh (W : World) (_ : World) (k : Nat) : Prop := k = W.heap.size + 1 ∨ k = W.heap.size + 2

theorem six_at (W : World) (o1 o2 o3 o4 o5 o6 : Obj) : ∃ w6, ((((((W.alloc o1).alloc o2).alloc o3).alloc o4).alloc o5).alloc o6).drew = w6 ∧ w6.heap.size = W.heap.size + 6 ∧ w6.heap[W.heap.size + 1]? = some o2 ∧ w6.heap[W.heap.size + 2]? = some o3 ∧ w6.heap[W.heap.size + 3]? = some o4 ∧ w6.heap[W.heap.size + 4]? = some o5 ∧ w6.heap[W.heap.size + 5]? = some o6 ∧ W.grownBy w6 none := by
  obtain ⟨w4, h4, s4, a4, b4, c4, d4, g4⟩ := four_at W o1 o2 o3 o4
  obtain ⟨w6, h6, s6, a6, b6, g6⟩ := two_at w4 o5 o6
  refine ⟨w6.drew, by rw [h4, h6], ?_, ?_, ?_, ?_, ?_, ?_, (g4.trans g6).trans (grown_drew' _ _)⟩
  · show w6.heap.size = _
    omega
  · show w6.heap[W.heap.size + 1]? = _
    exact (g6.block _ (by omega) (by simp)).trans b4
  · show w6.heap[W.heap.size + 2]? = _
    exact (g6.block _ (by omega) (by simp)).trans c4
  · show w6.heap[W.heap.size + 3]? = _
    exact (g6.block _ (by omega) (by simp)).trans d4
  · show w6.heap[W.heap.size + 4]? = _
    rw [← s4]
    exact a6
  · show w6.heap[W.heap.size + 5]? = _
    rw [show W.heap.size + 5 = w4.heap.size + 1 by omega]
    exact b6

theorem fz_grown {W A A' : World} {N : Nat} {fp : World → Nat → Prop} (h : W.grownBy A none) (hN : W.heap.size ≤ N) (hz : Fz N fp A A') : W.grownBy A' none :=
  ⟨hz.os.trans h.os, hz.tape.trans h.tape, hz.output.trans h.output, Nat.le_trans h.size hz.size, fun k hk hn => (hz.block k (Nat.lt_of_lt_of_le hk h.size) (.inl (by omega))).trans (h.block k hk hn)⟩

set_option maxRecDepth 100000 in
set_option maxHeartbeats 6400000 in
theorem sshortest {wm W : World} {Br mb sb gate beh : Nat} {F : List MSt} {st en : Nat} {s0 : P3} (hM : MH wm (fun k => k = Br) mb F st en) (hcl : Cl F F.length) (hfl : ∀ x, freeLen F x ≤ 1000) (hS : F.length ≤ 4000) (hbeh : beh < F.length) (hr0 : Rng F.length s0) (hB : Kp (fun k => k ≠ Br) wm W)
    (hsb : W.heap[sb]? = some (seblk mb gate beh)) (hT : Tab W) :
    Calls Tryz.prog 157 #[.pointer (some ⟨sb, 0, none⟩), pval s0] W fun e w' => ShPost W F gate beh s0 en e w' := by
  obtain ⟨ao, cp, m0, m2, _⟩ := hM.row hB
  have s0c : W.cell? ⟨sb, 0, none⟩ = some (.pointer (some ⟨mb, 0, none⟩)) := by rw [cellOf hsb 0]; rfl
  unfold pval
  refine (callsIn_wide (n := 3)).1 ?_
  refine callsIn_of_wp_marks Tryz.func157 rfl trivial ?_ rfl
  simp only [Tryz.ntmps157, List.size_toArray, List.length_cons, List.length_nil, Nat.reduceAdd, Nat.reduceSub, Array.replicate_succ, Array.replicate_zero, List.push_toArray, List.append_toArray, List.nil_append, List.cons_append]
  have hsl := heap_lt hsb
  have hml : mb < W.heap.size := by have := hM.lt; have := hB.size; omega
  have c3 : ∀ o1 o2 o3, (((W.alloc o1).alloc o2).alloc o3).cell? ⟨sb, 0, none⟩ = some (.pointer (some ⟨mb, 0, none⟩)) := fun o1 o2 o3 => by rw [World.cell?_alloc_past _ _ _ (by simp; omega), World.cell?_alloc_past _ _ _ (by simp; omega), World.cell?_alloc_past _ _ _ hsl]; exact s0c
  have d3 : ∀ o1 o2 o3, (((W.alloc o1).alloc o2).alloc o3).cell? ⟨mb, 2, none⟩ = some (.int .i64 (en : Int)) := fun o1 o2 o3 => by rw [World.cell?_alloc_past _ _ _ (by simp; omega), World.cell?_alloc_past _ _ _ (by simp; omega), World.cell?_alloc_past _ _ _ hml]; exact m2
  have c4 : ∀ o1 o2 o3 o4, ((((W.alloc o1).alloc o2).alloc o3).alloc o4).cell? ⟨sb, 0, none⟩ = some (.pointer (some ⟨mb, 0, none⟩)) := fun o1 o2 o3 o4 => by rw [World.cell?_alloc_past _ _ _ (by simp; omega)]; exact c3 _ _ _
  have d4 : ∀ o1 o2 o3 o4, ((((W.alloc o1).alloc o2).alloc o3).alloc o4).cell? ⟨mb, 2, none⟩ = some (.int .i64 (en : Int)) := fun o1 o2 o3 o4 => by rw [World.cell?_alloc_past _ _ _ (by simp; omega)]; exact d3 _ _ _
  gi_wp2_with fail
  refine wpIn_mono (Q := NoPanic (fun e a' w' => e = .normal ∧ a' = ⟨#[Value.pointer (some { block := sb, off := 0 }), Value.agg #[Value.int IntKind.i64 ↑s0.fst, Value.int IntKind.i64 ↑s0.snd.fst, Value.int IntKind.i64 ↑s0.snd.snd], undef, Value.pointer (some { block := W.heap.size, off := 0 }), Value.pointer (some { block := W.heap.size + 1, off := 0 }), Value.pointer (some { block := W.heap.size + 1 + 1, off := 0 }), Value.pointer (some { block := W.heap.size + 1 + 1 + 1, off := 0 }), undef, Value.pointer (some { block := sb, off := 0 }), Value.pointer (some { block := sb, off := 0 }), Value.pointer (some { block := sb, off := 0 }), Value.pointer (some { block := mb, off := 0 }), Value.pointer (some { block := mb, off := 0 }), Value.pointer (some { block := mb, off := 2 }), Value.int IntKind.i64 ↑en, Value.pointer (some { block := sb, off := 0 }), Value.pointer (some { block := sb, off := 0 }), Value.pointer (some { block := sb, off := 0 }), Value.pointer (some { block := mb, off := 0 }), Value.pointer (some { block := mb, off := 0 }), Value.pointer (some { block := mb, off := 2 }), Value.int IntKind.i64 ↑en, Value.agg #[Value.int IntKind.i64 3, Value.int IntKind.i64 ↑en, Value.int IntKind.i64 ↑en], undef, undef, undef, undef, undef, undef, undef, undef, undef, undef, undef, undef], []⟩ ∧ w' = ((((W.alloc (.cells #[.int .i64 (s0.1 : Int), .int .i64 (s0.2.1 : Int), .int .i64 (s0.2.2 : Int)] 211)).alloc (.cells #[.string ⟨#[]⟩] 9)).alloc (.cells #[.bool false] 4)).alloc (.cells #[.int .i64 3, .int .i64 (en : Int), .int .i64 (en : Int)] 211)).drew)) ?_ ?_
  · gi_region_with fail
    all_goals exact ⟨rfl, rfl, rfl⟩
  rintro e a' w' hq
  cases e with
  | normal =>
    obtain ⟨_, rfl, rfl⟩ := hq
    clear c3 d3 c4 d4 s0c m0 m2
    gi_wp2_with fail
    refine ⟨trivial, (svisits 2 sb s0 _).mono ?_⟩
    rintro e w' ⟨rfl, rfl⟩
    gi_wp2_with fail
    obtain ⟨w6, hw6, hs6, r1, r2, r3, r4, r5, hg6⟩ := six_at W (.cells #[.int .i64 (s0.1 : Int), .int .i64 (s0.2.1 : Int), .int .i64 (s0.2.2 : Int)] 211) (.cells #[.string ⟨#[]⟩] 9) (.cells #[.bool false] 4) (.cells #[.int .i64 3, .int .i64 (en : Int), .int .i64 (en : Int)] 211) (.cells #[.pointer (some ⟨sb, 0, none⟩)] 204) (.cells (pcells s0) 211)
    rw [hw6]
    simp only [Nat.add_assoc, Nat.reduceAdd]
    have hB6 : Kp (fun k => k ≠ Br) wm w6 := hB.trans (Kp.of_grown hg6 (fun _ e => by cases e))
    have hsb6 := (hg6.block sb hsl (by simp)).trans hsb
    have hT6 : Tab w6 := fun j hj => by rw [World.cell?_of_block (a := ⟨1, j, none⟩) (hg6.block _ hT.lt (by simp))]; exact hT j hj
    have htl := hT.lt
    have hsz := hB.size
    clear hw6
    refine wpIn_rangeW (α := Nat × P3) rfl (by decide) (gf := 183) (lb := #[.pointer (some ⟨W.heap.size + 5, 0, none⟩), .pointer (some ⟨W.heap.size + 4, 0, none⟩)]) rfl trivial (enters_of Tryz.func183 (by kernel_rfl) rfl)
      (visits_seq (fp := fpSh W) (s0 := s0) hM hcl hfl hS hbeh hr0 hB6 hsb6 r4 r5 hT6 (fun A k h => by rcases h with h | h <;> (subst h; exact ⟨by omega, .inl (by omega), by omega, by omega, by omega, by omega⟩))) (fun _ => rfl)
      (fun pre x A A' ⟨N, u, hv, hl⟩ hk => ⟨N, u, hv.kv (fun k pr fr c _ h => hk k _ _ _ h), hl⟩)
      (ShI W en) (ShX W F gate beh s0 en)
      (fun pre A A' h hz => ⟨⟨h.1, (hz.block _ (heap_lt h.2.1) (.inr (.inl rfl))).trans h.2.1, (hz.block _ (heap_lt h.2.2.1) (.inr (.inr rfl))).trans h.2.2.1, (hz.block _ (heap_lt h.2.2.2.1) (.inl (by omega))).trans h.2.2.2.1, fz_grown h.2.2.2.2 (by omega) hz⟩, fun _ => Iff.rfl⟩)
      (fun pre A A' h hb hs ho ht hu => ?sx)
      (fun pre A A' h hz => ?sy)
      (fun pre A k h hk => .inl (by rcases hk with hk | hk <;> omega)) (fun _ pre A h k hk => by rcases hk with hk | hk <;> subst hk <;> first | exact heap_lt h.2.1 | exact heap_lt h.2.2.1)
      ⟨fun x hx => (by cases hx), r1, r2, r3, hg6⟩
      ?a1 ?assign ?body ?done ?stop
    case sx =>
      obtain ⟨u, h1, h2, h3, h4⟩ := h
      exact ⟨u, h1, (hb _ (heap_lt h2) (.inl (by omega))).trans h2, (hb _ (heap_lt h3) (.inl (by omega))).trans h3, ⟨ho.trans h4.os, ht.trans h4.tape, hu.trans h4.output, by have := h4.size; omega, fun k hk hn => (hb k (Nat.lt_of_lt_of_le hk h4.size) (.inl (by omega))).trans (h4.block k hk hn)⟩⟩
    case sy =>
      obtain ⟨u, h1, h2, h3, h4⟩ := h
      exact ⟨u, h1, (hz.block _ (heap_lt h2) (.inr (.inl rfl))).trans h2, (hz.block _ (heap_lt h3) (.inr (.inr rfl))).trans h3, fz_grown h4 (by omega) hz⟩
    case assign =>
      intro l' x W K hK
      simp only [encV]
      gi_wp2
      exact hK
    case body =>
      rintro l' pre ⟨g, ph, a, b⟩ Wr ⟨hp1, hp2, hp3, hp4, hp5⟩ ⟨N, u, hv, hu⟩ hWs
      obtain ⟨fr, c, hbk⟩ := hv.blk
      have e0 : Wr.cell? ⟨g, 0, none⟩ = some (.int .i64 (ph : Int)) := by rw [cellOf hbk 0]; rfl
      have e1 : Wr.cell? ⟨g, 1, none⟩ = some (.int .i64 (a : Int)) := by rw [cellOf hbk 1]; rfl
      have e2 : Wr.cell? ⟨g, 2, none⟩ = some (.int .i64 (b : Int)) := by rw [cellOf hbk 2]; rfl
      have g0 : Wr.cell? ⟨W.heap.size + 3, 0, none⟩ = some (.int .i64 3) := by rw [cellOf hp4 0]; rfl
      have g1 : Wr.cell? ⟨W.heap.size + 3, 1, none⟩ = some (.int .i64 (en : Int)) := by rw [cellOf hp4 1]; rfl
      have g2 : Wr.cell? ⟨W.heap.size + 3, 2, none⟩ = some (.int .i64 (en : Int)) := by rw [cellOf hp4 2]; rfl
      have HP := hide (And.intro hp1 (And.intro hp2 (And.intro hp3 (And.intro hp4 (And.intro hp5 (And.intro hv hu))))))
      clear hp1 hp2 hp3 hp4 hp5 hv hu hbk
      have hq0 : ∀ w', Wr.grownBy w' none → w'.cell? ⟨g, 0, none⟩ = some (.int .i64 (ph : Int)) := fun w' hg => hg.cell e0 (by simp)
      have hq1 : ∀ w', Wr.grownBy w' none → w'.cell? ⟨g, 1, none⟩ = some (.int .i64 (a : Int)) := fun w' hg => hg.cell e1 (by simp)
      have hq2 : ∀ w', Wr.grownBy w' none → w'.cell? ⟨g, 2, none⟩ = some (.int .i64 (b : Int)) := fun w' hg => hg.cell e2 (by simp)
      have hg0 : ∀ w', Wr.grownBy w' none → w'.cell? ⟨W.heap.size + 3, 0, none⟩ = some (.int .i64 3) := fun w' hg => hg.cell g0 (by simp)
      have hg1 : ∀ w', Wr.grownBy w' none → w'.cell? ⟨W.heap.size + 3, 1, none⟩ = some (.int .i64 (en : Int)) := fun w' hg => hg.cell g1 (by simp)
      have hg2 : ∀ w', Wr.grownBy w' none → w'.cell? ⟨W.heap.size + 3, 2, none⟩ = some (.int .i64 (en : Int)) := fun w' hg => hg.cell g2 (by simp)
      clear e0 e1 e2 g0 g1 g2
      gi_wp2_with fail
      refine wpIn_region_quiet_rlit (F := Fence.wide) (C := fun w' => Wr.grownBy w' none) rfl (by kernel_rfl) (by kernel_rfl) (by kernel_rfl) (grown_drew' Wr none) ?_
      repeat (refine wpQuietIn_step (fun _ _ _ _ => trivial) (fun K hK => ?_); go_simp; first | (refine hK _ ?_; clear hK K) | (refine ⟨_, fun _ _ => rfl, hK _ ?_⟩; clear hK K))
      refine wpQuietIn_step (fun _ _ _ _ => trivial) (fun K hK => ?_)
      go_simp
      refine ⟨.agg #[.int .i64 (ph : Int), .int .i64 (a : Int), .int .i64 (b : Int)], fun w' hw' => (by simp [hq0 w' hw', hq1 w' hw', hq2 w' hw', Result.andThen]), hK _ ?_⟩
      clear hK K
      refine wpQuietIn_step (fun _ _ _ _ => trivial) (fun K hK => ?_)
      go_simp
      refine ⟨.agg #[.int .i64 3, .int .i64 (en : Int), .int .i64 (en : Int)], fun w' hw' => (by simp [hg0 w' hw', hg1 w' hw', hg2 w' hw', Result.andThen]), hK _ ?_⟩
      clear hK K
      refine wpQuietIn_step (fun _ _ _ _ => trivial) (fun K hK => ?_)
      go_simp
      have i1 : ((ph : Int) = 3) ↔ ph = 3 := by omega
      have i2 : ((a : Int) = (en : Int)) ↔ a = en := by omega
      have i3 : ((b : Int) = (en : Int)) ↔ b = en := by omega
      refine ⟨.bool (decide (ph = 3 ∧ a = en ∧ b = en)), fun w' hw' => ?_, hK _ ?_⟩
      · simp only [i1, i2, i3]
        by_cases h1 : ph = 3 <;> by_cases h2 : a = en <;> by_cases h3 : b = en <;> simp [h1, h2, h3]
      clear hK K i1 i2 i3
      have Hdec : Hid (decide (ph = 3 ∧ a = en ∧ b = en) = true ↔ (ph, a, b) = (3, en, en)) := hide (by simp)
      generalize decide (ph = 3 ∧ a = en ∧ b = en) = y at *
      refine wpQuietIn_nil ?_
      intro w1 hw1
      cases y with
      | false =>
        have Hw1 := hide hw1
        clear hw1
        gi_wp2_with fail
        obtain ⟨hp1, hp2, hp3, hp4, hp5, hv, hu⟩ := unhide HP
        have hw1 := unhide Hw1
        refine ⟨⟨hw1.os, hw1.tape, hw1.output, hw1.size, fun k hk _ => hw1.block k hk (by simp), fun k hk => .inl hk⟩, fun x hx => ?_, (hw1.block _ (heap_lt hp2) (by simp)).trans hp2, (hw1.block _ (heap_lt hp3) (by simp)).trans hp3, (hw1.block _ (heap_lt hp4) (by simp)).trans hp4, hp5.trans hw1⟩
        rcases List.mem_append.1 hx with hx | hx
        · exact hp1 x hx
        · rw [List.mem_singleton] at hx
          subst hx
          exact fun e => absurd ((unhide Hdec).2 e) (by simp)
      | true =>
        have HTx := hide (vtext (F := F) (gate := gate) (beh := beh) (s0 := s0) (N := N) (w := w1) ((unhide HP).2.2.2.2.2.1.kv (Kv.of_grown hw1)) (by have := (unhide HP).2.2.2.2.2.2; omega))
        have Hw1 := hide hw1
        clear hw1
        gi_wp2_with fail
        refine ⟨trivial, (CallsIn.inRound l' (callsIn_wide.2 (unhide HTx))).mono ?_⟩
        rintro e w2 ⟨rfl, hw2⟩
        obtain ⟨hp1, hp2, hp3, hp4, hp5, hv, hu⟩ := unhide HP
        have hw12 := (unhide Hw1).trans hw2
        have q2 := (hw12.block _ (heap_lt hp2) (by simp)).trans hp2
        have q3 := (hw12.block _ (heap_lt hp3) (by simp)).trans hp3
        have x2 := cellOf q2 0
        have x3 := cellOf q3 0
        have y2 := frozenOf q2 0
        have y3 := frozenOf q3 0
        simp at x2 x3
        have H2 := hide (And.intro hw12 (And.intro q2 q3))
        clear hp1 hp2 hp3 hp4 hp5 hv hu hw12 hw2 q2 q3
        gi_wp2_with fail
        obtain ⟨hp1, hp2, hp3, hp4, hp5, hv, hu⟩ := unhide HP
        obtain ⟨hw12, q2, q3⟩ := unhide H2
        have far : ∀ k, k ≠ W.heap.size + 1 → k ≠ W.heap.size + 2 → ((w2.setCell ⟨W.heap.size + 1, 0, none⟩ (.string (txt u))).setCell ⟨W.heap.size + 2, 0, none⟩ (.bool true)).heap[k]? = w2.heap[k]? := fun k h1 h2 => (Below.heap_setCell _ _ _ _ h2).trans (Below.heap_setCell _ _ _ _ h1)
        have hsz9 : ((w2.setCell ⟨W.heap.size + 1, 0, none⟩ (.string (txt u))).setCell ⟨W.heap.size + 2, 0, none⟩ (.bool true)).heap.size = w2.heap.size := by simp [World.setCell]
        have z1 : ((w2.setCell ⟨W.heap.size + 1, 0, none⟩ (.string (txt u))).setCell ⟨W.heap.size + 2, 0, none⟩ (.bool true)).heap[W.heap.size + 1]? = some (.cells #[.string (txt u)] 9 (0, 0)) := (Below.heap_setCell _ _ _ _ (show W.heap.size + 1 ≠ W.heap.size + 2 by omega)).trans (by simpa using heap_set q2 0 (.string (txt u)))
        have z2 : ((w2.setCell ⟨W.heap.size + 1, 0, none⟩ (.string (txt u))).setCell ⟨W.heap.size + 2, 0, none⟩ (.bool true)).heap[W.heap.size + 2]? = some (.cells #[.bool true] 4 (0, 0)) := by
          have q3' : (w2.setCell ⟨W.heap.size + 1, 0, none⟩ (.string (txt u))).heap[W.heap.size + 2]? = some (.cells #[.bool false] 4 (0, 0)) := (Below.heap_setCell _ _ _ _ (show W.heap.size + 2 ≠ W.heap.size + 1 by omega)).trans q3
          simpa using heap_set q3' 0 (.bool true)
        have hwy := hv.way
        rw [(unhide Hdec).1 (by first | rfl | trivial)] at hwy
        refine ⟨⟨hw12.os, hw12.tape, hw12.output, by rw [hsz9]; exact hw12.size, fun k hk hn => (far k (fun e => hn (.inl e)) (fun e => hn (.inr e))).trans (hw12.block k hk (by simp)), fun k hk => .inl hk⟩, u, ⟨hwy, hu⟩, z1, z2, ?_⟩
        have hpw := hp5.trans hw12
        exact ⟨hpw.os, hpw.tape, hpw.output, by rw [hsz9]; exact hpw.size, fun k hk hn => (far k (by omega) (by omega)).trans (hpw.block k hk hn)⟩
    case done =>
      rintro D xs W9 hD hS9 ⟨hp1, hp2, hp3, hp4, hp5⟩ hK
      have x2 := cellOf hp2 0
      have x3 := cellOf hp3 0
      have y2 := frozenOf hp2 0
      have y3 := frozenOf hp3 0
      simp at x2 x3
      have HP := hide (And.intro hp1 (And.intro hp2 (And.intro hp3 (And.intro hp5 (And.intro hS9 hK)))))
      clear hp1 hp2 hp3 hp4 hp5 hS9
      gi_wp2_with fail
      obtain ⟨hp1, hp2, hp3, hp5, hS9, hK⟩ := unhide HP
      have hD1 : D ≠ W.heap.size + 1 := by omega
      have hD2 : D ≠ W.heap.size + 2 := by omega
      refine ⟨by simp, .inl ⟨_, _, rfl, run_takeDeferred ((Below.heap_setCell _ _ _ _ hD2).trans ((Below.heap_setCell _ _ _ _ hD1).trans hK)), ?_⟩⟩
      have z1 : ((W9.setCell ⟨W.heap.size + 1, 0, none⟩ (.string ⟨#[]⟩)).setCell ⟨W.heap.size + 2, 0, none⟩ (.bool false)).heap[W.heap.size + 1]? = some (.cells #[.string ⟨#[]⟩] 9 (0, 0)) := (Below.heap_setCell _ _ _ _ (show W.heap.size + 1 ≠ W.heap.size + 2 by omega)).trans (by simpa using heap_set hp2 0 (.string ⟨#[]⟩))
      have z2 : ((W9.setCell ⟨W.heap.size + 1, 0, none⟩ (.string ⟨#[]⟩)).setCell ⟨W.heap.size + 2, 0, none⟩ (.bool false)).heap[W.heap.size + 2]? = some (.cells #[.bool false] 4 (0, 0)) := by
        have q3' : (W9.setCell ⟨W.heap.size + 1, 0, none⟩ (.string ⟨#[]⟩)).heap[W.heap.size + 2]? = some (.cells #[.bool false] 4 (0, 0)) := (Below.heap_setCell _ _ _ _ (show W.heap.size + 2 ≠ W.heap.size + 1 by omega)).trans hp3
        simpa using heap_set q3' 0 (.bool false)
      have far : ∀ k, k ≠ W.heap.size + 1 → k ≠ W.heap.size + 2 → ((W9.setCell ⟨W.heap.size + 1, 0, none⟩ (.string ⟨#[]⟩)).setCell ⟨W.heap.size + 2, 0, none⟩ (.bool false)).heap[k]? = W9.heap[k]? := fun k h1 h2 => (Below.heap_setCell _ _ _ _ h2).trans (Below.heap_setCell _ _ _ _ h1)
      have hsz9 : ((W9.setCell ⟨W.heap.size + 1, 0, none⟩ (.string ⟨#[]⟩)).setCell ⟨W.heap.size + 2, 0, none⟩ (.bool false)).heap.size = W9.heap.size := by simp [World.setCell]
      have ho : ((W9.setCell ⟨W.heap.size + 1, 0, none⟩ (.string ⟨#[]⟩)).setCell ⟨W.heap.size + 2, 0, none⟩ (.bool false)).os = W9.os := rfl
      have ht : ((W9.setCell ⟨W.heap.size + 1, 0, none⟩ (.string ⟨#[]⟩)).setCell ⟨W.heap.size + 2, 0, none⟩ (.bool false)).tape = W9.tape := rfl
      have hu : ((W9.setCell ⟨W.heap.size + 1, 0, none⟩ (.string ⟨#[]⟩)).setCell ⟨W.heap.size + 2, 0, none⟩ (.bool false)).output = W9.output := rfl
      generalize ((W9.setCell ⟨W.heap.size + 1, 0, none⟩ (.string ⟨#[]⟩)).setCell ⟨W.heap.size + 2, 0, none⟩ (.bool false)) = W10 at *
      have hq1 := (World.putObj_heap_other (w := W10) (r := D) (o := .deferred none) (k := W.heap.size + 1) (by omega)).trans z1
      have hq2 := (World.putObj_heap_other (w := W10) (r := D) (o := .deferred none) (k := W.heap.size + 2) (by omega)).trans z2
      have c1 := cellOf hq1 0
      have c2 := cellOf hq2 0
      simp at c1 c2
      refine ⟨.tuple #[.string ⟨#[]⟩, .bool false], ?_, ?_⟩
      · simp [results, Tryz.f157, go_sem, c1, c2]
      · refine ⟨[], false, rfl, fun h => (by cases h), fun _ => ⟨rfl, fun u' hw => ?_⟩, ⟨ho.trans hp5.os, ht.trans hp5.tape, hu.trans hp5.output, by simp [World.putObj, hsz9]; exact hp5.size, fun k hk hn => (World.putObj_heap_other (by have := hp5.size; omega)).trans ((far k (by omega) (by omega)).trans (hp5.block k hk hn))⟩⟩
        obtain ⟨x, hx, he⟩ := List.mem_map.1 (hS9 u' _ hw)
        exact hp1 x hx he
    case stop =>
      rintro D pre W9 hD hS9 ⟨u, hw, hp2, hp3, hp5⟩ hK
      have HP := hide (And.intro hw (And.intro hp2 (And.intro hp3 hp5)))
      clear hw hp2 hp3 hp5 hS9
      gi_wp2_with fail
      refine ⟨by simp, .inl ⟨_, _, rfl, run_takeDeferred hK, ?_⟩⟩
      obtain ⟨hw, hp2, hp3, hp5⟩ := unhide HP
      have hq1 := (World.putObj_heap_other (w := W9) (r := D) (o := .deferred none) (k := W.heap.size + 1) (by omega)).trans hp2
      have hq2 := (World.putObj_heap_other (w := W9) (r := D) (o := .deferred none) (k := W.heap.size + 2) (by omega)).trans hp3
      have c1 := cellOf hq1 0
      have c2 := cellOf hq2 0
      simp at c1 c2
      refine ⟨.tuple #[.string (txt u), .bool true], ?_, ?_⟩
      · simp [results, Tryz.f157, go_sem, c1, c2]
      · exact ⟨u, true, rfl, fun _ => hw, fun h => (by cases h), ⟨hp5.os, hp5.tape, hp5.output, by simp [World.putObj]; exact hp5.size, fun k hk hn => (World.putObj_heap_other (by have := hp5.size; omega)).trans (hp5.block k hk hn)⟩⟩
  | panic => exact hq.elim
  | ret => cases hq.1
  | exit => cases hq.1
  | goto => cases hq.1
  | outgrown => cases hq.1

end Go.Proofs.YtlljggefbngkeaaGreatDoor

namespace Go.Proofs.YtlljggefbngkeaaGreatDoor
open Go.RowKit

/-- a machine and its search -/
structure SE (w0 w : World) (mb sb gate beh : Nat) (S : List MSt) (st en : Nat) : Prop where
  m : MH w (fun k => k < w0.heap.size ∨ k = sb) mb S st en
  s : w.heap[sb]? = some (seblk mb gate beh)
  lo : w0.heap.size ≤ sb
  gr : w0.grownBy w none

def NewPost (w : World) (e : Ending) (w' : World) : Prop := ∃ mb sb, e = .returned (.pointer (some ⟨sb, 0, none⟩)) ∧ SE w w' mb sb 0 0 [⟨[], 0, []⟩] 0 0

theorem SE.of_kp {w0 w w' : World} {mb sb gate beh : Nat} {S S' : List MSt} {st en st' en' : Nat} (h : SE w0 w mb sb gate beh S st en) (hm : MH w' (fun k => k < w0.heap.size ∨ k = sb) mb S' st' en') (hk : Kp (fun k => k < w0.heap.size ∨ k = sb) w w') : SE w0 w' mb sb gate beh S' st' en' where
  m := hm
  s := (hk.block sb (heap_lt h.s) (.inr rfl)).trans h.s
  lo := h.lo
  gr := ⟨hk.os.trans h.gr.os, hk.tape.trans h.gr.tape, hk.output.trans h.gr.output, Nat.le_trans h.gr.size hk.size, fun k hl hn => (hk.block k (Nat.lt_of_lt_of_le hl h.gr.size) (.inl hl)).trans (h.gr.block k hl hn)⟩

theorem SE.lt {w0 w : World} {mb sb gate beh : Nat} {S : List MSt} {st en : Nat} (h : SE w0 w mb sb gate beh S st en) : ∀ k, k < w0.heap.size ∨ k = sb → k < w.heap.size := fun k hk => by
  rcases hk with hk | hk
  · exact Nat.lt_of_lt_of_le hk h.gr.size
  · subst hk; exact heap_lt h.s

theorem SE.below {w0 w : World} {mb sb gate beh : Nat} {S : List MSt} {st en : Nat} (h : SE w0 w mb sb gate beh S st en) : Below w0.heap.size w0 w := ⟨h.gr.os, h.gr.tape, h.gr.output, h.gr.size, fun k hk => h.gr.block k hk (by simp)⟩

theorem SE.setG {w0 w : World} {mb sb gate beh : Nat} {S : List MSt} {st en : Nat} (h : SE w0 w mb sb gate beh S st en) (i x gate' beh' : Nat) (hi : (i = 1 ∧ gate' = x ∧ beh' = beh) ∨ (i = 2 ∧ gate' = gate ∧ beh' = x)) : SE w0 (w.setCell ⟨sb, i, none⟩ (.int .i64 (x : Int))) mb sb gate' beh' S st en where
  m := h.m.grown (grown_set w sb i _) (fun k e => by injection e with e; exact .inr e.symm)
  s := by
    have := heap_set h.s i (.int .i64 (x : Int))
    rcases hi with ⟨rfl, rfl, rfl⟩ | ⟨rfl, rfl, rfl⟩ <;> simpa [seblk] using this
  lo := h.lo
  gr := by
    have hg := grown_set w sb i (.int .i64 (x : Int))
    exact ⟨hg.os.trans h.gr.os, hg.tape.trans h.gr.tape, hg.output.trans h.gr.output, Nat.le_trans h.gr.size hg.size, fun k hk hn => (hg.block k (Nat.lt_of_lt_of_le hk h.gr.size) (fun e => by injection e with e; have := h.lo; omega)).trans (h.gr.block k hk hn)⟩

theorem SE.cells {w0 w : World} {mb sb gate beh : Nat} {S : List MSt} {st en : Nat} (h : SE w0 w mb sb gate beh S st en) : w.cell? ⟨sb, 0, none⟩ = some (.pointer (some ⟨mb, 0, none⟩)) ∧ w.cell? ⟨sb, 1, none⟩ = some (.int .i64 (gate : Int)) ∧ w.cell? ⟨sb, 2, none⟩ = some (.int .i64 (beh : Int)) ∧ w.cell? ⟨mb, 2, none⟩ = some (.int .i64 (en : Int)) ∧ (∀ o, w.frozen? ⟨sb, o, none⟩ = false) :=
  ⟨by rw [cellOf h.s 0]; rfl, by rw [cellOf h.s 1]; rfl, by rw [cellOf h.s 2]; rfl, h.m.c.2.1, fun o => frozenOf h.s o⟩

theorem SE.setE {w0 w : World} {mb sb gate beh : Nat} {S : List MSt} {st en : Nat} (h : SE w0 w mb sb gate beh S st en) (x : Nat) : SE w0 (w.setCell ⟨mb, 2, none⟩ (.int .i64 (x : Int))) mb sb gate beh S st x where
  m := h.m.setSE x st x (.inr ⟨rfl, rfl, rfl⟩)
  s := (Below.heap_setCell _ _ _ _ (fun e => h.m.nb (.inr e.symm))).trans h.s
  lo := h.lo
  gr := by
    have hg := grown_set w mb 2 (.int .i64 (x : Int))
    exact ⟨hg.os.trans h.gr.os, hg.tape.trans h.gr.tape, hg.output.trans h.gr.output, Nat.le_trans h.gr.size hg.size, fun k hk hn => (hg.block k (Nat.lt_of_lt_of_le hk h.gr.size) (fun e => by injection e with e; exact h.m.nb (.inl (by rw [← e]; exact hk)))).trans (h.gr.block k hk hn)⟩

set_option maxRecDepth 100000 in
set_option maxHeartbeats 1600000 in
theorem snew (w : World) : Calls Tryz.prog 156 #[] w fun e w' => NewPost w e w' := by
  have hM0 : MH ((w.alloc (mblk (.slice none 0 0) 0 0)).alloc (seblk w.heap.size 0 0)) (fun k => k < w.heap.size ∨ k = w.heap.size + 1) w.heap.size [] 0 0 := by
    refine ⟨.slice none 0 0, [], ?_⟩
    exact {
      blk := heap_alloc_old _ (heap_alloc_new w _)
      own := World.ownsRow_nil _ _ _ _
      free := fun j q hq => by simp at hq
      nb := fun h => by rcases h with h | h <;> omega
      np := fun k hk => by cases hk }
  have hE0 : SE w ((w.alloc (mblk (.slice none 0 0) 0 0)).alloc (seblk w.heap.size 0 0)) w.heap.size (w.heap.size + 1) 0 0 [] 0 0 := ⟨hM0, alloc2_at w _ _, by omega, (World.grownBy_alloc w _ none).trans (World.grownBy_alloc _ _ none)⟩
  have HA := hide (MAdd ⟨[], 0, []⟩ 0 (.slice none 0 0) setRep_nil hM0.drew (by simp) (World.ownsRow_nil _ _ _ _) (fun k hk => by cases hk) (fun k hk => by simp; rcases hk with hk | hk <;> omega))
  have HE := hide hE0
  obtain ⟨c0, _, _, c2, cf⟩ := hE0.cells
  clear hM0 hE0
  go_enter Tryz.func156, Tryz.ntmps156
  go_wp2_with fail
  have c0' : ((w.alloc (mblk (.slice none 0 0) 0 0)).alloc (seblk w.heap.size 0 0)).cell? ⟨w.heap.size + 1, 0, none⟩ = some (.pointer (some ⟨w.heap.size, 0, none⟩)) := c0
  go_region_held3 (fun w' => w'.cell? ⟨w.heap.size + 1, 0, none⟩ = some (.pointer (some ⟨w.heap.size, 0, none⟩))) (go_keep) (first
    | (go_at_call 140; refine (unhide HA).mono ?_; rintro e w1 ⟨rfl, hM1, hK1⟩; have hE1 := SE.of_kp (unhide HE) hM1 ((Kp.drew _ _).trans hK1); have d0 := hE1.cells.1; have d2 := hE1.m.c.2.1; have df := hE1.m.c.2.2 2; have H1 := hide hE1; clear hM1 hK1 hE1))
  go_wp2
  go_ret
  exact ⟨w.heap.size, w.heap.size + 1, rfl, (unhide H1).setE 0⟩

theorem Fl.len {S : List MSt} (h : Fl S) : ∀ x, freeLen S x ≤ 1000 := freeLen_of h

theorem tw_good {ta tb : PT} (hsa : stSize ta ≤ 1000) (hsb : stSize tb ≤ 1000) {F : List MSt} {gate beh start : Nat} (h : twM ta tb = (F, gate, beh, start)) : Cl F F.length ∧ (∀ x, freeLen F x ≤ 1000) ∧ F.length ≤ 4000 ∧ beh < F.length ∧ start < F.length := by
  unfold twM at h
  simp only at h
  generalize hb : mLay tb [⟨[], 0, []⟩] 0 = q at h
  generalize ha : mLay ta (q.1 ++ [⟨[], 0, []⟩]) q.1.length = r at h
  have e1 : r.1 = F := congrArg (·.1) h
  have e2 : q.2 = beh := congrArg (·.2.2.1) h
  have e3 : r.2 = start := congrArg (·.2.2.2) h
  have l1 := mLay_len tb [⟨[], 0, []⟩] 0
  have l2 := mLay_len ta (q.1 ++ [⟨[], 0, []⟩]) q.1.length
  have x1 := mLay_ext tb [⟨[], 0, []⟩] 0
  have x2 := mLay_ext ta (q.1 ++ [⟨[], 0, []⟩]) q.1.length
  rw [hb] at l1 x1
  rw [ha] at l2 x2
  have y1 := x1.1
  have y2 := x2.1
  simp at l1 l2 y1 y2
  have z0 : Cl [⟨[], 0, []⟩] r.1.length := fun j p hp => by
    cases j with
    | succ j => simp at hp
    | zero =>
      simp at hp
      subst hp
      exact ⟨by show 0 < r.1.length; omega, fun x hx => (by cases hx)⟩
  have c1 := mLay_cl tb [⟨[], 0, []⟩] 0 r.1.length z0 (by omega) (by rw [hb]; omega)
  rw [hb] at c1
  have c2 := mLay_cl ta (q.1 ++ [⟨[], 0, []⟩]) q.1.length r.1.length (c1.1.app (by show 0 < r.1.length; omega) (fun x hx => (by cases hx))) (by omega) (by rw [ha]; exact Nat.le_refl _)
  rw [ha] at c2
  have f1 := mLay_fl tb [⟨[], 0, []⟩] 0 (fun q hq => by rw [List.mem_singleton] at hq; subst hq; simp) hsb
  rw [hb] at f1
  have f2 := mLay_fl ta (q.1 ++ [⟨[], 0, []⟩]) q.1.length (f1.app (by simp)) hsa
  rw [ha] at f2
  subst e1 e2 e3
  exact ⟨c2.1, f2.len, by omega, c1.2, c2.2⟩

/-- what PartedTwice answers -/
def PTPost (W : World) (ta tb : PT) (e : Ending) (w' : World) : Prop :=
  ∃ (u : List UInt8) (f : Bool), e = .returned (.tuple #[.string (txt u), .bool f]) ∧ (f = true → Twice ta tb u ∧ u.length ≤ 100000000) ∧ (f = false → u = [] ∧ ∀ s, ¬ Twice ta tb s) ∧ W.grownBy w' none

set_option maxRecDepth 100000 in
set_option maxHeartbeats 3200000 in
theorem parted {W : World} {Y : Nat → Prop} {ta tb : PT} {pa pb : Nat} (hTa : TR W Y ta pa) (hTb : TR W Y tb pb) (oka : okRep ta) (okb : okRep tb) (hsa : stSize ta ≤ 1000) (hsb : stSize tb ≤ 1000) (hT : Tab W) :
    Calls Tryz.prog 137 #[.pointer (some ⟨pa, 0, none⟩), .pointer (some ⟨pb, 0, none⟩)] W fun e w' => PTPost W ta tb e w' := by
  have hTa0 : TR W (fun _ => False) ta pa := TR.reY (fun _ _ h => h.elim) hTa
  have hTb0 : TR W (fun _ => False) tb pb := TR.reY (fun _ _ h => h.elim) hTb
  have HN := hide (snew W)
  have HA := hide (And.intro hTa0 (And.intro hTb0 (And.intro oka (And.intro okb hT))))
  clear hTa hTb hTa0 hTb0 oka okb hT
  go_enter Tryz.func137, Tryz.ntmps137
  go_wp2_with fail
  refine (unhide HN).mono ?_
  rintro e w1 ⟨mb, sb, rfl, hE1⟩
  obtain ⟨c0, c1, c2, c3, cf⟩ := hE1.cells
  have cf2 := cf 2
  have HL := hide (mlay (w0 := W) (b := mb) tb (unhide HA).2.2.2.1 w1.drew (fun k => k < W.heap.size ∨ k = sb) [⟨[], 0, []⟩] 0 0 0 pb (unhide HA).2.1 (fun k hk => .inl hk) hE1.below.drew hE1.lt hE1.m.drew (by simp; omega))
  have H1 := hide hE1
  clear hE1 cf
  go_wp2_with fail
  go_region_held3 (fun w' => w'.cell? ⟨sb, 0, none⟩ = some (.pointer (some ⟨mb, 0, none⟩)) ∧ w'.cell? ⟨mb, 2, none⟩ = some (.int .i64 ((0 : Nat) : Int))) (go_keep) (first
    | (go_at_call 141; refine (unhide HL).mono ?_; rintro e w2 ⟨rfl, hM2, hK2⟩; have hE2 := SE.of_kp (unhide H1) hM2 ((Kp.drew _ _).trans hK2); have d0 := hE2.cells.1; have d2 := hE2.cells.2.2.1; have d3 := hE2.cells.2.2.2.1; have df := hE2.cells.2.2.2.2 2; have hE3 := hE2.setG 2 (mLay tb [⟨[], 0, []⟩] 0).2 0 (mLay tb [⟨[], 0, []⟩] 0).2 (.inr ⟨rfl, rfl, rfl⟩); have t0 := hE3.cells.1; have t3 := hE3.cells.2.2.2.1; have H3 := hide hE3; clear hM2 hK2 hE2 hE3))
  have hl1 := mLay_len tb [⟨[], 0, []⟩] 0
  simp only [List.length_cons, List.length_nil] at hl1
  have hE3 := unhide H3
  generalize hq : mLay tb [⟨[], 0, []⟩] 0 = qb at *
  have Hq := hide hq
  obtain ⟨S1, beh⟩ := qb
  simp only at hE3 hl1 ⊢
  clear hq H3 t0 t3 d0 d2 d3 df HL H1 c0 c1 c2 c3 cf2
  generalize w2.setCell ⟨sb, 2, none⟩ (.int .i64 (beh : Int)) = w3 at *
  obtain ⟨c0, c1, c2, c3, cf⟩ := hE3.cells
  have cf1 := cf 1
  have HL := hide (MAdd ⟨[], 0, []⟩ 0 (.slice none 0 0) setRep_nil hE3.m (by omega) (World.ownsRow_nil _ _ _ _) (fun k hk => by cases hk) hE3.lt)
  have H1 := hide hE3
  clear hE3 cf
  go_wp2_with fail
  refine (unhide HL).mono ?_
  rintro e w4 ⟨rfl, hM2, hK2⟩
  have hE2 := SE.of_kp (unhide H1) hM2 hK2
  have d0 := hE2.cells.1
  have d2 := hE2.cells.2.1
  have df := hE2.cells.2.2.2.2 1
  have hE3 := hE2.setG 1 S1.length S1.length beh (.inl ⟨rfl, rfl, rfl⟩)
  have t0 := hE3.cells.1
  have t1 := hE3.cells.2.1
  have HL := hide (fun w' (hd : ∃ n, w' = (w4.setCell ⟨sb, 1, none⟩ (.int .i64 (S1.length : Int))).drewN n) => mlay (w0 := W) (b := mb) ta (unhide HA).2.2.1 w' (fun k => k < W.heap.size ∨ k = sb) (S1 ++ [⟨[], 0, []⟩]) S1.length 0 0 pa (unhide HA).1 (fun k hk => .inl hk) (by obtain ⟨n, rfl⟩ := hd; exact ⟨hE3.below.os, hE3.below.tape, hE3.below.output, hE3.below.size, hE3.below.block⟩) (by obtain ⟨n, rfl⟩ := hd; exact hE3.lt) (by obtain ⟨n, rfl⟩ := hd; exact hE3.m.drewN n) (by simp; omega))
  have H3 := hide hE3
  clear hM2 hK2 hE2 hE3 H1 c0 c1 c2 c3 cf1
  go_wp2_with fail
  generalize hqa : mLay ta (S1 ++ [⟨[], 0, []⟩]) S1.length = qa at *
  have Hqa := hide hqa
  clear hqa
  obtain ⟨F, start⟩ := qa
  simp only at HL
  go_region_held3 (fun w' => w'.cell? ⟨sb, 0, none⟩ = some (.pointer (some ⟨mb, 0, none⟩)) ∧ w'.cell? ⟨sb, 1, none⟩ = some (.int .i64 (S1.length : Int))) (go_keep) (first
    | (go_at_call 141; refine (unhide HL _ ⟨1, rfl⟩).mono ?_; rintro e w6 ⟨rfl, hM6, hK6⟩; have hE6 := SE.of_kp (unhide H3) hM6 ((Kp.drewN _ _ 1).trans hK6); have u0 := hE6.cells.1; have u1 := hE6.cells.2.1; have H6 := hide hE6; clear hM6 hK6 hE6))
  have htw : twM ta tb = (F, S1.length, beh, start) := by
    unfold twM
    simp only [unhide Hq, unhide Hqa]
  have hE6 := unhide H6
  obtain ⟨hTa, hTb, oka, okb, hT⟩ := unhide HA
  obtain ⟨f1, f2, f3, f4, f5⟩ := tw_good hsa hsb htw
  have hT6 : Tab w6 := fun j hj => by rw [World.cell?_of_block (a := ⟨1, j, none⟩) (hE6.gr.block _ hT.lt (by simp))]; exact hT j hj
  have HS := hide (sshortest (wm := w6) (Br := w6.heap.size) (s0 := (0, start, start)) (hE6.m.reY (fun k hk e => by omega)) f1 f2 f3 f4 ⟨by show 0 < 4; decide, f5, f5⟩ (Kp.refl _ _) hE6.s hT6)
  have HR := hide (And.intro htw (And.intro hE6.gr (And.intro oka okb)))
  clear HL t0 t1 d0 d2 df hE6 hTa hTb oka okb hT f1 f2 f3 f4 f5 hT6 htw u0 u1
  unfold pval at HS
  go_wp2_with fail
  refine (unhide HS).mono ?_
  rintro e w7 ⟨u, f, rfl, h1, h2, hg7⟩
  have H7 := hide (And.intro h1 (And.intro h2 hg7))
  clear h1 h2 hg7 HS
  go_wp2
  go_ret2
  obtain ⟨htw, hg6, oka, okb⟩ := unhide HR
  obtain ⟨h1, h2, hg7⟩ := unhide H7
  have key : ∀ s, Way F S1.length beh (0, start, start) s (3, 0, 0) ↔ Twice ta tb s := fun s => by
    have := tw_spec oka okb s
    rw [htw] at this
    exact this
  exact ⟨u, f, rfl, fun hf => ⟨(key u).1 (h1 hf).1, (h1 hf).2⟩, fun hf => ⟨(h2 hf).1, fun s hs => (h2 hf).2 s ((key s).2 hs)⟩, hg6.trans hg7⟩

end Go.Proofs.YtlljggefbngkeaaGreatDoor

namespace Go.Proofs.YtlljggefbngkeaaGreatDoor
open Go.RowKit

theorem sh_good {tp tq : PT} (hsp : stSize tp ≤ 1000) (hsq : stSize tq ≤ 1000) {F : List MSt} {a b : Nat} (h : shM tp tq = (F, a, b)) : Cl F F.length ∧ (∀ x, freeLen F x ≤ 1000) ∧ F.length ≤ 4000 ∧ 0 < F.length ∧ a < F.length ∧ b < F.length := by
  unfold shM at h
  simp only at h
  generalize hb : mLay tp [⟨[], 0, []⟩] 0 = q at h
  generalize ha : mLay tq q.1 0 = r at h
  have e1 : r.1 = F := congrArg (·.1) h
  have e2 : q.2 = a := congrArg (·.2.1) h
  have e3 : r.2 = b := congrArg (·.2.2) h
  have l1 := mLay_len tp [⟨[], 0, []⟩] 0
  have l2 := mLay_len tq q.1 0
  have x1 := mLay_ext tp [⟨[], 0, []⟩] 0
  have x2 := mLay_ext tq q.1 0
  rw [hb] at l1 x1
  rw [ha] at l2 x2
  have y1 := x1.1
  have y2 := x2.1
  simp at l1 l2 y1 y2
  have z0 : Cl [⟨[], 0, []⟩] r.1.length := fun j p hp => by
    cases j with
    | succ j => simp at hp
    | zero =>
      simp at hp
      subst hp
      exact ⟨by show 0 < r.1.length; omega, fun x hx => (by cases hx)⟩
  have c1 := mLay_cl tp [⟨[], 0, []⟩] 0 r.1.length z0 (by omega) (by rw [hb]; omega)
  rw [hb] at c1
  have c2 := mLay_cl tq q.1 0 r.1.length c1.1 (by omega) (by rw [ha]; exact Nat.le_refl _)
  rw [ha] at c2
  have f1 := mLay_fl tp [⟨[], 0, []⟩] 0 (fun q hq => by rw [List.mem_singleton] at hq; subst hq; simp) hsp
  rw [hb] at f1
  have f2 := mLay_fl tq q.1 0 f1 hsq
  rw [ha] at f2
  subst e1 e2 e3
  exact ⟨c2.1, f2.len, by omega, by omega, c1.2, c2.2⟩

/-- what Shared answers -/
def SrPost (W : World) (tp tq : PT) (e : Ending) (w' : World) : Prop :=
  ∃ (u : List UInt8) (f : Bool), e = .returned (.tuple #[.string (txt u), .bool f]) ∧ (f = true → (M tp u ∧ M tq u) ∧ u.length ≤ 100000000) ∧ (f = false → u = [] ∧ ∀ s, ¬ (M tp s ∧ M tq s)) ∧ W.grownBy w' none

set_option maxRecDepth 100000 in
set_option maxHeartbeats 3200000 in
theorem shared_ {W : World} {Y : Nat → Prop} {tp tq : PT} {pp pq : Nat} (hTp : TR W Y tp pp) (hTq : TR W Y tq pq) (okp : okRep tp) (okq : okRep tq) (hsp : stSize tp ≤ 1000) (hsq : stSize tq ≤ 1000) (hT : Tab W) :
    Calls Tryz.prog 134 #[.pointer (some ⟨pp, 0, none⟩), .pointer (some ⟨pq, 0, none⟩)] W fun e w' => SrPost W tp tq e w' := by
  have hTp0 : TR W (fun _ => False) tp pp := TR.reY (fun _ _ h => h.elim) hTp
  have hTq0 : TR W (fun _ => False) tq pq := TR.reY (fun _ _ h => h.elim) hTq
  have HN := hide (snew W)
  have HA := hide (And.intro hTp0 (And.intro hTq0 (And.intro okp (And.intro okq hT))))
  clear hTp hTq hTp0 hTq0 okp okq hT
  go_enter Tryz.func134, Tryz.ntmps134
  go_wp2_with fail
  refine (unhide HN).mono ?_
  rintro e w1 ⟨mb, sb, rfl, hE1⟩
  obtain ⟨c0, c1, c2, c3, cf⟩ := hE1.cells
  have hl1 := mLay_len tp [⟨[], 0, []⟩] 0
  simp only [List.length_cons, List.length_nil] at hl1
  have HL := hide (mlay (w0 := W) (b := mb) tp (unhide HA).2.2.1 w1.drew (fun k => k < W.heap.size ∨ k = sb) [⟨[], 0, []⟩] 0 0 0 pp (unhide HA).1 (fun k hk => .inl hk) hE1.below.drew hE1.lt hE1.m.drew (by simp; omega))
  have H1 := hide hE1
  clear hE1 cf
  generalize hq : mLay tp [⟨[], 0, []⟩] 0 = qb at *
  have Hq := hide hq
  clear hq
  obtain ⟨S1, a⟩ := qb
  simp only at HL hl1
  generalize hq2 : mLay tq S1 0 = qc at *
  have Hq2 := hide hq2
  clear hq2
  obtain ⟨F, b⟩ := qc
  have Htw : Hid (shM tp tq = (F, a, b)) := hide (by unfold shM; simp only [unhide Hq, unhide Hq2])
  have Hsh : Hid (∀ w3, SE W w3 mb sb 0 0 F 0 0 → Calls Tryz.prog 157 #[.pointer (some ⟨sb, 0, none⟩), .agg #[.int .i64 3, .int .i64 (a : Int), .int .i64 (b : Int)]] w3 fun e w' => ShPost w3 F 0 0 (3, a, b) 0 e w') := hide (fun w3 hE3 => by
    obtain ⟨f1, f2, f3, f4, f5, f6⟩ := sh_good hsp hsq (unhide Htw)
    have hT := (unhide HA).2.2.2.2
    have hT3 : Tab w3 := fun j hj => by rw [World.cell?_of_block (a := ⟨1, j, none⟩) (hE3.gr.block _ hT.lt (by simp))]; exact hT j hj
    exact sshortest (wm := w3) (Br := w3.heap.size) (s0 := (3, a, b)) (hE3.m.reY (fun k hk e => by omega)) f1 f2 f3 f4 ⟨by show 3 < 4; decide, f5, f6⟩ (Kp.refl _ _) hE3.s hT3)
  go_wp2_with fail
  go_region_held3 (fun w' => w'.cell? ⟨sb, 0, none⟩ = some (.pointer (some ⟨mb, 0, none⟩)) ∧ w'.cell? ⟨mb, 2, none⟩ = some (.int .i64 ((0 : Nat) : Int))) (go_keep) (first
    | (go_at_call 141; refine (unhide HL).mono ?_; rintro e w2 ⟨rfl, hM2, hK2⟩; have hE2 := SE.of_kp (unhide H1) hM2 ((Kp.drew _ _).trans hK2); have d0 := hE2.cells.1; have d3 := hE2.cells.2.2.2.1; have HL2 := hide (mlay (w0 := W) (b := mb) tq (unhide HA).2.2.2.1 w2 (fun k => k < W.heap.size ∨ k = sb) S1 0 0 0 pq (unhide HA).2.1 (fun k hk => .inl hk) hE2.below hE2.lt hE2.m (by omega)); rw [unhide Hq2] at HL2; have H2 := hide hE2; clear hM2 hK2 hE2 HL)
    | (go_at_call 141; refine (unhide HL2).mono ?_; rintro e w3 ⟨rfl, hM3, hK3⟩; have hE3 := SE.of_kp (unhide H2) hM3 hK3; have t0 := hE3.cells.1; have t3 := hE3.cells.2.2.2.1; have HS := hide (unhide Hsh w3 hE3); have H3 := hide hE3; clear hM3 hK3 hE3)
    | (go_at_call 157; refine (unhide HS).mono ?_; rintro e w4 ⟨u, f, rfl, h1, h2, hg4⟩; have v0 := hg4.cell t0 (by simp); have v3 := hg4.cell t3 (by simp); have H4 := hide (And.intro h1 (And.intro h2 hg4)); clear h1 h2 hg4))
  all_goals
    go_wp2
    go_ret2
    obtain ⟨h1, h2, hg4⟩ := unhide H4
    obtain ⟨hTp, hTq, okp, okq, hT⟩ := unhide HA
    have key : ∀ s, Way F 0 0 (3, a, b) s (3, 0, 0) ↔ M tp s ∧ M tq s := fun s => by
      have := sh_spec okp okq 0 0 s
      rw [unhide Htw] at this
      exact this
    exact ⟨u, f, rfl, fun hf => ⟨(key u).1 (h1 hf).1, (h1 hf).2⟩, fun hf => ⟨(h2 hf).1, fun s hs => (h2 hf).2 s ((key s).2 hs)⟩, (unhide H3).gr.trans hg4⟩

end Go.Proofs.YtlljggefbngkeaaGreatDoor

namespace Go.Proofs.YtlljggefbngkeaaGreatDoor
open Go.RowKit

mutual
/-- the texts that a lens has on a side (false: its sources, true: its views), as the program makes them -/
def sideT (v : Bool) : LT → PT
  | .same l _ _ => nf (.alt l)
  | .fixed l _ _ vw _ _ => if v then pSeq (vw.map fun c => .chr [c]) else nf (.alt l)
  | .swap _ a b => pSeq (if v then [sideT v b, sideT v a] else [sideT v a, sideT v b])
  | .group a => sideT v a
  | .many _ a => .rep 42 (sideT v a)
  | .row l _ => pSeq (sideTL v l)
  | .choice l _ => pAlt (sideTL v l)
def sideTL (v : Bool) : List LT → List PT
  | [] => []
  | t :: l => sideT v t :: sideTL v l
end

theorem sideTL_snoc (v : Bool) : ∀ (l : List LT) (t : LT), sideTL v (l ++ [t]) = sideTL v l ++ [sideT v t]
  | [], t => by rw [List.nil_append, sideTL, sideTL, sideTL]; rfl
  | u :: l, t => by rw [List.cons_append, sideTL, sideTL, sideTL_snoc v l t]; rfl
theorem sideTL_len (v : Bool) : ∀ l : List LT, (sideTL v l).length = l.length
  | [] => by rw [sideTL]; rfl
  | t :: l => by rw [sideTL, List.length_cons, List.length_cons, sideTL_len v l]

/-- the texts of the parts, in the order in which a text of that side has them -/
def sideP (v : Bool) (t : LT) : List PT := match t with
  | .swap _ a b => if v then [sideT v b, sideT v a] else [sideT v a, sideT v b]
  | t => sideTL v (parts t)

set_option maxRecDepth 100000 in
set_option maxHeartbeats 800000 in
theorem pmany {w : World} {Y : Nat → Prop} {t : PT} {g : Nat} (hT : TR w Y t g) (hY : ∀ k, Y k → k < w.heap.size) :
    Calls Tryz.prog 139 #[.pointer (some ⟨g, 0, none⟩)] w fun e w' => JPost w Y (.rep 42 t) e w' := by
  have HF : Hid (JPost w Y (.rep 42 t) (.returned (.pointer (some ⟨w.heap.size + 1, 0, none⟩))) ((w.alloc (.cells #[.pointer (some ⟨g, 0, none⟩)] 116)).alloc (pblk 3 0 (.slice (some ⟨w.heap.size, 0, none⟩) 1 1)))) := by
    refine ⟨w.heap.size + 1, rfl, (World.grownBy_alloc _ _ _).trans (World.grownBy_alloc _ _ _), ?_⟩
    rw [TR]
    refine ⟨fun hy => by have := hY _ hy; omega, .slice (some ⟨w.heap.size, 0, none⟩) 1 1, g, alloc2_at w _ _, ⟨?_, fun k e hy => ?_⟩, ?_⟩
    · exact (World.ownsRow_lit (base := 0) (e := 116) (size := 1) w #[.pointer (some ⟨g, 0, none⟩)] 1 (by omega) (by unfold maxLen; omega) rfl).alloc _
    · have := hY k hy
      simp [Value.ownBlock] at e
      omega
    · refine TR.kept (fun k hk hy => ?_) hT
      rw [Below.heap_alloc _ _ _ (by simp; omega), Below.heap_alloc _ _ _ (by omega)]
  clear hT hY
  go_enter Tryz.func139, Tryz.ntmps139
  go_wp2
  go_ret
  exact unhide HF

/-- a row of patterns that is being made -/
structure RowP (w : World) (Y : Nat → Prop) (A : World) (v : Value) (gs : List Nat) (ts : List PT) : Prop where
  own : A.ownsRow 0 116 1 v gs.length (ptrs gs)
  nil : gs = [] → v = .slice none 0 0
  far : ∀ k, v.ownBlock = some k → w.heap.size ≤ k
  trl : TRL A (fun k => Y k ∨ v.ownBlock = some k) ts gs
  gr : w.grownBy A none

theorem RowP.start (w : World) (Y : Nat → Prop) : RowP w Y w (.slice none 0 0) [] [] where
  own := World.ownsRow_nil _ _ _ _
  nil := fun _ => rfl
  far := fun k hk => by cases hk
  trl := by rw [TRL]; trivial
  gr := World.grownBy.refl _ _

theorem TRL.snoc {w : World} {Y : Nat → Prop} : ∀ {l : List PT} {gs : List Nat} {t : PT} {g : Nat}, TRL w Y l gs → TR w Y t g → TRL w Y (l ++ [t]) (gs ++ [g])
  | [], [], t, g, _, h => by rw [List.nil_append, List.nil_append, TRL]; exact ⟨h, by rw [TRL]; trivial⟩
  | u :: l, k :: gs, t, g, h', h => by rw [TRL] at h'; rw [List.cons_append, List.cons_append, TRL]; exact ⟨h'.1, TRL.snoc h'.2 h⟩
  | [], k :: ks, _, _, h', _ => by simp [TRL] at h'
  | u :: l, [], _, _, h', _ => by simp [TRL] at h'

/-- one more -/
theorem RowP.push {w : World} {Y : Nat → Prop} {A w3 w5 : World} {ao : Option Addr} {cp g5 cap5 g : Nat} {gs : List Nat} {ts : List PT} {t : PT} {o : Obj} (h : RowP w Y A (.slice ao gs.length cp) gs ts) (hg3 : A.grownBy w3 none) (hT : TR w3 (fun k => Y k ∨ (Value.slice ao gs.length cp).ownBlock = some k) t g)
    (hown5 : w5.ownsRow 0 116 1 (.slice (some ⟨g5, 0, none⟩) (gs.length + 1) cap5) (gs.length + 1) (ptrs gs ++ [.pointer (some ⟨g, 0, none⟩)])) (hgrow5 : (w3.alloc o).grownBy w5 (Value.slice ao gs.length cp).ownBlock) (hat5 : (Value.slice ao gs.length cp).ownBlock = some g5 ∨ g5 = w3.heap.size + 1) :
    RowP w Y w5 (.slice (some ⟨g5, 0, none⟩) (gs.length + 1) cap5) (gs ++ [g]) (ts ++ [t]) := by
  have hs3 := hg3.size
  have hsA := h.gr.size
  have old : ∀ k, k < w3.heap.size → ¬ ((Y k ∨ (Value.slice ao gs.length cp).ownBlock = some k) ∨ w3.heap.size ≤ k) → w5.heap[k]? = w3.heap[k]? := fun k hk hn => by
    rw [hgrow5.block k (by simp; omega) (fun e => hn (.inl (.inr e.symm)))]
    exact Below.heap_alloc _ _ _ hk
  have up : ∀ k, k < w3.heap.size → ((Y k ∨ (Value.slice ao gs.length cp).ownBlock = some k) ∨ w3.heap.size ≤ k) → (Y k ∨ (Value.slice ao gs.length cp).ownBlock = some k) := fun k hk hz => hz.resolve_right (by omega)
  have dn : ∀ k, k < w5.heap.size → (Y k ∨ (Value.slice (some ⟨g5, 0, none⟩) (gs.length + 1) cap5).ownBlock = some k) → ((Y k ∨ (Value.slice ao gs.length cp).ownBlock = some k) ∨ w3.heap.size ≤ k) := fun k _ hz => by
    rcases hz with hz | hz
    · exact .inl (.inl hz)
    · simp only [Value.ownBlock, Option.some.injEq] at hz
      subst hz
      rcases hat5 with h1 | h1
      · exact .inl (.inr h1)
      · exact .inr (by omega)
  have h3 : TRL w3 (fun k => Y k ∨ (Value.slice ao gs.length cp).ownBlock = some k) ts gs := TRL.kept (fun k hk _ => hg3.block k hk (by simp)) h.trl
  exact {
    own := by simpa [ptrs] using hown5
    nil := fun e => by simp at e
    far := fun k hk => by
      simp only [Value.ownBlock, Option.some.injEq] at hk
      subst hk
      rcases hat5 with h1 | h1
      · exact h.far _ h1
      · omega
    trl := TRL.snoc (TRL.reY dn (TRL.kept old (TRL.reY up h3))) (TR.reY dn (TR.kept old (TR.reY up hT)))
    gr := by
      refine ⟨hgrow5.os.trans (hg3.os.trans h.gr.os), hgrow5.tape.trans (hg3.tape.trans h.gr.tape), hgrow5.output.trans (hg3.output.trans h.gr.output), by have := hgrow5.size; simp at this; omega, fun k hk hn => ?_⟩
      rw [hgrow5.block k (by simp; omega) (fun e => by have := h.far k e.symm; omega), Below.heap_alloc _ _ _ (by omega), hg3.block k (by omega) (by simp)]
      exact h.gr.block k hk hn }

set_option maxRecDepth 100000 in
set_option maxHeartbeats 1600000 in
/-- Text(): the signs, one behind the other -/
theorem ptext {w : World} {Y : Nat → Prop} {l : List UInt8} (hl : ∀ c, c ∈ l → signI (c.toNat : Int) = true) (hn : l.length ≤ 1000) (hY : ∀ k, Y k → k < w.heap.size) :
    Calls Tryz.prog 138 #[.string (txt l)] w fun e w' => JPost w Y (pSeq (l.map fun c => .chr [c])) e w' := by
  obtain ⟨i1, hi1, hz0, hz1, hz2⟩ := info_parts Tryz.infoPtr
  have hts : (txt l).size = l.length := txt_size l
  have H0 := hide (RowP.start w Y)
  go_enter Tryz.func138, Tryz.ntmps138
  go_wp2_with fail
  go_loopg [3, 7] (l.length + 1) (fun gk v3 v7 wv => ∃ (k : Nat) (gs : List Nat), v7 = .int .i64 (k : Int) ∧ k ≤ l.length ∧ l.length - k < gk ∧ gs.length = k ∧ RowP w Y wv v3 gs ((l.map fun c => PT.chr [c]).take k))
  case atStart => exact ⟨0, [], rfl, Nat.zero_le _, by omega, rfl, by rw [List.take_zero]; exact unhide H0⟩
  case round =>
    clear H0
    obtain ⟨k, gs, rfl, hk, hgk, hgl, hR⟩ := hrel
    obtain ⟨ao, cp, rfl⟩ := own_slice hR.own
    have Hgl := hide hgl
    by_cases hlt : k < l.length
    · have hd : (k : Int) < ((txt l).size : Int) := by rw [hts]; omega
      have hkt : k < (txt l).size := by rw [hts]; exact hlt
      have hel : (txt l)[k] = l[k] := rfl
      have hgs : gs.length ≤ 1000 := by omega
      have hsg := hl (l[k]) (List.getElem_mem hlt)
      have HS := hide (psign (l[k].toNat : Int) hsg wr)
      rw [← hel] at HS
      have hown := hR.own
      have HR := hide hR
      clear hR hgl hsg
      go_wp2_with fail
      refine (unhide HS).mono ?_
      rintro e w3 ⟨g, rfl, hg3, hT3⟩
      have hown3 := own_same hown (fun j e => hg3.block j (own_lt hown j e) (by simp))
      have H3 := hide (And.intro hg3 (And.intro hT3 hel))
      clear hg3 hT3 HS hown hel
      go_wp2_with (at_builtin; refine wpList_append_lies _ rfl (.tmp 10) (.tmp 15) 162 rfl 0 116 i1 _ 1 8 Tryz.underlying162 hi1 hz0 hz1 hz2 rfl (by decide) (.slice ao gs.length cp) gs.length (ptrs gs) rfl (hown3.alloc _) ⟨w3.heap.size, 0, none⟩ 1 1 [.pointer (some ⟨g, 0, none⟩)] rfl rfl (World.news_of_block (cs := #[.pointer (some ⟨g, 0, none⟩)]) (heap_alloc_new w3 _)) (by simp [Value.oneCell']) (by omega) (by unfold maxLen; omega) (by omega) (by omega) (w3.heap.size + 1) (by simp) ?_)
      intro g5 cap5 w5 hown5 hgrow5 hat5 hlt5
      have H5 := hide (And.intro hown5 (And.intro hgrow5 hat5))
      clear hown5 hgrow5 hat5 hlt5 hown3
      go_wp2_with fail
      go_roundg (l.length - k)
      case measure => exact hgk
      case rel =>
        obtain ⟨hown5, hgrow5, hat5⟩ := unhide H5
        obtain ⟨hg3, hT3, hel⟩ := unhide H3
        have hR := unhide HR
        refine ⟨k + 1, gs ++ [g], by simp, by omega, by omega, by simp [unhide Hgl], ?_⟩
        have hT : TR w3 (fun j => Y j ∨ (Value.slice ao gs.length cp).ownBlock = some j) (.chr [l[k]]) g := by
          rw [hel] at hT3
          have e : UInt8.ofNat ((l[k].toNat : Int)).toNat = l[k] := by simp
          rw [e] at hT3
          exact TR.reY (fun j hj hz => by
            rcases hz with hz | hz
            · have := hY j hz; have := hR.gr.size; omega
            · exact own_lt hR.own j hz) hT3
        have := hR.push hg3 hT hown5 hgrow5 hat5
        rw [List.take_add_one, List.getElem?_map, List.getElem?_eq_getElem hlt]
        exact this
    · have hke : k = l.length := by omega
      subst hke
      have hd : ¬ ((l.length : Int) < ((txt l).size : Int)) := by rw [hts]; omega
      rw [List.take_of_length_le (by simp)] at hR
      have HP := hide (prow hR.own hR.nil (by omega) (TRL.reY (fun j _ hz => .inl hz) hR.trl) (fun j hj => by have := hY j hj; have := hR.gr.size; omega))
      have HG := hide hR.gr
      clear hR hgl
      go_wp2_with fail
      refine (unhide HP).mono ?_
      rintro e w4 ⟨g, rfl, hg4, hT4⟩
      have H4 := hide (And.intro hg4 hT4)
      clear hg4 hT4
      go_wp2
      go_ret
      exact ⟨g, rfl, (unhide HG).trans (unhide H4).1, (unhide H4).2⟩

end Go.Proofs.YtlljggefbngkeaaGreatDoor

namespace Go.Proofs.YtlljggefbngkeaaGreatDoor
open Go.RowKit

/-- what the texts of a side ask of a lens -/
def vOk : LT → Prop
  | .fixed _ _ _ v _ _ => (∀ c, c ∈ v → signI (c.toNat : Int) = true) ∧ v.length ≤ 1000
  | t => (parts t).length ≤ 1000
def VOk (t : LT) : Prop := ∀ u, u ∈ subs t → vOk u
theorem VOk.part {t u : LT} (h : VOk t) (hu : u ∈ parts t) : VOk u := fun x hx => h x (by rw [subs_eq]; exact List.mem_cons_of_mem _ (subsL_mem _ u x hu hx))
theorem VOk.self {t : LT} (h : VOk t) : vOk t := h t (by rw [subs_eq]; exact List.mem_cons_self)
theorem VOk.len {t : LT} (h : VOk t) : (parts t).length ≤ 1000 := by
  have := h.self
  cases t <;> first | exact this | simp [parts]

def kindOf : LT → Int
  | .same _ _ _ => 0
  | .fixed _ _ _ _ _ _ => 1
  | .swap _ _ _ => 2
  | .group _ => 3
  | .many _ _ => 4
  | .row _ _ => 5
  | .choice _ _ => 6

theorem lr_node {s : ByteArray} {w : World} {Y : Nat → Prop} {t : LT} {g : Nat} (h : LR s w Y t g) : ¬ Y g ∧ ∃ pv jv pat wr vw df a gs, w.heap[g]? = some (lblk (kindOf t) pv jv pat wr vw df a) ∧ w.ownsRow 0 54 1 pv gs.length (ptrs gs) ∧ (∀ k, pv.ownBlock = some k → ¬ Y k) ∧ LRL s w Y (parts t) gs := by
  cases t with
  | same l i j => rw [LR] at h; obtain ⟨h0, p, h1, h2⟩ := h; exact ⟨h0, _, _, _, _, _, _, _, [], h1, World.ownsRow_nil _ _ _ _, fun k hk => (by cases hk), by rw [parts, LRL]; trivial⟩
  | fixed l i j v d a => rw [LR] at h; obtain ⟨h0, p, h1, h2⟩ := h; exact ⟨h0, _, _, _, _, _, _, _, [], h1, World.ownsRow_nil _ _ _ _, fun k hk => (by cases hk), by rw [parts, LRL]; trivial⟩
  | swap at_ a b => rw [LR] at h; obtain ⟨h0, v, jv, ga, gb, h1, h2, h3, h4, h5⟩ := h; exact ⟨h0, _, _, _, _, _, _, _, [ga, gb], h1, h2.1, h2.2, by rw [parts, LRL, LRL, LRL]; exact ⟨h4, h5, trivial⟩⟩
  | group a => rw [LR] at h; obtain ⟨h0, v, ga, h1, h2, h4⟩ := h; exact ⟨h0, _, _, _, _, _, _, _, [ga], h1, h2.1, h2.2, by rw [parts, LRL, LRL]; exact ⟨h4, trivial⟩⟩
  | many at_ a => rw [LR] at h; obtain ⟨h0, v, jv, ga, h1, h2, h3, h4⟩ := h; exact ⟨h0, _, _, _, _, _, _, _, [ga], h1, h2.1, h2.2, by rw [parts, LRL, LRL]; exact ⟨h4, trivial⟩⟩
  | row l ps => rw [LR] at h; obtain ⟨h0, v, jv, gs, h1, h2, h3, h4⟩ := h; exact ⟨h0, _, _, _, _, _, _, _, gs, h1, h2.1, h2.2, h4⟩
  | choice l ps => rw [LR] at h; obtain ⟨h0, v, jv, gs, h1, h2, h3, h4⟩ := h; exact ⟨h0, _, _, _, _, _, _, _, gs, h1, h2.1, h2.2, h4⟩

def sdV (v : Bool) : Int := if v then 1 else 0

def TextsSaid (s : ByteArray) (v : Bool) (t : LT) : Prop := ∀ (w : World) (Y : Nat → Prop) (g : Nat), LR s w Y t g → VOk t → (∀ k, Y k → k < w.heap.size) →
  Calls Tryz.prog 97 #[.int .i64 (sdV v), .pointer (some ⟨g, 0, none⟩)] w fun e w' => JPost w Y (sideT v t) e w'

def PartsPost (w : World) (Y : Nat → Prop) (v : Bool) (t : LT) (e : Ending) (w' : World) : Prop := ∃ v' gs, e = .returned v' ∧ RowP w Y w' v' gs (sideP v t)

theorem lrl_at {s : ByteArray} {w : World} {Y : Nat → Prop} : ∀ {l : List LT} {gs : List Nat}, LRL s w Y l gs → gs.length = l.length ∧ ∀ (k : Nat) (t : LT) (g : Nat), l[k]? = some t → gs[k]? = some g → LR s w Y t g
  | [], [], _ => ⟨rfl, fun k t g h => by simp at h⟩
  | t :: l, g :: gs, h => by
    rw [LRL] at h
    obtain ⟨q1, q2⟩ := lrl_at h.2
    refine ⟨by simp [q1], fun k u x hu hx => ?_⟩
    cases k with
    | zero => simp at hu hx; subst hu hx; exact h.1
    | succ k => exact q2 k u x (by simpa using hu) (by simpa using hx)
  | [], k :: ks, h => by simp [LRL] at h
  | t :: l, [], h => by simp [LRL] at h

theorem RowP.turn {w : World} {Y : Nat → Prop} {A w6 : World} {ao : Option Addr} {cp : Nat} {gs : List Nat} {t : LT} (h : RowP w Y A (.slice ao gs.length cp) gs (sideTL true (parts t))) (h2 : kindOf t = 2) (hown : w6.ownsRow 0 116 1 (.slice ao gs.length cp) gs.length (ptrs gs.reverse)) (hg : A.grownBy w6 (Value.slice ao gs.length cp).ownBlock) :
    RowP w Y w6 (.slice ao gs.length cp) gs.reverse (sideP true t) := by
  cases t with
  | swap at_ a b =>
    have hT := h.trl
    rw [show sideTL true (parts (.swap at_ a b)) = [sideT true a, sideT true b] by simp [parts, sideTL]] at hT
    match gs, hT with
    | [x, y], hT =>
      simp only [TRL] at hT
      refine ⟨by simpa using hown, fun e => by simp at e, h.far, ?_, ?_⟩
      · show TRL w6 _ [sideT true b, sideT true a] [y, x]
        have key : ∀ k, k < A.heap.size → ¬ (Y k ∨ (Value.slice ao [x, y].length cp).ownBlock = some k) → w6.heap[k]? = A.heap[k]? := fun k hk hn => hg.block k hk (fun e => hn (.inr e.symm))
        simp only [TRL]
        exact ⟨TR.kept key hT.2.1, TR.kept key hT.1, trivial⟩
      · exact ⟨hg.os.trans h.gr.os, hg.tape.trans h.gr.tape, hg.output.trans h.gr.output, Nat.le_trans h.gr.size hg.size, fun k hk hn => (hg.block k (Nat.lt_of_lt_of_le hk h.gr.size) (fun e => by have := h.far k e.symm; omega)).trans (h.gr.block k hk hn)⟩
    | [], hT => simp [TRL] at hT
    | [x], hT => simp [TRL] at hT
    | x :: y :: z :: r, hT => simp [TRL] at hT
  | _ => simp [kindOf] at h2

set_option maxRecDepth 100000 in
set_option maxHeartbeats 3200000 in
theorem sparts {s : ByteArray} {v : Bool} {t : LT} (ih : ∀ u, u ∈ parts t → TextsSaid s v u) {w : World} {Y : Nat → Prop} {g : Nat} (hL : LR s w Y t g) (hO : VOk t) (hY : ∀ k, Y k → k < w.heap.size) :
    Calls Tryz.prog 106 #[.int .i64 (sdV v), .pointer (some ⟨g, 0, none⟩)] w fun e w' => PartsPost w Y v t e w' := by
  obtain ⟨i1, hi1, hz0, hz1, hz2⟩ := info_parts Tryz.infoPtr
  obtain ⟨hng, pv, jv, pat, wr0, vw, df, a, gs0, hb, hpo, hpn, hLL⟩ := lr_node hL
  obtain ⟨ao0, cp0, rfl⟩ := own_slice hpo
  obtain ⟨hlen, hat⟩ := lrl_at hLL
  have c1 : w.cell? ⟨g, 1, none⟩ = some (.slice ao0 gs0.length cp0) := by rw [cellOf hb 1]; rfl
  have H0 := hide (RowP.start w Y)
  have HE := hide (And.intro hb (And.intro hpo (And.intro hpn (And.intro hlen (And.intro hat (And.intro ih hO))))))
  have hg0 : gs0.length ≤ 1000 := by have := hO.len; omega
  clear hL hb hpo hpn hLL hlen hat ih hO
  go_enter Tryz.func106, Tryz.ntmps106
  go_wp2_with fail
  clear c1
  go_loopg [5, 13] (gs0.length + 1) (fun gk v5 v13 wv => ∃ (k : Nat) (gs : List Nat), v13 = .int .i64 (k : Int) ∧ k ≤ gs0.length ∧ gs0.length - k < gk ∧ gs.length = k ∧ RowP w Y wv v5 gs (sideTL v ((parts t).take k)))
  case atStart => exact ⟨0, [], rfl, Nat.zero_le _, by omega, rfl, by rw [List.take_zero, sideTL]; exact unhide H0⟩
  case round =>
    clear H0
    obtain ⟨k, gs, rfl, hk, hgk, hgl, hR⟩ := hrel
    obtain ⟨ao, cp, rfl⟩ := own_slice hR.own
    obtain ⟨hb, hpo, hpn, hlen, hat, ih, hO⟩ := unhide HE
    have Hgl := hide hgl
    have hgs : gs.length ≤ 1000 := by omega
    by_cases hlt : k < gs0.length
    · have hd : (k : Int) < (gs0.length : Int) := by omega
      obtain ⟨vb, cap, hveq, _, hvl⟩ := hpo.form (by omega)
      injection hveq with hao _ hcp
      subst hao
      subst hcp
      obtain ⟨x, hx⟩ : ∃ x, gs0[k]? = some x := ⟨_, List.getElem?_eq_getElem hlt⟩
      obtain ⟨u, hu⟩ : ∃ u, (parts t)[k]? = some u := ⟨_, List.getElem?_eq_getElem (by omega)⟩
      have ck : wr.cell? ⟨vb, k, none⟩ = some (.pointer (some ⟨x, 0, none⟩)) := by
        rw [World.cell?_of_block (w := w) (w' := wr) (a := ⟨vb, k, none⟩) (hR.gr.block vb hvl (by simp)), hpo.cellAt k (by omega)]
        simp [ptrs, hx]
      have hLu : LR s wr (fun j => Y j ∨ (Value.slice ao gs.length cp).ownBlock = some j) u x := by
        have h1 : LR s w (fun j => Y j ∨ w.heap.size ≤ j) u x := LR.reY (fun j hj hz => hz.resolve_right (by omega)) (hat k u x hu hx)
        exact LR.reY (fun j _ hz => hz.imp id (fun e => hR.far j e)) (LR.kept (fun j hj _ => hR.gr.block j hj (by simp)) h1)
      have HT := hide (ih u (List.mem_of_getElem? hu) wr _ x hLu (hO.part (List.mem_of_getElem? hu)) (fun j hj => by
        rcases hj with hj | hj
        · have := hY j hj; have := hR.gr.size; omega
        · exact own_lt hR.own j hj))
      have hown := hR.own
      have HR := hide (And.intro hR hu)
      clear hR hgl hb hpo hpn hlen hat ih hO hu hLu hx
      go_wp2_with fail
      refine (unhide HT).mono ?_
      rintro e w3 ⟨g3, rfl, hg3, hT3⟩
      have hown3 := own_same hown (fun j e => hg3.block j (own_lt hown j e) (by simp))
      have H3 := hide (And.intro hg3 hT3)
      clear hg3 hT3 HT hown
      go_wp2_with (at_builtin; refine wpList_append_lies _ rfl (.tmp 17) (.tmp 21) 162 rfl 0 116 i1 _ 1 8 Tryz.underlying162 hi1 hz0 hz1 hz2 rfl (by decide) (.slice ao gs.length cp) gs.length (ptrs gs) rfl (hown3.alloc _) ⟨w3.heap.size, 0, none⟩ 1 1 [.pointer (some ⟨g3, 0, none⟩)] rfl rfl (World.news_of_block (cs := #[.pointer (some ⟨g3, 0, none⟩)]) (heap_alloc_new w3 _)) (by simp [Value.oneCell']) (by omega) (by unfold maxLen; omega) (by omega) (by omega) (w3.heap.size + 1) (by simp) ?_)
      intro g5 cap5 w5 hown5 hgrow5 hat5 hlt5
      have H5 := hide (And.intro hown5 (And.intro hgrow5 hat5))
      clear hown5 hgrow5 hat5 hlt5 hown3
      go_wp2_with fail
      go_roundg (gs0.length - k)
      case measure => exact hgk
      case rel =>
        obtain ⟨hown5, hgrow5, hat5⟩ := unhide H5
        obtain ⟨hg3, hT3⟩ := unhide H3
        obtain ⟨hR, hu⟩ := unhide HR
        refine ⟨k + 1, gs ++ [g3], by simp, by omega, by omega, by simp [unhide Hgl], ?_⟩
        rw [List.take_add_one, hu]
        show RowP w Y w5 _ _ (sideTL v ((parts t).take k ++ [u]))
        rw [sideTL_snoc]
        exact hR.push hg3 hT3 hown5 hgrow5 hat5
    · have hke : k = gs0.length := by omega
      subst hke
      have hd : ¬ ((gs0.length : Int) < (gs0.length : Int)) := by omega
      rw [List.take_of_length_le (by omega)] at hR
      have hbr := (hR.gr.block g (heap_lt hb) (by simp)).trans hb
      have c0 : wr.cell? ⟨g, 0, none⟩ = some (.int .i64 (kindOf t)) := by rw [cellOf hbr 0]; rfl
      have HR := hide hR
      clear hb hpo hpn hlen hat ih hO hR hbr hgl
      by_cases hsw : kindOf t = 2 ∧ v = true
      · obtain ⟨h2, rfl⟩ := hsw
        rw [h2] at c0
        have hsd : sdV true = 1 := rfl
        rw [hsd]
        have HV := hide (prev (unhide HR).own (by omega))
        go_wp2_with fail
        refine (unhide HV).mono ?_
        rintro e w6 ⟨rfl, hown6, hg6⟩
        have H6 := hide (And.intro hown6 hg6)
        clear hown6 hg6 HV
        go_wp2
        go_ret
        exact ⟨_, gs.reverse, rfl, (unhide HR).turn h2 (unhide H6).1 (unhide H6).2⟩
      · have hsp : sideP v t = sideTL v (parts t) := by
          cases t <;> first | rfl | skip
          cases v with
          | true => exact absurd ⟨rfl, rfl⟩ hsw
          | false => simp [sideP, parts, sideTL]
        have Hsp := hide hsp
        by_cases h2 : kindOf t = 2
        · have hv : v = false := by
            cases v with
            | true => exact absurd ⟨h2, rfl⟩ hsw
            | false => rfl
          subst hv
          rw [h2] at c0
          have hsd : sdV false = 0 := rfl
          rw [hsd]
          clear hsp hsw
          go_wp2_with fail
          go_ret
          exact ⟨_, gs, rfl, by rw [unhide Hsp]; exact unhide HR⟩
        · clear hsp hsw
          generalize kindOf t = K at *
          generalize sdV v = sd at *
          go_wp2_with fail
          go_ret
          exact ⟨_, gs, rfl, by rw [unhide Hsp]; exact unhide HR⟩

end Go.Proofs.YtlljggefbngkeaaGreatDoor

namespace Go.Proofs.YtlljggefbngkeaaGreatDoor
open Go.RowKit

theorem RowP.trY {w : World} {Y : Nat → Prop} {A : World} {v : Value} {gs : List Nat} {ts : List PT} (h : RowP w Y A v gs ts) : TRL A Y ts gs := TRL.reY (fun _ _ hz => .inl hz) h.trl
theorem JPost.after {w w1 : World} {Y : Nat → Prop} {t : PT} {e : Ending} {w' : World} (hg : w.grownBy w1 none) (h : JPost w1 Y t e w') : JPost w Y t e w' := by
  obtain ⟨g, rfl, hg2, hT⟩ := h
  exact ⟨g, rfl, hg.trans hg2, hT⟩
theorem JPost.ret {w : World} {Y : Nat → Prop} {t : PT} {e : Ending} {w' : World} (h : JPost w Y t e w') : ∃ g, e = .returned (.pointer (some ⟨g, 0, none⟩)) := by
  obtain ⟨g, rfl, _⟩ := h
  exact ⟨g, rfl⟩
theorem sideP_len (v : Bool) (t : LT) : (sideP v t).length = (parts t).length := by
  cases t <;> simp [sideP, parts, sideTL_len]
  cases v <;> simp

set_option maxRecDepth 100000 in
set_option maxHeartbeats 1600000 in
/-- those that are made of parts: the parts, joined -/
theorem stexts_join {s : ByteArray} {v : Bool} {t : LT} (hk : kindOf t = 2 ∨ kindOf t = 3 ∨ kindOf t = 5 ∨ kindOf t = 6) (ht : sideT v t = if kindOf t = 6 then pAlt (sideP v t) else pSeq (sideP v t)) (ih : ∀ u, u ∈ parts t → TextsSaid s v u) : TextsSaid s v t := by
  intro w Y g hL hO hY
  obtain ⟨hng, pv, jv, pat, wr0, vw, df, a, gs0, hb, _, _, _⟩ := lr_node hL
  have c0 : w.cell? ⟨g, 0, none⟩ = some (.int .i64 (kindOf t)) := by rw [cellOf hb 0]; rfl
  have HP := hide (sparts ih hL hO hY)
  have hpl := hO.len
  have hsl := sideP_len v t
  have Ht := hide (And.intro ht (And.intro hsl hpl))
  clear hL hb ih hO ht hsl hpl
  by_cases h6 : kindOf t = 6
  · rw [h6] at c0
    go_enter Tryz.func97, Tryz.ntmps97
    go_wp2_with fail
    refine (unhide HP).mono ?_
    rintro e w1 ⟨v1, gs1, rfl, hR⟩
    obtain ⟨ao, cp, rfl⟩ := own_slice hR.own
    have HC := hide (pchoice hR.own hR.nil (by have := hR.trY.len; have := unhide Ht; omega) hR.trY (fun k hk => by have := hY k hk; have := hR.gr.size; omega))
    have HR := hide hR.gr
    clear hR HP
    go_wp2_with fail
    refine (unhide HC).mono ?_
    rintro e w2 hJ
    obtain ⟨g2, rfl⟩ := hJ.ret
    have HJ := hide hJ
    clear hJ HC
    go_wp2
    go_ret
    rw [(unhide Ht).1, if_pos h6]
    exact (unhide HJ).after (unhide HR)
  · have n0 : ¬ (kindOf t = 0) := by omega
    have n1 : ¬ (kindOf t = 1) := by omega
    have n4 : ¬ (kindOf t = 4) := by omega
    have H6 := hide h6
    have Hk := hide (rfl : kindOf t = kindOf t)
    generalize hK : kindOf t = K at *
    clear hk hK
    go_enter Tryz.func97, Tryz.ntmps97
    go_wp2_with fail
    refine (unhide HP).mono ?_
    rintro e w1 ⟨v1, gs1, rfl, hR⟩
    obtain ⟨ao, cp, rfl⟩ := own_slice hR.own
    have HC := hide (prow hR.own hR.nil (by have := hR.trY.len; have := unhide Ht; omega) hR.trY (fun k hk => by have := hY k hk; have := hR.gr.size; omega))
    have HR := hide hR.gr
    clear hR HP
    go_wp2_with fail
    refine (unhide HC).mono ?_
    rintro e w2 hJ
    obtain ⟨g2, rfl⟩ := hJ.ret
    have HJ := hide hJ
    clear hJ HC
    go_wp2
    go_ret
    rw [(unhide Ht).1, if_neg (unhide H6)]
    exact (unhide HJ).after (unhide HR)

set_option maxRecDepth 100000 in
set_option maxHeartbeats 1600000 in
theorem stexts_many {s : ByteArray} {v : Bool} {at_ : Nat} {u : LT} (ih : TextsSaid s v u) : TextsSaid s v (.many at_ u) := by
  intro w Y g hL hO hY
  have hO1 : VOk u := hO.part (by simp [parts])
  rw [LR] at hL
  obtain ⟨hng, pv, jv, ga, hb, hw, _, hLu⟩ := hL
  obtain ⟨vb, cap, rfl, _, hvl⟩ := hw.1.form (by simp)
  have c0 : w.cell? ⟨g, 0, none⟩ = some (.int .i64 4) := by rw [cellOf hb 0]; rfl
  have c1 : w.cell? ⟨g, 1, none⟩ = some (.slice (some ⟨vb, 0, none⟩) 1 cap) := by rw [cellOf hb 1]; rfl
  have ck : w.cell? ⟨vb, 0, none⟩ = some (.pointer (some ⟨ga, 0, none⟩)) := by
    rw [hw.1.cellAt 0 (by simp)]
    rfl
  have HT := hide (ih w Y ga hLu hO1 hY)
  clear hb hw hLu hO hO1 ih
  go_enter Tryz.func97, Tryz.ntmps97
  go_wp2_with fail
  refine (unhide HT).mono ?_
  rintro e w1 ⟨g1, rfl, hg1, hT1⟩
  have HM := hide (pmany hT1 (fun k hk => by have := hY k hk; have := hg1.size; omega))
  have H1 := hide hg1
  clear hg1 hT1 HT
  go_wp2_with fail
  refine (unhide HM).mono ?_
  rintro e w2 hJ
  obtain ⟨g2, rfl⟩ := hJ.ret
  have HJ := hide hJ
  clear hJ HM
  go_wp2
  go_ret
  rw [sideT]
  exact (unhide HJ).after (unhide H1)

set_option maxRecDepth 100000 in
set_option maxHeartbeats 1600000 in
theorem stexts_same {s : ByteArray} {v : Bool} {l : List PT} {i j : Nat} : TextsSaid s v (.same l i j) := by
  intro w Y g hL hO hY
  rw [LR] at hL
  obtain ⟨hng, p, hb, hT⟩ := hL
  have c0 : w.cell? ⟨g, 0, none⟩ = some (.int .i64 0) := by rw [cellOf hb 0]; rfl
  have c3 : w.cell? ⟨g, 3, none⟩ = some (.pointer (some ⟨p, 0, none⟩)) := by rw [cellOf hb 3]; rfl
  have HT := hide hT
  clear hb hO hT
  go_enter Tryz.func97, Tryz.ntmps97
  go_wp2
  go_ret
  rw [sideT]
  exact ⟨p, rfl, World.grownBy.refl _ _, unhide HT⟩

set_option maxRecDepth 100000 in
set_option maxHeartbeats 1600000 in
theorem stexts_fixed {s : ByteArray} {v : Bool} {l : List PT} {i j : Nat} {vw df : List UInt8} {a : Nat} : TextsSaid s v (.fixed l i j vw df a) := by
  intro w Y g hL hO hY
  obtain ⟨hv1, hv2⟩ := hO.self
  rw [LR] at hL
  obtain ⟨hng, p, hb, hT⟩ := hL
  have c0 : w.cell? ⟨g, 0, none⟩ = some (.int .i64 1) := by rw [cellOf hb 0]; rfl
  have c3 : w.cell? ⟨g, 3, none⟩ = some (.pointer (some ⟨p, 0, none⟩)) := by rw [cellOf hb 3]; rfl
  have c5 : w.cell? ⟨g, 5, none⟩ = some (.string (txt vw)) := by rw [cellOf hb 5]; rfl
  have HT := hide hT
  have HX := hide (ptext (w := w) (Y := Y) hv1 hv2 hY)
  clear hb hO hT hv1
  cases v with
  | false =>
    have hsd : sdV false = 0 := rfl
    rw [hsd]
    go_enter Tryz.func97, Tryz.ntmps97
    go_wp2_with fail
    go_ret
    rw [sideT]
    exact ⟨p, rfl, World.grownBy.refl _ _, unhide HT⟩
  | true =>
    have hsd : sdV true = 1 := rfl
    rw [hsd]
    go_enter Tryz.func97, Tryz.ntmps97
    go_wp2_with fail
    refine (unhide HX).mono ?_
    rintro e w2 hJ
    obtain ⟨g2, rfl⟩ := hJ.ret
    have HJ := hide hJ
    clear hJ HX
    go_wp2
    go_ret
    rw [sideT]
    exact unhide HJ

mutual
/-- Texts(), of every lens -/
theorem stexts {s : ByteArray} {v : Bool} : ∀ t : LT, TextsSaid s v t
  | .same _ _ _ => stexts_same
  | .fixed _ _ _ _ _ _ => stexts_fixed
  | .swap at_ a b => stexts_join (.inl rfl) (by rw [if_neg (by simp [kindOf]), sideT, sideP]) (fun u hu => by
    simp [parts] at hu
    rcases hu with h | h
    · rw [h]; exact stexts a
    · rw [h]; exact stexts b)
  | .group a => stexts_join (.inr (.inl rfl)) (by rw [if_neg (by simp [kindOf]), sideT]; simp [sideP, parts, sideTL, pSeq]) (fun u hu => by
    simp [parts] at hu
    rw [hu]; exact stexts a)
  | .many at_ a => stexts_many (stexts a)
  | .row l ps => stexts_join (.inr (.inr (.inl rfl))) (by rw [if_neg (by simp [kindOf]), sideT]; rfl) (fun u hu => stextsL l u hu)
  | .choice l ps => stexts_join (.inr (.inr (.inr rfl))) (by rw [if_pos (by simp [kindOf]), sideT]; rfl) (fun u hu => stextsL l u hu)
theorem stextsL {s : ByteArray} {v : Bool} : ∀ (l : List LT) (u : LT), u ∈ l → TextsSaid s v u
  | [], u, h => absurd h (List.not_mem_nil)
  | t :: l, u, h => by
    rcases List.mem_cons.1 h with h | h
    · rw [h]; exact stexts t
    · exact stextsL l u h
end

end Go.Proofs.YtlljggefbngkeaaGreatDoor

namespace Go.Proofs.YtlljggefbngkeaaGreatDoor
open Go.RowKit

theorem Tab.grown {w w' : World} (h : Tab w) (hg : w.grownBy w' none) : Tab w' := fun j hj => by
  rw [World.cell?_of_block (a := ⟨1, j, none⟩) (hg.block _ h.lt (by simp))]
  exact h j hj

/-- what repeatedTwice answers -/
def RTPost (W : World) (t : PT) (e : Ending) (w' : World) : Prop :=
  ∃ (u : List UInt8) (f : Bool), e = .returned (.tuple #[.string (txt u), .bool f]) ∧ (f = true → ((M t [] ∧ u = []) ∨ (¬ M t [] ∧ Twice t (.rep 42 t) u)) ∧ u.length ≤ 100000000) ∧ (f = false → u = [] ∧ ¬ M t [] ∧ ∀ s, ¬ Twice t (.rep 42 t) s) ∧ W.grownBy w' none

set_option maxRecDepth 100000 in
set_option maxHeartbeats 1600000 in
theorem rtwice {W : World} {Y : Nat → Prop} {t : PT} {p : Nat} (hT : TR W Y t p) (ok : okRep t) (hs : stSize t + 1 ≤ 1000) (hTab : Tab W) (hY : ∀ k, Y k → k < W.heap.size) :
    Calls Tryz.prog 136 #[.pointer (some ⟨p, 0, none⟩)] W fun e w' => RTPost W t e w' := by
  have HH := hide (holds_said W Y t p ⟨#[]⟩ hT ok (by omega) (by decide))
  have HA := hide (And.intro hT (And.intro ok hTab))
  clear hT ok hTab
  go_enter Tryz.func136, Tryz.ntmps136
  go_wp2_with fail
  refine (unhide HH).mono ?_
  rintro e w1 ⟨x, rfl, hx, hg1⟩
  have hx' : x = true ↔ M t [] := hx
  have Hx := hide (And.intro hx' hg1)
  clear hx hx' hg1 HH
  cases x with
  | true =>
    go_wp2_with fail
    go_ret2
    exact ⟨[], true, rfl, fun _ => ⟨.inl ⟨(unhide Hx).1.1 (by first | rfl | trivial), rfl⟩, by simp⟩, fun h => (by cases h), (unhide Hx).2⟩
  | false =>
    obtain ⟨hT, ok, hTab⟩ := unhide HA
    have hg1 := (unhide Hx).2
    have hT1 : TR w1 Y t p := TR.kept (fun k hk _ => hg1.block k hk (by simp)) hT
    have hY1 : ∀ k, Y k → k < w1.heap.size := fun k hk => by have := hY k hk; have := hg1.size; omega
    have HM := hide (pmany hT1 hY1)
    have H1 := hide (And.intro hT1 (And.intro (hTab.grown hg1) hY1))
    clear hT ok hTab hg1 hT1 hY1
    go_wp2_with fail
    refine (unhide HM).mono ?_
    rintro e w2 ⟨g2, rfl, hg2, hT2⟩
    obtain ⟨hT, ok, hTab⟩ := unhide HA
    obtain ⟨hT1, hTab1, hY1⟩ := unhide H1
    have HP := hide (parted (ta := t) (tb := .rep 42 t) (TR.kept (fun k hk _ => hg2.block k hk (by simp)) hT1) hT2 ok (by rw [okRep]; exact ⟨.inl rfl, ok⟩) (by omega) (by rw [stSize]; omega) (hTab1.grown hg2))
    have H2 := hide hg2
    clear hT ok hTab hT1 hTab1 hY1 hg2 hT2 HM
    go_wp2_with fail
    refine (unhide HP).mono ?_
    rintro e w3 ⟨u, f, rfl, h1, h2, hg3⟩
    have H3 := hide (And.intro h1 (And.intro h2 hg3))
    clear h1 h2 hg3 HP
    go_wp2
    go_ret2
    obtain ⟨h1, h2, hg3⟩ := unhide H3
    have hne : ¬ M t [] := fun hm => by have h9 := (unhide Hx).1.2 hm; first | cases h9 | simp at h9
    exact ⟨u, f, rfl, fun hf => ⟨.inr ⟨hne, (h1 hf).1⟩, (h1 hf).2⟩, fun hf => ⟨(h2 hf).1, hne, (h2 hf).2⟩, ((unhide Hx).2.trans (unhide H2)).trans hg3⟩

end Go.Proofs.YtlljggefbngkeaaGreatDoor

namespace Go.Proofs.YtlljggefbngkeaaGreatDoor
open Go.RowKit

/-- the first of a row -/
theorem own_take {w : World} {e : TypeId} {g n m cap : Nat} {xs : List Value} (h : w.ownsRow 0 e 1 (.slice (some ⟨g, 0, none⟩) n cap) n xs) (hm : m ≤ n) : w.ownsRow 0 e 1 (.slice (some ⟨g, 0, none⟩) m cap) m (xs.take m) := by
  have hx := h.1
  refine ⟨by simp; omega, ?_⟩
  rcases h.2 with ⟨h', _⟩ | ⟨g', cap', cur, h', h1, h2, h3, h4, h5, h6⟩
  · simp at h'
  · simp only [Value.slice.injEq, Option.some.injEq, Addr.mk.injEq, and_true, true_and] at h'
    obtain ⟨rfl, rfl⟩ := h'
    refine .inr ⟨g, cap, cur, rfl, h1, h2, by omega, h4, h5, ?_⟩
    rw [← h6, List.take_take]
    congr 1
    omega

theorem TRL.take {w : World} {Y : Nat → Prop} : ∀ {l : List PT} {gs : List Nat}, TRL w Y l gs → ∀ m, TRL w Y (l.take m) (gs.take m)
  | [], [], _, m => by simp [TRL]
  | t :: l, g :: gs, h, 0 => by simp [TRL]
  | t :: l, g :: gs, h, m + 1 => by rw [TRL] at h; rw [List.take_succ_cons, List.take_succ_cons, TRL]; exact ⟨h.1, TRL.take h.2 m⟩
  | [], k :: ks, h, _ => by simp [TRL] at h
  | t :: l, [], h, _ => by simp [TRL] at h

def jagg (g n : Nat) : Value := .agg #[.pointer (some ⟨g, 0, none⟩), .int .i64 (n : Int)]

/-- what around answers -/
def AroundPost (w : World) (Y : Nat → Prop) (v : Bool) (t : LT) (n : Nat) (e : Ending) (w' : World) : Prop :=
  ∃ (vb cp : Nat) (gs : List Nat) (gb : Nat) (tb : PT), e = .returned (.tuple #[.slice (some ⟨vb, 0, none⟩) (n + 1) cp, .pointer (some ⟨gb, 0, none⟩)]) ∧ gs.length = n + 1 ∧ w'.ownsRow 0 116 1 (.slice (some ⟨vb, 0, none⟩) (n + 1) cp) (n + 1) (ptrs gs) ∧
    TRL w' Y ((sideP v t).take (n + 1)) gs ∧ (sideP v t)[n + 1]? = some tb ∧ TR w' Y tb gb ∧ w.grownBy w' none

set_option maxRecDepth 100000 in
set_option maxHeartbeats 1600000 in
theorem jaround {s : ByteArray} {v : Bool} {t : LT} {w : World} {Y : Nat → Prop} {g n : Nat} (hL : LR s w Y t g) (hO : VOk t) (hY : ∀ k, Y k → k < w.heap.size) (hn : n + 1 < (parts t).length) :
    Calls Tryz.prog 133 #[jagg g n, .int .i64 (sdV v)] w fun e w' => AroundPost w Y v t n e w' := by
  have HP := hide (sparts (v := v) (fun u _ => stexts u) (LR.kept (w' := w.alloc (.cells #[.pointer (some ⟨g, 0, none⟩), .int .i64 (n : Int)] 109)) (fun k hk _ => Below.heap_alloc w _ k hk) hL) hO (fun k hk => by have := hY k hk; simp; omega))
  have hpl := hO.len
  have hsl := sideP_len v t
  clear hL hO
  unfold jagg
  go_enter Tryz.func133, Tryz.ntmps133
  go_wp2_with fail
  refine (unhide HP).mono ?_
  rintro e w1 ⟨v1, gs, rfl, hR⟩
  have hlen := hR.trl.len
  obtain ⟨vb, cp, rfl, _, hvl⟩ := hR.own.form (by omega)
  obtain ⟨gb, hgb⟩ : ∃ gb, gs[n + 1]? = some gb := ⟨_, List.getElem?_eq_getElem (by omega)⟩
  obtain ⟨tb, htb⟩ : ∃ tb, (sideP v t)[n + 1]? = some tb := ⟨_, List.getElem?_eq_getElem (by omega)⟩
  have ck : w1.cell? ⟨vb, n + 1, none⟩ = some (.pointer (some ⟨gb, 0, none⟩)) := by
    rw [hR.own.cellAt (n + 1) (by omega)]
    simp [ptrs, hgb]
  have hd : (n : Int) + 1 < (gs.length : Int) := by omega
  have cj : w1.cell? ⟨w.heap.size, 1, none⟩ = some (.int .i64 (n : Int)) := hR.gr.cell (by rw [cellOf (heap_alloc_new w _) 1]; rfl) (by simp)
  have hcap : gs.length ≤ cp := by
    rcases hR.own.2 with ⟨h', _⟩ | ⟨g', cap', cur, h', _, _, hnc, _⟩
    · simp at h'
    · injection h' with _ _ hc
      omega
  have hcp : cp ≤ 9223372036854775807 := by
    rcases hR.own.2 with ⟨h', _⟩ | ⟨g', cap', cur, h', _, _, hnc, hcm, _⟩
    · simp at h'
    · injection h' with _ _ hc
      unfold maxLen at hcm
      omega
  have hnw : IntKind.i64.wrap ((n : Int) + 1) = (n : Int) + 1 := IntWalk.i64_in _ (by omega)
  have HR := hide (And.intro hR (And.intro hgb htb))
  have Hl := hide (And.intro hlen hsl)
  clear hR hgb htb HP hlen hsl
  go_wp2_with fail
  go_quiet (fail)
  go_wp2
  go_ret2
  obtain ⟨hR, hgb, htb⟩ := unhide HR
  obtain ⟨hlen, hsl⟩ := unhide Hl
  refine ⟨vb, cp, gs.take (n + 1), gb, tb, rfl, by simp; omega, ?_, TRL.kept (w := w1) (w' := w1.drewN nq) (fun _ _ _ => rfl) (TRL.take hR.trY (n + 1)), htb, ?_, ((World.grownBy_alloc w _ none).trans hR.gr).trans (grown_drewN' _ _ _)⟩
  · have := own_take hR.own (m := n + 1) (by omega)
    rw [show (ptrs gs).take (n + 1) = ptrs (gs.take (n + 1)) by simp [ptrs, List.map_take]] at this
    exact own_same this (fun _ _ => rfl)
  · obtain ⟨t', g', q1, q2, q3⟩ := TRL.at hR.trY (n + 1) (by omega)
    rw [htb] at q1
    rw [hgb] at q2
    injection q1 with q1
    injection q2 with q2
    subst q1 q2
    exact TR.kept (w := w1) (w' := w1.drewN nq) (fun _ _ _ => rfl) q3

/-- what twice answers, of a joint that is no *'s -/
def twA (v : Bool) (t : LT) (n : Nat) : PT := pSeq ((sideP v t).take (n + 1))
def twB (v : Bool) (t : LT) (n : Nat) : PT := ((sideP v t)[n + 1]?).getD (.seq [])

set_option maxRecDepth 100000 in
set_option maxHeartbeats 1600000 in
theorem jtwice {s : ByteArray} {v : Bool} {t : LT} {w : World} {Y : Nat → Prop} {g n : Nat} (hL : LR s w Y t g) (hO : VOk t) (hY : ∀ k, Y k → k < w.heap.size) (hn : n + 1 < (parts t).length) (hk : kindOf t ≠ 4) (hTab : Tab w)
    (oka : okRep (twA v t n)) (okb : okRep (twB v t n)) (hsa : stSize (twA v t n) ≤ 1000) (hsb : stSize (twB v t n) ≤ 1000) :
    Calls Tryz.prog 92 #[jagg g n, .int .i64 (sdV v)] w fun e w' => PTPost w (twA v t n) (twB v t n) e w' := by
  obtain ⟨hng, pv, jv, pat, wr0, vw, df, a, gs0, hb, _, _, _⟩ := lr_node hL
  have hgl := heap_lt hb
  have c0 : ∀ o, (w.alloc o).cell? ⟨g, 0, none⟩ = some (.int .i64 (kindOf t)) := fun o => by rw [World.cell?_alloc_past _ _ _ hgl, cellOf hb 0]; rfl
  have HA := hide (jaround (v := v) (LR.kept (w' := w.alloc (.cells #[.pointer (some ⟨g, 0, none⟩), .int .i64 (n : Int)] 109)) (fun k hk _ => Below.heap_alloc w _ k hk) hL) hO (fun k hk => by have := hY k hk; simp; omega) hn)
  have Ho := hide (And.intro oka (And.intro okb hTab))
  have hpl := hO.len
  clear hL hO oka okb hb hTab
  generalize kindOf t = K at *
  unfold jagg at *
  go_enter Tryz.func92, Tryz.ntmps92
  go_wp2_with fail
  refine (unhide HA).mono ?_
  rintro e w1 ⟨vb, cp, gs, gb, tb, rfl, hgs, hown, hTL, htb, hTb, hg1⟩
  have hg := (World.grownBy_alloc w (.cells #[.pointer (some ⟨g, 0, none⟩), .int .i64 (n : Int)] 109) none).trans hg1
  have hY1 : ∀ k, Y k → k < w1.heap.size := fun k hk => by have := hY k hk; have := hg.size; omega
  rw [← hgs] at hown
  have HR := hide (prow hown (fun e => by rw [e] at hgs; simp at hgs) (by omega) hTL hY1)
  rw [hgs] at HR
  have H1 := hide (And.intro hTb (And.intro htb (And.intro hg hY1)))
  clear hown hTL hTb htb hg hg1 hY1 HA hgs
  go_wp2_with fail
  refine (unhide HR).mono ?_
  rintro e w2 ⟨g2, rfl, hg2, hT2⟩
  obtain ⟨hTb, htb, hg, hY1⟩ := unhide H1
  obtain ⟨oka, okb, hTab⟩ := unhide Ho
  have hbq : twB v t n = tb := by unfold twB; rw [htb]; rfl
  have HP := hide (parted (ta := twA v t n) (tb := twB v t n) hT2 (by rw [hbq]; exact TR.kept (fun k hk _ => hg2.block k hk (by simp)) hTb) oka okb hsa hsb ((hTab.grown hg).grown hg2))
  have H2 := hide (hg.trans hg2)
  clear hTb htb hg hY1 oka okb hTab hbq hg2 hT2 HR
  go_wp2_with fail
  refine (unhide HP).mono ?_
  rintro e w3 ⟨u, f, rfl, h1, h2, hg3⟩
  have H3 := hide (And.intro h1 (And.intro h2 hg3))
  clear h1 h2 hg3 HP
  go_wp2
  go_ret2
  exact ⟨u, f, rfl, (unhide H3).1, (unhide H3).2.1, (unhide H2).trans (unhide H3).2.2⟩

end Go.Proofs.YtlljggefbngkeaaGreatDoor

namespace Go.Proofs.YtlljggefbngkeaaGreatDoor
open Go.RowKit

set_option maxRecDepth 100000 in
set_option maxHeartbeats 1600000 in
/-- twice, of a * -/
theorem jtwice_many {s : ByteArray} {v : Bool} {at_ : Nat} {u : LT} {w : World} {Y : Nat → Prop} {g n : Nat} (hL : LR s w Y (.many at_ u) g) (hO : VOk (.many at_ u)) (hY : ∀ k, Y k → k < w.heap.size) (hTab : Tab w)
    (ok : okRep (sideT v u)) (hs : stSize (sideT v u) + 1 ≤ 1000) :
    Calls Tryz.prog 92 #[jagg g n, .int .i64 (sdV v)] w fun e w' => RTPost w (sideT v u) e w' := by
  have hO1 : VOk u := hO.part (by simp [parts])
  rw [LR] at hL
  obtain ⟨hng, pv, jv, ga, hb, hw, _, hLu⟩ := hL
  obtain ⟨vb, cap, rfl, _, hvl⟩ := hw.1.form (by simp)
  have hgl := heap_lt hb
  have c0 : ∀ o, (w.alloc o).cell? ⟨g, 0, none⟩ = some (.int .i64 4) := fun o => by rw [World.cell?_alloc_past _ _ _ hgl, cellOf hb 0]; rfl
  have c1 : ∀ o, (w.alloc o).cell? ⟨g, 1, none⟩ = some (.slice (some ⟨vb, 0, none⟩) 1 cap) := fun o => by rw [World.cell?_alloc_past _ _ _ hgl, cellOf hb 1]; rfl
  have ck : ∀ o, (w.alloc o).cell? ⟨vb, 0, none⟩ = some (.pointer (some ⟨ga, 0, none⟩)) := fun o => by
    rw [World.cell?_alloc_past _ _ _ hvl, hw.1.cellAt 0 (by simp)]
    rfl
  have HT := hide (stexts (s := s) (v := v) u (w.alloc (.cells #[.pointer (some ⟨g, 0, none⟩), .int .i64 (n : Int)] 109)) Y ga (LR.kept (fun k hk _ => Below.heap_alloc w _ k hk) hLu) hO1 (fun k hk => by have := hY k hk; simp; omega))
  have Ho := hide (And.intro ok hTab)
  clear hb hw hLu hO hO1 ok hTab
  unfold jagg
  go_enter Tryz.func92, Tryz.ntmps92
  go_wp2_with fail
  refine (unhide HT).mono ?_
  rintro e w1 ⟨g1, rfl, hg1, hT1⟩
  have hg := (World.grownBy_alloc w (.cells #[.pointer (some ⟨g, 0, none⟩), .int .i64 (n : Int)] 109) none).trans hg1
  have HR := hide (rtwice hT1 (unhide Ho).1 hs ((unhide Ho).2.grown hg) (fun k hk => by have := hY k hk; have := hg.size; omega))
  have H1 := hide hg
  clear hg hg1 hT1 HT
  go_wp2_with fail
  refine (unhide HR).mono ?_
  rintro e w2 ⟨u2, f, rfl, h1, h2, hg2⟩
  have H2 := hide (And.intro h1 (And.intro h2 hg2))
  clear h1 h2 hg2 HR
  go_wp2
  go_ret2
  exact ⟨u2, f, rfl, (unhide H2).1, (unhide H2).2.1, (unhide H1).trans (unhide H2).2.2⟩

def shA (t : LT) (n : Nat) : PT := pAlt ((sideP false t).take (n + 1))

set_option maxRecDepth 100000 in
set_option maxHeartbeats 1600000 in
theorem jshared {s : ByteArray} {t : LT} {w : World} {Y : Nat → Prop} {g n : Nat} (hL : LR s w Y t g) (hO : VOk t) (hY : ∀ k, Y k → k < w.heap.size) (hn : n + 1 < (parts t).length) (hTab : Tab w)
    (oka : okRep (shA t n)) (okb : okRep (twB false t n)) (hsa : stSize (shA t n) ≤ 1000) (hsb : stSize (twB false t n) ≤ 1000) :
    Calls Tryz.prog 91 #[jagg g n] w fun e w' => SrPost w (shA t n) (twB false t n) e w' := by
  have HA := hide (jaround (v := false) (LR.kept (w' := w.alloc (.cells #[.pointer (some ⟨g, 0, none⟩), .int .i64 (n : Int)] 109)) (fun k hk _ => Below.heap_alloc w _ k hk) hL) hO (fun k hk => by have := hY k hk; simp; omega) hn)
  have hsd : sdV false = 0 := rfl
  rw [hsd] at HA
  have Ho := hide (And.intro oka (And.intro okb hTab))
  have hpl := hO.len
  clear hL hO oka okb hTab hsd
  unfold jagg at *
  go_enter Tryz.func91, Tryz.ntmps91
  go_wp2_with fail
  refine (unhide HA).mono ?_
  rintro e w1 ⟨vb, cp, gs, gb, tb, rfl, hgs, hown, hTL, htb, hTb, hg1⟩
  have hg := (World.grownBy_alloc w (.cells #[.pointer (some ⟨g, 0, none⟩), .int .i64 (n : Int)] 109) none).trans hg1
  have hY1 : ∀ k, Y k → k < w1.heap.size := fun k hk => by have := hY k hk; have := hg.size; omega
  rw [← hgs] at hown
  have HR := hide (pchoice hown (fun e => by rw [e] at hgs; simp at hgs) (by omega) hTL hY1)
  rw [hgs] at HR
  have H1 := hide (And.intro hTb (And.intro htb (And.intro hg hY1)))
  clear hown hTL hTb htb hg hg1 hY1 HA hgs
  go_wp2_with fail
  refine (unhide HR).mono ?_
  rintro e w2 ⟨g2, rfl, hg2, hT2⟩
  obtain ⟨hTb, htb, hg, hY1⟩ := unhide H1
  obtain ⟨oka, okb, hTab⟩ := unhide Ho
  have hbq : twB false t n = tb := by unfold twB; rw [htb]; rfl
  have HP := hide (shared_ (tp := shA t n) (tq := twB false t n) hT2 (by rw [hbq]; exact TR.kept (fun k hk _ => hg2.block k hk (by simp)) hTb) oka okb hsa hsb ((hTab.grown hg).grown hg2))
  have H2 := hide (hg.trans hg2)
  clear hTb htb hg hY1 oka okb hTab hbq hg2 hT2 HR
  go_wp2_with fail
  refine (unhide HP).mono ?_
  rintro e w3 ⟨u, f, rfl, h1, h2, hg3⟩
  have H3 := hide (And.intro h1 (And.intro h2 hg3))
  clear h1 h2 hg3 HP
  go_wp2
  go_ret2
  exact ⟨u, f, rfl, (unhide H3).1, (unhide H3).2.1, (unhide H2).trans (unhide H3).2.2⟩

end Go.Proofs.YtlljggefbngkeaaGreatDoor

namespace Go.Proofs.YtlljggefbngkeaaGreatDoor
open Go.RowKit

set_option maxHeartbeats 800000 in
theorem shorter_ (a b : ByteArray) (w : World) : Calls Tryz.prog 93 #[.string a, .string b] w fun e w' => (e = .returned (.string a) ∨ e = .returned (.string b)) ∧ w' = w := by
  by_cases h : b.size < a.size
  · have hd : (b.size : Int) < (a.size : Int) := by omega
    go_enter Tryz.func93, Tryz.ntmps93
    go_wp2
    go_ret
    exact ⟨.inr rfl, rfl⟩
  · have hd : ¬ ((b.size : Int) < (a.size : Int)) := by omega
    go_enter Tryz.func93, Tryz.ntmps93
    go_wp2
    go_ret
    exact ⟨.inl rfl, rfl⟩

/-- is the text a witness of the joint? -/
def JW1 (v : Bool) (t : LT) (n : Nat) (u : List UInt8) : Prop := match t with
  | .many _ a => (M (sideT v a) [] ∧ u = []) ∨ (¬ M (sideT v a) [] ∧ Twice (sideT v a) (.rep 42 (sideT v a)) u)
  | t => Twice (twA v t n) (twB v t n) u
def JWit (t : LT) (n : Nat) (u : List UInt8) : Prop := match t with
  | .choice _ _ => M (shA t n) u ∧ M (twB false t n) u
  | t => JW1 false t n u ∨ JW1 true t n u

/-- what twice, and witness, answer of a joint -/
def JPost2 (W : World) (P : List UInt8 → Prop) (e : Ending) (w' : World) : Prop :=
  ∃ (u : List UInt8) (f : Bool), e = .returned (.tuple #[.string (txt u), .bool f]) ∧ (f = true → P u ∧ u.length ≤ 100000000) ∧ (f = false → u = [] ∧ ∀ s, ¬ P s) ∧ W.grownBy w' none

/-- what is asked of a joint: its number, and that its patterns are small and whole -/
structure JOk (t : LT) (n : Nat) : Prop where
  nb : match t with | .many _ _ => n = 0 | t => n + 1 < (parts t).length
  ok : ∀ v, match t with | .many _ a => okRep (sideT v a) ∧ stSize (sideT v a) + 1 ≤ 1000 | t => okRep (twA v t n) ∧ okRep (twB v t n) ∧ stSize (twA v t n) ≤ 1000 ∧ stSize (twB v t n) ≤ 1000
  sh : okRep (shA t n) ∧ stSize (shA t n) ≤ 1000

theorem jtwice_any {s : ByteArray} {v : Bool} {t : LT} {w : World} {Y : Nat → Prop} {g n : Nat} (hL : LR s w Y t g) (hO : VOk t) (hY : ∀ k, Y k → k < w.heap.size) (hTab : Tab w) (hJ : JOk t n) :
    Calls Tryz.prog 92 #[jagg g n, .int .i64 (sdV v)] w fun e w' => JPost2 w (JW1 v t n) e w' := by
  by_cases hm : kindOf t = 4
  · cases t with
    | many at_ a =>
      have h1 := hJ.ok v
      refine (jtwice_many hL hO hY hTab h1.1 h1.2).mono ?_
      rintro e w' ⟨u, f, rfl, h2, h3, h4⟩
      refine ⟨u, f, rfl, h2, fun hf => ⟨(h3 hf).1, fun s hs => ?_⟩, h4⟩
      rcases hs with ⟨hs, _⟩ | ⟨_, hs⟩
      · exact (h3 hf).2.1 hs
      · exact (h3 hf).2.2 s hs
    | _ => simp [kindOf] at hm
  · have h1 : n + 1 < (parts t).length ∧ okRep (twA v t n) ∧ okRep (twB v t n) ∧ stSize (twA v t n) ≤ 1000 ∧ stSize (twB v t n) ≤ 1000 ∧ JW1 v t n = Twice (twA v t n) (twB v t n) := by
      have h2 := hJ.ok v
      have h3 := hJ.nb
      cases t <;> first | exact ⟨h3, h2.1, h2.2.1, h2.2.2.1, h2.2.2.2, rfl⟩ | exact absurd rfl hm
    obtain ⟨q1, q2, q3, q4, q5, q6⟩ := h1
    rw [q6]
    refine (jtwice hL hO hY q1 hm hTab q2 q3 q4 q5).mono ?_
    rintro e w' ⟨u, f, rfl, h2, h3, h4⟩
    exact ⟨u, f, rfl, h2, h3, h4⟩

end Go.Proofs.YtlljggefbngkeaaGreatDoor
