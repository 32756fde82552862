import Derived.Test.YtlljggefbngkeaaGreatDoorU40
import Derived.Test.YtlljggefbngkeaaGreatDoorU32
import Derived.Deep.RegionHeld3
namespace Go.Proofs.YtlljggefbngkeaaGreatDoor
open Go.RowKit Go.Shelf Go.Maps
attribute [local go_sem] Oper.semAt_some

/-- what shortest() answers -/
def ShPost (W : World) (F : List MSt) (gate beh : Nat) (s0 : P3) (en : Nat) (e : Ending) (w' : World) : Prop :=
  ∃ (u : List UInt8) (f : Bool), e = .returned (.tuple #[.string (txt u), .bool f]) ∧ (f = true → Way F gate beh s0 u (3, en, en) ∧ u.length ≤ 100000000) ∧ (f = false → u = [] ∧ ∀ u', ¬ Way F gate beh s0 u' (3, en, en)) ∧ W.grownBy w' none

def ShI (W : World) (en : Nat) (pre : List (Nat × P3)) (A : World) : Prop := (∀ x, x ∈ pre → x.2 ≠ (3, en, en)) ∧ A.heap[W.heap.size + 1]? = some (.cells #[.string ⟨#[]⟩] 9 (0, 0)) ∧ A.heap[W.heap.size + 2]? = some (.cells #[.bool false] 4 (0, 0)) ∧ A.heap[W.heap.size + 3]? = some (.cells #[.int .i64 3, .int .i64 (en : Int), .int .i64 (en : Int)] 211 (0, 0)) ∧ W.grownBy A none
def ShX (W : World) (F : List MSt) (gate beh : Nat) (s0 : P3) (en : Nat) (_ : List (Nat × P3)) (A : World) : Prop := ∃ u, (Way F gate beh s0 u (3, en, en) ∧ u.length ≤ 100000000) ∧ A.heap[W.heap.size + 1]? = some (.cells #[.string (txt u)] 9 (0, 0)) ∧ A.heap[W.heap.size + 2]? = some (.cells #[.bool true] 4 (0, 0)) ∧ W.grownBy A none
def fpSh (W : World) (_ : World) (k : Nat) : Prop := k = W.heap.size + 1 ∨ k = W.heap.size + 2

theorem six_at (W : World) (o1 o2 o3 o4 o5 o6 : Obj) : ∃ w6, ((((((W.alloc o1).alloc o2).alloc o3).alloc o4).alloc o5).alloc o6).drew = w6 ∧ w6.heap.size = W.heap.size + 6 ∧ w6.heap[W.heap.size + 1]? = some o2 ∧ w6.heap[W.heap.size + 2]? = some o3 ∧ w6.heap[W.heap.size + 3]? = some o4 ∧ w6.heap[W.heap.size + 4]? = some o5 ∧ w6.heap[W.heap.size + 5]? = some o6 ∧ W.grownBy w6 none := by
  obtain ⟨w4, h4, s4, a4, b4, c4, d4, g4⟩ := four_at W o1 o2 o3 o4
  obtain ⟨w6, h6, s6, a6, b6, g6⟩ := two_at w4 o5 o6
  refine ⟨w6.drew, by rw [h4, h6], ?_, ?_, ?_, ?_, ?_, ?_, (g4.trans g6).trans (grown_drew' _ _)⟩
  · show w6.heap.size = _
    omega
  · show w6.heap[W.heap.size + 1]? = _
    exact (g6.block _ (by omega) (by simp)).trans b4
  · show w6.heap[W.heap.size + 2]? = _
    exact (g6.block _ (by omega) (by simp)).trans c4
  · show w6.heap[W.heap.size + 3]? = _
    exact (g6.block _ (by omega) (by simp)).trans d4
  · show w6.heap[W.heap.size + 4]? = _
    rw [← s4]
    exact a6
  · show w6.heap[W.heap.size + 5]? = _
    rw [show W.heap.size + 5 = w4.heap.size + 1 by omega]
    exact b6

theorem fz_grown {W A A' : World} {N : Nat} {fp : World → Nat → Prop} (h : W.grownBy A none) (hN : W.heap.size ≤ N) (hz : Fz N fp A A') : W.grownBy A' none :=
  ⟨hz.os.trans h.os, hz.tape.trans h.tape, hz.output.trans h.output, Nat.le_trans h.size hz.size, fun k hk hn => (hz.block k (Nat.lt_of_lt_of_le hk h.size) (.inl (by omega))).trans (h.block k hk hn)⟩

set_option maxRecDepth 100000 in
set_option maxHeartbeats 6400000 in
theorem sshortest {wm W : World} {Br mb sb gate beh : Nat} {F : List MSt} {st en : Nat} {s0 : P3} (hM : MH wm (fun k => k = Br) mb F st en) (hcl : Cl F F.length) (hfl : ∀ x, freeLen F x ≤ 1000) (hS : F.length ≤ 4000) (hbeh : beh < F.length) (hr0 : Rng F.length s0) (hB : Kp (fun k => k ≠ Br) wm W)
    (hsb : W.heap[sb]? = some (seblk mb gate beh)) (hT : Tab W) :
    Calls Tryz.prog 157 #[.pointer (some ⟨sb, 0, none⟩), pval s0] W fun e w' => ShPost W F gate beh s0 en e w' := by
  obtain ⟨ao, cp, m0, m2, _⟩ := hM.row hB
  have s0c : W.cell? ⟨sb, 0, none⟩ = some (.pointer (some ⟨mb, 0, none⟩)) := by rw [cellOf hsb 0]; rfl
  unfold pval
  refine (callsIn_wide (n := 3)).1 ?_
  refine callsIn_of_wp_marks Tryz.func157 rfl trivial ?_ rfl
  simp only [Tryz.ntmps157, List.size_toArray, List.length_cons, List.length_nil, Nat.reduceAdd, Nat.reduceSub, Array.replicate_succ, Array.replicate_zero, List.push_toArray, List.append_toArray, List.nil_append, List.cons_append]
  have hsl := heap_lt hsb
  have hml : mb < W.heap.size := by have := hM.lt; have := hB.size; omega
  have c3 : ∀ o1 o2 o3, (((W.alloc o1).alloc o2).alloc o3).cell? ⟨sb, 0, none⟩ = some (.pointer (some ⟨mb, 0, none⟩)) := fun o1 o2 o3 => by rw [World.cell?_alloc_past _ _ _ (by simp; omega), World.cell?_alloc_past _ _ _ (by simp; omega), World.cell?_alloc_past _ _ _ hsl]; exact s0c
  have d3 : ∀ o1 o2 o3, (((W.alloc o1).alloc o2).alloc o3).cell? ⟨mb, 2, none⟩ = some (.int .i64 (en : Int)) := fun o1 o2 o3 => by rw [World.cell?_alloc_past _ _ _ (by simp; omega), World.cell?_alloc_past _ _ _ (by simp; omega), World.cell?_alloc_past _ _ _ hml]; exact m2
  have c4 : ∀ o1 o2 o3 o4, ((((W.alloc o1).alloc o2).alloc o3).alloc o4).cell? ⟨sb, 0, none⟩ = some (.pointer (some ⟨mb, 0, none⟩)) := fun o1 o2 o3 o4 => by rw [World.cell?_alloc_past _ _ _ (by simp; omega)]; exact c3 _ _ _
  have d4 : ∀ o1 o2 o3 o4, ((((W.alloc o1).alloc o2).alloc o3).alloc o4).cell? ⟨mb, 2, none⟩ = some (.int .i64 (en : Int)) := fun o1 o2 o3 o4 => by rw [World.cell?_alloc_past _ _ _ (by simp; omega)]; exact d3 _ _ _
  gi_wp2_with fail
  refine wpIn_mono (Q := NoPanic (fun e a' w' => e = .normal ∧ a' = ⟨#[Value.pointer (some { block := sb, off := 0 }), Value.agg #[Value.int IntKind.i64 ↑s0.fst, Value.int IntKind.i64 ↑s0.snd.fst, Value.int IntKind.i64 ↑s0.snd.snd], undef, Value.pointer (some { block := W.heap.size, off := 0 }), Value.pointer (some { block := W.heap.size + 1, off := 0 }), Value.pointer (some { block := W.heap.size + 1 + 1, off := 0 }), Value.pointer (some { block := W.heap.size + 1 + 1 + 1, off := 0 }), undef, Value.pointer (some { block := sb, off := 0 }), Value.pointer (some { block := sb, off := 0 }), Value.pointer (some { block := sb, off := 0 }), Value.pointer (some { block := mb, off := 0 }), Value.pointer (some { block := mb, off := 0 }), Value.pointer (some { block := mb, off := 2 }), Value.int IntKind.i64 ↑en, Value.pointer (some { block := sb, off := 0 }), Value.pointer (some { block := sb, off := 0 }), Value.pointer (some { block := sb, off := 0 }), Value.pointer (some { block := mb, off := 0 }), Value.pointer (some { block := mb, off := 0 }), Value.pointer (some { block := mb, off := 2 }), Value.int IntKind.i64 ↑en, Value.agg #[Value.int IntKind.i64 3, Value.int IntKind.i64 ↑en, Value.int IntKind.i64 ↑en], undef, undef, undef, undef, undef, undef, undef, undef, undef, undef, undef, undef], []⟩ ∧ w' = ((((W.alloc (.cells #[.int .i64 (s0.1 : Int), .int .i64 (s0.2.1 : Int), .int .i64 (s0.2.2 : Int)] 211)).alloc (.cells #[.string ⟨#[]⟩] 9)).alloc (.cells #[.bool false] 4)).alloc (.cells #[.int .i64 3, .int .i64 (en : Int), .int .i64 (en : Int)] 211)).drew)) ?_ ?_
  · gi_region_with fail
    all_goals exact ⟨rfl, rfl, rfl⟩
  rintro e a' w' hq
  cases e with
  | normal =>
    obtain ⟨_, rfl, rfl⟩ := hq
    clear c3 d3 c4 d4 s0c m0 m2
    gi_wp2_with fail
    refine ⟨trivial, (svisits 2 sb s0 _).mono ?_⟩
    rintro e w' ⟨rfl, rfl⟩
    gi_wp2_with fail
    obtain ⟨w6, hw6, hs6, r1, r2, r3, r4, r5, hg6⟩ := six_at W (.cells #[.int .i64 (s0.1 : Int), .int .i64 (s0.2.1 : Int), .int .i64 (s0.2.2 : Int)] 211) (.cells #[.string ⟨#[]⟩] 9) (.cells #[.bool false] 4) (.cells #[.int .i64 3, .int .i64 (en : Int), .int .i64 (en : Int)] 211) (.cells #[.pointer (some ⟨sb, 0, none⟩)] 204) (.cells (pcells s0) 211)
    rw [hw6]
    simp only [Nat.add_assoc, Nat.reduceAdd]
    have hB6 : Kp (fun k => k ≠ Br) wm w6 := hB.trans (Kp.of_grown hg6 (fun _ e => by cases e))
    have hsb6 := (hg6.block sb hsl (by simp)).trans hsb
    have hT6 : Tab w6 := fun j hj => by rw [World.cell?_of_block (a := ⟨1, j, none⟩) (hg6.block _ hT.lt (by simp))]; exact hT j hj
    have htl := hT.lt
    have hsz := hB.size
    clear hw6
    refine wpIn_rangeW (α := Nat × P3) rfl (by decide) (gf := 183) (lb := #[.pointer (some ⟨W.heap.size + 5, 0, none⟩), .pointer (some ⟨W.heap.size + 4, 0, none⟩)]) rfl trivial (enters_of Tryz.func183 (by kernel_rfl) rfl)
      (visits_seq (fp := fpSh W) (s0 := s0) hM hcl hfl hS hbeh hr0 hB6 hsb6 r4 r5 hT6 (fun A k h => by rcases h with h | h <;> (subst h; exact ⟨by omega, .inl (by omega), by omega, by omega, by omega, by omega⟩))) (fun _ => rfl)
      (fun pre x A A' ⟨N, u, hv, hl⟩ hk => ⟨N, u, hv.kv (fun k pr fr c _ h => hk k _ _ _ h), hl⟩)
      (ShI W en) (ShX W F gate beh s0 en)
      (fun pre A A' h hz => ⟨⟨h.1, (hz.block _ (heap_lt h.2.1) (.inr (.inl rfl))).trans h.2.1, (hz.block _ (heap_lt h.2.2.1) (.inr (.inr rfl))).trans h.2.2.1, (hz.block _ (heap_lt h.2.2.2.1) (.inl (by omega))).trans h.2.2.2.1, fz_grown h.2.2.2.2 (by omega) hz⟩, fun _ => Iff.rfl⟩)
      (fun pre A A' h hb hs ho ht hu => ?sx)
      (fun pre A A' h hz => ?sy)
      (fun pre A k h hk => .inl (by rcases hk with hk | hk <;> omega)) (fun _ pre A h k hk => by rcases hk with hk | hk <;> subst hk <;> first | exact heap_lt h.2.1 | exact heap_lt h.2.2.1)
      ⟨fun x hx => (by cases hx), r1, r2, r3, hg6⟩
      ?a1 ?assign ?body ?done ?stop
    case sx =>
      obtain ⟨u, h1, h2, h3, h4⟩ := h
      exact ⟨u, h1, (hb _ (heap_lt h2) (.inl (by omega))).trans h2, (hb _ (heap_lt h3) (.inl (by omega))).trans h3, ⟨ho.trans h4.os, ht.trans h4.tape, hu.trans h4.output, by have := h4.size; omega, fun k hk hn => (hb k (Nat.lt_of_lt_of_le hk h4.size) (.inl (by omega))).trans (h4.block k hk hn)⟩⟩
    case sy =>
      obtain ⟨u, h1, h2, h3, h4⟩ := h
      exact ⟨u, h1, (hz.block _ (heap_lt h2) (.inr (.inl rfl))).trans h2, (hz.block _ (heap_lt h3) (.inr (.inr rfl))).trans h3, fz_grown h4 (by omega) hz⟩
    case assign =>
      intro l' x W K hK
      simp only [encV]
      gi_wp2
      exact hK
    case body =>
      rintro l' pre ⟨g, ph, a, b⟩ Wr ⟨hp1, hp2, hp3, hp4, hp5⟩ ⟨N, u, hv, hu⟩ hWs
      obtain ⟨fr, c, hbk⟩ := hv.blk
      have e0 : Wr.cell? ⟨g, 0, none⟩ = some (.int .i64 (ph : Int)) := by rw [cellOf hbk 0]; rfl
      have e1 : Wr.cell? ⟨g, 1, none⟩ = some (.int .i64 (a : Int)) := by rw [cellOf hbk 1]; rfl
      have e2 : Wr.cell? ⟨g, 2, none⟩ = some (.int .i64 (b : Int)) := by rw [cellOf hbk 2]; rfl
      have g0 : Wr.cell? ⟨W.heap.size + 3, 0, none⟩ = some (.int .i64 3) := by rw [cellOf hp4 0]; rfl
      have g1 : Wr.cell? ⟨W.heap.size + 3, 1, none⟩ = some (.int .i64 (en : Int)) := by rw [cellOf hp4 1]; rfl
      have g2 : Wr.cell? ⟨W.heap.size + 3, 2, none⟩ = some (.int .i64 (en : Int)) := by rw [cellOf hp4 2]; rfl
      have HP := hide (And.intro hp1 (And.intro hp2 (And.intro hp3 (And.intro hp4 (And.intro hp5 (And.intro hv hu))))))
      clear hp1 hp2 hp3 hp4 hp5 hv hu hbk
      have hq0 : ∀ w', Wr.grownBy w' none → w'.cell? ⟨g, 0, none⟩ = some (.int .i64 (ph : Int)) := fun w' hg => hg.cell e0 (by simp)
      have hq1 : ∀ w', Wr.grownBy w' none → w'.cell? ⟨g, 1, none⟩ = some (.int .i64 (a : Int)) := fun w' hg => hg.cell e1 (by simp)
      have hq2 : ∀ w', Wr.grownBy w' none → w'.cell? ⟨g, 2, none⟩ = some (.int .i64 (b : Int)) := fun w' hg => hg.cell e2 (by simp)
      have hg0 : ∀ w', Wr.grownBy w' none → w'.cell? ⟨W.heap.size + 3, 0, none⟩ = some (.int .i64 3) := fun w' hg => hg.cell g0 (by simp)
      have hg1 : ∀ w', Wr.grownBy w' none → w'.cell? ⟨W.heap.size + 3, 1, none⟩ = some (.int .i64 (en : Int)) := fun w' hg => hg.cell g1 (by simp)
      have hg2 : ∀ w', Wr.grownBy w' none → w'.cell? ⟨W.heap.size + 3, 2, none⟩ = some (.int .i64 (en : Int)) := fun w' hg => hg.cell g2 (by simp)
      clear e0 e1 e2 g0 g1 g2
      gi_wp2_with fail
      refine wpIn_region_quiet_rlit (F := Fence.wide) (C := fun w' => Wr.grownBy w' none) rfl (by kernel_rfl) (by kernel_rfl) (by kernel_rfl) (grown_drew' Wr none) ?_
      repeat (refine wpQuietIn_step (fun _ _ _ _ => trivial) (fun K hK => ?_); go_simp; first | (refine hK _ ?_; clear hK K) | (refine ⟨_, fun _ _ => rfl, hK _ ?_⟩; clear hK K))
      refine wpQuietIn_step (fun _ _ _ _ => trivial) (fun K hK => ?_)
      go_simp
      refine ⟨.agg #[.int .i64 (ph : Int), .int .i64 (a : Int), .int .i64 (b : Int)], fun w' hw' => (by simp [hq0 w' hw', hq1 w' hw', hq2 w' hw', Result.andThen]), hK _ ?_⟩
      clear hK K
      refine wpQuietIn_step (fun _ _ _ _ => trivial) (fun K hK => ?_)
      go_simp
      refine ⟨.agg #[.int .i64 3, .int .i64 (en : Int), .int .i64 (en : Int)], fun w' hw' => (by simp [hg0 w' hw', hg1 w' hw', hg2 w' hw', Result.andThen]), hK _ ?_⟩
      clear hK K
      refine wpQuietIn_step (fun _ _ _ _ => trivial) (fun K hK => ?_)
      go_simp
      have i1 : ((ph : Int) = 3) ↔ ph = 3 := by omega
      have i2 : ((a : Int) = (en : Int)) ↔ a = en := by omega
      have i3 : ((b : Int) = (en : Int)) ↔ b = en := by omega
      refine ⟨.bool (decide (ph = 3 ∧ a = en ∧ b = en)), fun w' hw' => ?_, hK _ ?_⟩
      · simp only [i1, i2, i3]
        by_cases h1 : ph = 3 <;> by_cases h2 : a = en <;> by_cases h3 : b = en <;> simp [h1, h2, h3]
      clear hK K i1 i2 i3
      have Hdec : Hid (decide (ph = 3 ∧ a = en ∧ b = en) = true ↔ (ph, a, b) = (3, en, en)) := hide (by simp)
      generalize decide (ph = 3 ∧ a = en ∧ b = en) = y at *
      refine wpQuietIn_nil ?_
      intro w1 hw1
      cases y with
      | false =>
        have Hw1 := hide hw1
        clear hw1
        gi_wp2_with fail
        obtain ⟨hp1, hp2, hp3, hp4, hp5, hv, hu⟩ := unhide HP
        have hw1 := unhide Hw1
        refine ⟨⟨hw1.os, hw1.tape, hw1.output, hw1.size, fun k hk _ => hw1.block k hk (by simp), fun k hk => .inl hk⟩, fun x hx => ?_, (hw1.block _ (heap_lt hp2) (by simp)).trans hp2, (hw1.block _ (heap_lt hp3) (by simp)).trans hp3, (hw1.block _ (heap_lt hp4) (by simp)).trans hp4, hp5.trans hw1⟩
        rcases List.mem_append.1 hx with hx | hx
        · exact hp1 x hx
        · rw [List.mem_singleton] at hx
          subst hx
          exact fun e => absurd ((unhide Hdec).2 e) (by simp)
      | true =>
        have HTx := hide (vtext (F := F) (gate := gate) (beh := beh) (s0 := s0) (N := N) (w := w1) ((unhide HP).2.2.2.2.2.1.kv (Kv.of_grown hw1)) (by have := (unhide HP).2.2.2.2.2.2; omega))
        have Hw1 := hide hw1
        clear hw1
        gi_wp2_with fail
        refine ⟨trivial, (CallsIn.inRound l' (callsIn_wide.2 (unhide HTx))).mono ?_⟩
        rintro e w2 ⟨rfl, hw2⟩
        obtain ⟨hp1, hp2, hp3, hp4, hp5, hv, hu⟩ := unhide HP
        have hw12 := (unhide Hw1).trans hw2
        have q2 := (hw12.block _ (heap_lt hp2) (by simp)).trans hp2
        have q3 := (hw12.block _ (heap_lt hp3) (by simp)).trans hp3
        have x2 := cellOf q2 0
        have x3 := cellOf q3 0
        have y2 := frozenOf q2 0
        have y3 := frozenOf q3 0
        simp at x2 x3
        have H2 := hide (And.intro hw12 (And.intro q2 q3))
        clear hp1 hp2 hp3 hp4 hp5 hv hu hw12 hw2 q2 q3
        gi_wp2_with fail
        obtain ⟨hp1, hp2, hp3, hp4, hp5, hv, hu⟩ := unhide HP
        obtain ⟨hw12, q2, q3⟩ := unhide H2
        have far : ∀ k, k ≠ W.heap.size + 1 → k ≠ W.heap.size + 2 → ((w2.setCell ⟨W.heap.size + 1, 0, none⟩ (.string (txt u))).setCell ⟨W.heap.size + 2, 0, none⟩ (.bool true)).heap[k]? = w2.heap[k]? := fun k h1 h2 => (Below.heap_setCell _ _ _ _ h2).trans (Below.heap_setCell _ _ _ _ h1)
        have hsz9 : ((w2.setCell ⟨W.heap.size + 1, 0, none⟩ (.string (txt u))).setCell ⟨W.heap.size + 2, 0, none⟩ (.bool true)).heap.size = w2.heap.size := by simp [World.setCell]
        have z1 : ((w2.setCell ⟨W.heap.size + 1, 0, none⟩ (.string (txt u))).setCell ⟨W.heap.size + 2, 0, none⟩ (.bool true)).heap[W.heap.size + 1]? = some (.cells #[.string (txt u)] 9 (0, 0)) := (Below.heap_setCell _ _ _ _ (show W.heap.size + 1 ≠ W.heap.size + 2 by omega)).trans (by simpa using heap_set q2 0 (.string (txt u)))
        have z2 : ((w2.setCell ⟨W.heap.size + 1, 0, none⟩ (.string (txt u))).setCell ⟨W.heap.size + 2, 0, none⟩ (.bool true)).heap[W.heap.size + 2]? = some (.cells #[.bool true] 4 (0, 0)) := by
          have q3' : (w2.setCell ⟨W.heap.size + 1, 0, none⟩ (.string (txt u))).heap[W.heap.size + 2]? = some (.cells #[.bool false] 4 (0, 0)) := (Below.heap_setCell _ _ _ _ (show W.heap.size + 2 ≠ W.heap.size + 1 by omega)).trans q3
          simpa using heap_set q3' 0 (.bool true)
        have hwy := hv.way
        rw [(unhide Hdec).1 (by first | rfl | trivial)] at hwy
        refine ⟨⟨hw12.os, hw12.tape, hw12.output, by rw [hsz9]; exact hw12.size, fun k hk hn => (far k (fun e => hn (.inl e)) (fun e => hn (.inr e))).trans (hw12.block k hk (by simp)), fun k hk => .inl hk⟩, u, ⟨hwy, hu⟩, z1, z2, ?_⟩
        have hpw := hp5.trans hw12
        exact ⟨hpw.os, hpw.tape, hpw.output, by rw [hsz9]; exact hpw.size, fun k hk hn => (far k (by omega) (by omega)).trans (hpw.block k hk hn)⟩
    case done =>
      rintro D xs W9 hD hS9 ⟨hp1, hp2, hp3, hp4, hp5⟩ hK
      have x2 := cellOf hp2 0
      have x3 := cellOf hp3 0
      have y2 := frozenOf hp2 0
      have y3 := frozenOf hp3 0
      simp at x2 x3
      have HP := hide (And.intro hp1 (And.intro hp2 (And.intro hp3 (And.intro hp5 (And.intro hS9 hK)))))
      clear hp1 hp2 hp3 hp4 hp5 hS9
      gi_wp2_with fail
      obtain ⟨hp1, hp2, hp3, hp5, hS9, hK⟩ := unhide HP
      have hD1 : D ≠ W.heap.size + 1 := by omega
      have hD2 : D ≠ W.heap.size + 2 := by omega
      refine ⟨by simp, .inl ⟨_, _, rfl, run_takeDeferred ((Below.heap_setCell _ _ _ _ hD2).trans ((Below.heap_setCell _ _ _ _ hD1).trans hK)), ?_⟩⟩
      have z1 : ((W9.setCell ⟨W.heap.size + 1, 0, none⟩ (.string ⟨#[]⟩)).setCell ⟨W.heap.size + 2, 0, none⟩ (.bool false)).heap[W.heap.size + 1]? = some (.cells #[.string ⟨#[]⟩] 9 (0, 0)) := (Below.heap_setCell _ _ _ _ (show W.heap.size + 1 ≠ W.heap.size + 2 by omega)).trans (by simpa using heap_set hp2 0 (.string ⟨#[]⟩))
      have z2 : ((W9.setCell ⟨W.heap.size + 1, 0, none⟩ (.string ⟨#[]⟩)).setCell ⟨W.heap.size + 2, 0, none⟩ (.bool false)).heap[W.heap.size + 2]? = some (.cells #[.bool false] 4 (0, 0)) := by
        have q3' : (W9.setCell ⟨W.heap.size + 1, 0, none⟩ (.string ⟨#[]⟩)).heap[W.heap.size + 2]? = some (.cells #[.bool false] 4 (0, 0)) := (Below.heap_setCell _ _ _ _ (show W.heap.size + 2 ≠ W.heap.size + 1 by omega)).trans hp3
        simpa using heap_set q3' 0 (.bool false)
      have far : ∀ k, k ≠ W.heap.size + 1 → k ≠ W.heap.size + 2 → ((W9.setCell ⟨W.heap.size + 1, 0, none⟩ (.string ⟨#[]⟩)).setCell ⟨W.heap.size + 2, 0, none⟩ (.bool false)).heap[k]? = W9.heap[k]? := fun k h1 h2 => (Below.heap_setCell _ _ _ _ h2).trans (Below.heap_setCell _ _ _ _ h1)
      have hsz9 : ((W9.setCell ⟨W.heap.size + 1, 0, none⟩ (.string ⟨#[]⟩)).setCell ⟨W.heap.size + 2, 0, none⟩ (.bool false)).heap.size = W9.heap.size := by simp [World.setCell]
      have ho : ((W9.setCell ⟨W.heap.size + 1, 0, none⟩ (.string ⟨#[]⟩)).setCell ⟨W.heap.size + 2, 0, none⟩ (.bool false)).os = W9.os := rfl
      have ht : ((W9.setCell ⟨W.heap.size + 1, 0, none⟩ (.string ⟨#[]⟩)).setCell ⟨W.heap.size + 2, 0, none⟩ (.bool false)).tape = W9.tape := rfl
      have hu : ((W9.setCell ⟨W.heap.size + 1, 0, none⟩ (.string ⟨#[]⟩)).setCell ⟨W.heap.size + 2, 0, none⟩ (.bool false)).output = W9.output := rfl
      generalize ((W9.setCell ⟨W.heap.size + 1, 0, none⟩ (.string ⟨#[]⟩)).setCell ⟨W.heap.size + 2, 0, none⟩ (.bool false)) = W10 at *
      have hq1 := (World.putObj_heap_other (w := W10) (r := D) (o := .deferred none) (k := W.heap.size + 1) (by omega)).trans z1
      have hq2 := (World.putObj_heap_other (w := W10) (r := D) (o := .deferred none) (k := W.heap.size + 2) (by omega)).trans z2
      have c1 := cellOf hq1 0
      have c2 := cellOf hq2 0
      simp at c1 c2
      refine ⟨.tuple #[.string ⟨#[]⟩, .bool false], ?_, ?_⟩
      · simp [results, Tryz.f157, go_sem, c1, c2]
      · refine ⟨[], false, rfl, fun h => (by cases h), fun _ => ⟨rfl, fun u' hw => ?_⟩, ⟨ho.trans hp5.os, ht.trans hp5.tape, hu.trans hp5.output, by simp [World.putObj, hsz9]; exact hp5.size, fun k hk hn => (World.putObj_heap_other (by have := hp5.size; omega)).trans ((far k (by omega) (by omega)).trans (hp5.block k hk hn))⟩⟩
        obtain ⟨x, hx, he⟩ := List.mem_map.1 (hS9 u' _ hw)
        exact hp1 x hx he
    case stop =>
      rintro D pre W9 hD hS9 ⟨u, hw, hp2, hp3, hp5⟩ hK
      have HP := hide (And.intro hw (And.intro hp2 (And.intro hp3 hp5)))
      clear hw hp2 hp3 hp5 hS9
      gi_wp2_with fail
      refine ⟨by simp, .inl ⟨_, _, rfl, run_takeDeferred hK, ?_⟩⟩
      obtain ⟨hw, hp2, hp3, hp5⟩ := unhide HP
      have hq1 := (World.putObj_heap_other (w := W9) (r := D) (o := .deferred none) (k := W.heap.size + 1) (by omega)).trans hp2
      have hq2 := (World.putObj_heap_other (w := W9) (r := D) (o := .deferred none) (k := W.heap.size + 2) (by omega)).trans hp3
      have c1 := cellOf hq1 0
      have c2 := cellOf hq2 0
      simp at c1 c2
      refine ⟨.tuple #[.string (txt u), .bool true], ?_, ?_⟩
      · simp [results, Tryz.f157, go_sem, c1, c2]
      · exact ⟨u, true, rfl, fun _ => hw, fun h => (by cases h), ⟨hp5.os, hp5.tape, hp5.output, by simp [World.putObj]; exact hp5.size, fun k hk hn => (World.putObj_heap_other (by have := hp5.size; omega)).trans (hp5.block k hk hn)⟩⟩
  | panic => exact hq.elim
  | ret => cases hq.1
  | exit => cases hq.1
  | goto => cases hq.1
  | outgrown => cases hq.1

end Go.Proofs.YtlljggefbngkeaaGreatDoor

namespace Go.Proofs.YtlljggefbngkeaaGreatDoor
open Go.RowKit

/-- a machine and its search -/
structure SE (w0 w : World) (mb sb gate beh : Nat) (S : List MSt) (st en : Nat) : Prop where
  m : MH w (fun k => k < w0.heap.size ∨ k = sb) mb S st en
  s : w.heap[sb]? = some (seblk mb gate beh)
  lo : w0.heap.size ≤ sb
  gr : w0.grownBy w none

def NewPost (w : World) (e : Ending) (w' : World) : Prop := ∃ mb sb, e = .returned (.pointer (some ⟨sb, 0, none⟩)) ∧ SE w w' mb sb 0 0 [⟨[], 0, []⟩] 0 0

theorem SE.of_kp {w0 w w' : World} {mb sb gate beh : Nat} {S S' : List MSt} {st en st' en' : Nat} (h : SE w0 w mb sb gate beh S st en) (hm : MH w' (fun k => k < w0.heap.size ∨ k = sb) mb S' st' en') (hk : Kp (fun k => k < w0.heap.size ∨ k = sb) w w') : SE w0 w' mb sb gate beh S' st' en' where
  m := hm
  s := (hk.block sb (heap_lt h.s) (.inr rfl)).trans h.s
  lo := h.lo
  gr := ⟨hk.os.trans h.gr.os, hk.tape.trans h.gr.tape, hk.output.trans h.gr.output, Nat.le_trans h.gr.size hk.size, fun k hl hn => (hk.block k (Nat.lt_of_lt_of_le hl h.gr.size) (.inl hl)).trans (h.gr.block k hl hn)⟩

theorem SE.lt {w0 w : World} {mb sb gate beh : Nat} {S : List MSt} {st en : Nat} (h : SE w0 w mb sb gate beh S st en) : ∀ k, k < w0.heap.size ∨ k = sb → k < w.heap.size := fun k hk => by
  rcases hk with hk | hk
  · exact Nat.lt_of_lt_of_le hk h.gr.size
  · subst hk; exact heap_lt h.s

theorem SE.below {w0 w : World} {mb sb gate beh : Nat} {S : List MSt} {st en : Nat} (h : SE w0 w mb sb gate beh S st en) : Below w0.heap.size w0 w := ⟨h.gr.os, h.gr.tape, h.gr.output, h.gr.size, fun k hk => h.gr.block k hk (by simp)⟩

theorem SE.setG {w0 w : World} {mb sb gate beh : Nat} {S : List MSt} {st en : Nat} (h : SE w0 w mb sb gate beh S st en) (i x gate' beh' : Nat) (hi : (i = 1 ∧ gate' = x ∧ beh' = beh) ∨ (i = 2 ∧ gate' = gate ∧ beh' = x)) : SE w0 (w.setCell ⟨sb, i, none⟩ (.int .i64 (x : Int))) mb sb gate' beh' S st en where
  m := h.m.grown (grown_set w sb i _) (fun k e => by injection e with e; exact .inr e.symm)
  s := by
    have := heap_set h.s i (.int .i64 (x : Int))
    rcases hi with ⟨rfl, rfl, rfl⟩ | ⟨rfl, rfl, rfl⟩ <;> simpa [seblk] using this
  lo := h.lo
  gr := by
    have hg := grown_set w sb i (.int .i64 (x : Int))
    exact ⟨hg.os.trans h.gr.os, hg.tape.trans h.gr.tape, hg.output.trans h.gr.output, Nat.le_trans h.gr.size hg.size, fun k hk hn => (hg.block k (Nat.lt_of_lt_of_le hk h.gr.size) (fun e => by injection e with e; have := h.lo; omega)).trans (h.gr.block k hk hn)⟩

theorem SE.cells {w0 w : World} {mb sb gate beh : Nat} {S : List MSt} {st en : Nat} (h : SE w0 w mb sb gate beh S st en) : w.cell? ⟨sb, 0, none⟩ = some (.pointer (some ⟨mb, 0, none⟩)) ∧ w.cell? ⟨sb, 1, none⟩ = some (.int .i64 (gate : Int)) ∧ w.cell? ⟨sb, 2, none⟩ = some (.int .i64 (beh : Int)) ∧ w.cell? ⟨mb, 2, none⟩ = some (.int .i64 (en : Int)) ∧ (∀ o, w.frozen? ⟨sb, o, none⟩ = false) :=
  ⟨by rw [cellOf h.s 0]; rfl, by rw [cellOf h.s 1]; rfl, by rw [cellOf h.s 2]; rfl, h.m.c.2.1, fun o => frozenOf h.s o⟩

theorem SE.setE {w0 w : World} {mb sb gate beh : Nat} {S : List MSt} {st en : Nat} (h : SE w0 w mb sb gate beh S st en) (x : Nat) : SE w0 (w.setCell ⟨mb, 2, none⟩ (.int .i64 (x : Int))) mb sb gate beh S st x where
  m := h.m.setSE x st x (.inr ⟨rfl, rfl, rfl⟩)
  s := (Below.heap_setCell _ _ _ _ (fun e => h.m.nb (.inr e.symm))).trans h.s
  lo := h.lo
  gr := by
    have hg := grown_set w mb 2 (.int .i64 (x : Int))
    exact ⟨hg.os.trans h.gr.os, hg.tape.trans h.gr.tape, hg.output.trans h.gr.output, Nat.le_trans h.gr.size hg.size, fun k hk hn => (hg.block k (Nat.lt_of_lt_of_le hk h.gr.size) (fun e => by injection e with e; exact h.m.nb (.inl (by rw [← e]; exact hk)))).trans (h.gr.block k hk hn)⟩

set_option maxRecDepth 100000 in
set_option maxHeartbeats 1600000 in
theorem snew (w : World) : Calls Tryz.prog 156 #[] w fun e w' => NewPost w e w' := by
  have hM0 : MH ((w.alloc (mblk (.slice none 0 0) 0 0)).alloc (seblk w.heap.size 0 0)) (fun k => k < w.heap.size ∨ k = w.heap.size + 1) w.heap.size [] 0 0 := by
    refine ⟨.slice none 0 0, [], ?_⟩
    exact {
      blk := heap_alloc_old _ (heap_alloc_new w _)
      own := World.ownsRow_nil _ _ _ _
      free := fun j q hq => by simp at hq
      nb := fun h => by rcases h with h | h <;> omega
      np := fun k hk => by cases hk }
  have hE0 : SE w ((w.alloc (mblk (.slice none 0 0) 0 0)).alloc (seblk w.heap.size 0 0)) w.heap.size (w.heap.size + 1) 0 0 [] 0 0 := ⟨hM0, alloc2_at w _ _, by omega, (World.grownBy_alloc w _ none).trans (World.grownBy_alloc _ _ none)⟩
  have HA := hide (MAdd ⟨[], 0, []⟩ 0 (.slice none 0 0) setRep_nil hM0.drew (by simp) (World.ownsRow_nil _ _ _ _) (fun k hk => by cases hk) (fun k hk => by simp; rcases hk with hk | hk <;> omega))
  have HE := hide hE0
  obtain ⟨c0, _, _, c2, cf⟩ := hE0.cells
  clear hM0 hE0
  go_enter Tryz.func156, Tryz.ntmps156
  go_wp2_with fail
  have c0' : ((w.alloc (mblk (.slice none 0 0) 0 0)).alloc (seblk w.heap.size 0 0)).cell? ⟨w.heap.size + 1, 0, none⟩ = some (.pointer (some ⟨w.heap.size, 0, none⟩)) := c0
  go_region_held3 (fun w' => w'.cell? ⟨w.heap.size + 1, 0, none⟩ = some (.pointer (some ⟨w.heap.size, 0, none⟩))) (go_keep) (first
    | (go_at_call 140; refine (unhide HA).mono ?_; rintro e w1 ⟨rfl, hM1, hK1⟩; have hE1 := SE.of_kp (unhide HE) hM1 ((Kp.drew _ _).trans hK1); have d0 := hE1.cells.1; have d2 := hE1.m.c.2.1; have df := hE1.m.c.2.2 2; have H1 := hide hE1; clear hM1 hK1 hE1))
  go_wp2
  go_ret
  exact ⟨w.heap.size, w.heap.size + 1, rfl, (unhide H1).setE 0⟩

theorem Fl.len {S : List MSt} (h : Fl S) : ∀ x, freeLen S x ≤ 1000 := freeLen_of h

theorem tw_good {ta tb : PT} (hsa : stSize ta ≤ 1000) (hsb : stSize tb ≤ 1000) {F : List MSt} {gate beh start : Nat} (h : twM ta tb = (F, gate, beh, start)) : Cl F F.length ∧ (∀ x, freeLen F x ≤ 1000) ∧ F.length ≤ 4000 ∧ beh < F.length ∧ start < F.length := by
  unfold twM at h
  simp only at h
  generalize hb : mLay tb [⟨[], 0, []⟩] 0 = q at h
  generalize ha : mLay ta (q.1 ++ [⟨[], 0, []⟩]) q.1.length = r at h
  have e1 : r.1 = F := congrArg (·.1) h
  have e2 : q.2 = beh := congrArg (·.2.2.1) h
  have e3 : r.2 = start := congrArg (·.2.2.2) h
  have l1 := mLay_len tb [⟨[], 0, []⟩] 0
  have l2 := mLay_len ta (q.1 ++ [⟨[], 0, []⟩]) q.1.length
  have x1 := mLay_ext tb [⟨[], 0, []⟩] 0
  have x2 := mLay_ext ta (q.1 ++ [⟨[], 0, []⟩]) q.1.length
  rw [hb] at l1 x1
  rw [ha] at l2 x2
  have y1 := x1.1
  have y2 := x2.1
  simp at l1 l2 y1 y2
  have z0 : Cl [⟨[], 0, []⟩] r.1.length := fun j p hp => by
    cases j with
    | succ j => simp at hp
    | zero =>
      simp at hp
      subst hp
      exact ⟨by show 0 < r.1.length; omega, fun x hx => (by cases hx)⟩
  have c1 := mLay_cl tb [⟨[], 0, []⟩] 0 r.1.length z0 (by omega) (by rw [hb]; omega)
  rw [hb] at c1
  have c2 := mLay_cl ta (q.1 ++ [⟨[], 0, []⟩]) q.1.length r.1.length (c1.1.app (by show 0 < r.1.length; omega) (fun x hx => (by cases hx))) (by omega) (by rw [ha]; exact Nat.le_refl _)
  rw [ha] at c2
  have f1 := mLay_fl tb [⟨[], 0, []⟩] 0 (fun q hq => by rw [List.mem_singleton] at hq; subst hq; simp) hsb
  rw [hb] at f1
  have f2 := mLay_fl ta (q.1 ++ [⟨[], 0, []⟩]) q.1.length (f1.app (by simp)) hsa
  rw [ha] at f2
  subst e1 e2 e3
  exact ⟨c2.1, f2.len, by omega, c1.2, c2.2⟩

/-- what PartedTwice answers -/
def PTPost (W : World) (ta tb : PT) (e : Ending) (w' : World) : Prop :=
  ∃ (u : List UInt8) (f : Bool), e = .returned (.tuple #[.string (txt u), .bool f]) ∧ (f = true → Twice ta tb u ∧ u.length ≤ 100000000) ∧ (f = false → u = [] ∧ ∀ s, ¬ Twice ta tb s) ∧ W.grownBy w' none

set_option maxRecDepth 100000 in
set_option maxHeartbeats 3200000 in
theorem parted {W : World} {Y : Nat → Prop} {ta tb : PT} {pa pb : Nat} (hTa : TR W Y ta pa) (hTb : TR W Y tb pb) (oka : okRep ta) (okb : okRep tb) (hsa : stSize ta ≤ 1000) (hsb : stSize tb ≤ 1000) (hT : Tab W) :
    Calls Tryz.prog 137 #[.pointer (some ⟨pa, 0, none⟩), .pointer (some ⟨pb, 0, none⟩)] W fun e w' => PTPost W ta tb e w' := by
  have hTa0 : TR W (fun _ => False) ta pa := TR.reY (fun _ _ h => h.elim) hTa
  have hTb0 : TR W (fun _ => False) tb pb := TR.reY (fun _ _ h => h.elim) hTb
  have HN := hide (snew W)
  have HA := hide (And.intro hTa0 (And.intro hTb0 (And.intro oka (And.intro okb hT))))
  clear hTa hTb hTa0 hTb0 oka okb hT
  go_enter Tryz.func137, Tryz.ntmps137
  go_wp2_with fail
  refine (unhide HN).mono ?_
  rintro e w1 ⟨mb, sb, rfl, hE1⟩
  obtain ⟨c0, c1, c2, c3, cf⟩ := hE1.cells
  have cf2 := cf 2
  have HL := hide (mlay (w0 := W) (b := mb) tb (unhide HA).2.2.2.1 w1.drew (fun k => k < W.heap.size ∨ k = sb) [⟨[], 0, []⟩] 0 0 0 pb (unhide HA).2.1 (fun k hk => .inl hk) hE1.below.drew hE1.lt hE1.m.drew (by simp; omega))
  have H1 := hide hE1
  clear hE1 cf
  go_wp2_with fail
  go_region_held3 (fun w' => w'.cell? ⟨sb, 0, none⟩ = some (.pointer (some ⟨mb, 0, none⟩)) ∧ w'.cell? ⟨mb, 2, none⟩ = some (.int .i64 ((0 : Nat) : Int))) (go_keep) (first
    | (go_at_call 141; refine (unhide HL).mono ?_; rintro e w2 ⟨rfl, hM2, hK2⟩; have hE2 := SE.of_kp (unhide H1) hM2 ((Kp.drew _ _).trans hK2); have d0 := hE2.cells.1; have d2 := hE2.cells.2.2.1; have d3 := hE2.cells.2.2.2.1; have df := hE2.cells.2.2.2.2 2; have hE3 := hE2.setG 2 (mLay tb [⟨[], 0, []⟩] 0).2 0 (mLay tb [⟨[], 0, []⟩] 0).2 (.inr ⟨rfl, rfl, rfl⟩); have t0 := hE3.cells.1; have t3 := hE3.cells.2.2.2.1; have H3 := hide hE3; clear hM2 hK2 hE2 hE3))
  have hl1 := mLay_len tb [⟨[], 0, []⟩] 0
  simp only [List.length_cons, List.length_nil] at hl1
  have hE3 := unhide H3
  generalize hq : mLay tb [⟨[], 0, []⟩] 0 = qb at *
  have Hq := hide hq
  obtain ⟨S1, beh⟩ := qb
  simp only at hE3 hl1 ⊢
  clear hq H3 t0 t3 d0 d2 d3 df HL H1 c0 c1 c2 c3 cf2
  generalize w2.setCell ⟨sb, 2, none⟩ (.int .i64 (beh : Int)) = w3 at *
  obtain ⟨c0, c1, c2, c3, cf⟩ := hE3.cells
  have cf1 := cf 1
  have HL := hide (MAdd ⟨[], 0, []⟩ 0 (.slice none 0 0) setRep_nil hE3.m (by omega) (World.ownsRow_nil _ _ _ _) (fun k hk => by cases hk) hE3.lt)
  have H1 := hide hE3
  clear hE3 cf
  go_wp2_with fail
  refine (unhide HL).mono ?_
  rintro e w4 ⟨rfl, hM2, hK2⟩
  have hE2 := SE.of_kp (unhide H1) hM2 hK2
  have d0 := hE2.cells.1
  have d2 := hE2.cells.2.1
  have df := hE2.cells.2.2.2.2 1
  have hE3 := hE2.setG 1 S1.length S1.length beh (.inl ⟨rfl, rfl, rfl⟩)
  have t0 := hE3.cells.1
  have t1 := hE3.cells.2.1
  have HL := hide (fun w' (hd : ∃ n, w' = (w4.setCell ⟨sb, 1, none⟩ (.int .i64 (S1.length : Int))).drewN n) => mlay (w0 := W) (b := mb) ta (unhide HA).2.2.1 w' (fun k => k < W.heap.size ∨ k = sb) (S1 ++ [⟨[], 0, []⟩]) S1.length 0 0 pa (unhide HA).1 (fun k hk => .inl hk) (by obtain ⟨n, rfl⟩ := hd; exact ⟨hE3.below.os, hE3.below.tape, hE3.below.output, hE3.below.size, hE3.below.block⟩) (by obtain ⟨n, rfl⟩ := hd; exact hE3.lt) (by obtain ⟨n, rfl⟩ := hd; exact hE3.m.drewN n) (by simp; omega))
  have H3 := hide hE3
  clear hM2 hK2 hE2 hE3 H1 c0 c1 c2 c3 cf1
  go_wp2_with fail
  generalize hqa : mLay ta (S1 ++ [⟨[], 0, []⟩]) S1.length = qa at *
  have Hqa := hide hqa
  clear hqa
  obtain ⟨F, start⟩ := qa
  simp only at HL
  go_region_held3 (fun w' => w'.cell? ⟨sb, 0, none⟩ = some (.pointer (some ⟨mb, 0, none⟩)) ∧ w'.cell? ⟨sb, 1, none⟩ = some (.int .i64 (S1.length : Int))) (go_keep) (first
    | (go_at_call 141; refine (unhide HL _ ⟨1, rfl⟩).mono ?_; rintro e w6 ⟨rfl, hM6, hK6⟩; have hE6 := SE.of_kp (unhide H3) hM6 ((Kp.drewN _ _ 1).trans hK6); have u0 := hE6.cells.1; have u1 := hE6.cells.2.1; have H6 := hide hE6; clear hM6 hK6 hE6))
  have htw : twM ta tb = (F, S1.length, beh, start) := by
    unfold twM
    simp only [unhide Hq, unhide Hqa]
  have hE6 := unhide H6
  obtain ⟨hTa, hTb, oka, okb, hT⟩ := unhide HA
  obtain ⟨f1, f2, f3, f4, f5⟩ := tw_good hsa hsb htw
  have hT6 : Tab w6 := fun j hj => by rw [World.cell?_of_block (a := ⟨1, j, none⟩) (hE6.gr.block _ hT.lt (by simp))]; exact hT j hj
  have HS := hide (sshortest (wm := w6) (Br := w6.heap.size) (s0 := (0, start, start)) (hE6.m.reY (fun k hk e => by omega)) f1 f2 f3 f4 ⟨by show 0 < 4; decide, f5, f5⟩ (Kp.refl _ _) hE6.s hT6)
  have HR := hide (And.intro htw (And.intro hE6.gr (And.intro oka okb)))
  clear HL t0 t1 d0 d2 df hE6 hTa hTb oka okb hT f1 f2 f3 f4 f5 hT6 htw u0 u1
  unfold pval at HS
  go_wp2_with fail
  refine (unhide HS).mono ?_
  rintro e w7 ⟨u, f, rfl, h1, h2, hg7⟩
  have H7 := hide (And.intro h1 (And.intro h2 hg7))
  clear h1 h2 hg7 HS
  go_wp2
  go_ret2
  obtain ⟨htw, hg6, oka, okb⟩ := unhide HR
  obtain ⟨h1, h2, hg7⟩ := unhide H7
  have key : ∀ s, Way F S1.length beh (0, start, start) s (3, 0, 0) ↔ Twice ta tb s := fun s => by
    have := tw_spec oka okb s
    rw [htw] at this
    exact this
  exact ⟨u, f, rfl, fun hf => ⟨(key u).1 (h1 hf).1, (h1 hf).2⟩, fun hf => ⟨(h2 hf).1, fun s hs => (h2 hf).2 s ((key s).2 hs)⟩, hg6.trans hg7⟩

end Go.Proofs.YtlljggefbngkeaaGreatDoor

namespace Go.Proofs.YtlljggefbngkeaaGreatDoor
open Go.RowKit

theorem sh_good {tp tq : PT} (hsp : stSize tp ≤ 1000) (hsq : stSize tq ≤ 1000) {F : List MSt} {a b : Nat} (h : shM tp tq = (F, a, b)) : Cl F F.length ∧ (∀ x, freeLen F x ≤ 1000) ∧ F.length ≤ 4000 ∧ 0 < F.length ∧ a < F.length ∧ b < F.length := by
  unfold shM at h
  simp only at h
  generalize hb : mLay tp [⟨[], 0, []⟩] 0 = q at h
  generalize ha : mLay tq q.1 0 = r at h
  have e1 : r.1 = F := congrArg (·.1) h
  have e2 : q.2 = a := congrArg (·.2.1) h
  have e3 : r.2 = b := congrArg (·.2.2) h
  have l1 := mLay_len tp [⟨[], 0, []⟩] 0
  have l2 := mLay_len tq q.1 0
  have x1 := mLay_ext tp [⟨[], 0, []⟩] 0
  have x2 := mLay_ext tq q.1 0
  rw [hb] at l1 x1
  rw [ha] at l2 x2
  have y1 := x1.1
  have y2 := x2.1
  simp at l1 l2 y1 y2
  have z0 : Cl [⟨[], 0, []⟩] r.1.length := fun j p hp => by
    cases j with
    | succ j => simp at hp
    | zero =>
      simp at hp
      subst hp
      exact ⟨by show 0 < r.1.length; omega, fun x hx => (by cases hx)⟩
  have c1 := mLay_cl tp [⟨[], 0, []⟩] 0 r.1.length z0 (by omega) (by rw [hb]; omega)
  rw [hb] at c1
  have c2 := mLay_cl tq q.1 0 r.1.length c1.1 (by omega) (by rw [ha]; exact Nat.le_refl _)
  rw [ha] at c2
  have f1 := mLay_fl tp [⟨[], 0, []⟩] 0 (fun q hq => by rw [List.mem_singleton] at hq; subst hq; simp) hsp
  rw [hb] at f1
  have f2 := mLay_fl tq q.1 0 f1 hsq
  rw [ha] at f2
  subst e1 e2 e3
  exact ⟨c2.1, f2.len, by omega, by omega, c1.2, c2.2⟩

/-- what Shared answers -/
def SrPost (W : World) (tp tq : PT) (e : Ending) (w' : World) : Prop :=
  ∃ (u : List UInt8) (f : Bool), e = .returned (.tuple #[.string (txt u), .bool f]) ∧ (f = true → (M tp u ∧ M tq u) ∧ u.length ≤ 100000000) ∧ (f = false → u = [] ∧ ∀ s, ¬ (M tp s ∧ M tq s)) ∧ W.grownBy w' none

set_option maxRecDepth 100000 in
set_option maxHeartbeats 3200000 in
theorem shared_ {W : World} {Y : Nat → Prop} {tp tq : PT} {pp pq : Nat} (hTp : TR W Y tp pp) (hTq : TR W Y tq pq) (okp : okRep tp) (okq : okRep tq) (hsp : stSize tp ≤ 1000) (hsq : stSize tq ≤ 1000) (hT : Tab W) :
    Calls Tryz.prog 134 #[.pointer (some ⟨pp, 0, none⟩), .pointer (some ⟨pq, 0, none⟩)] W fun e w' => SrPost W tp tq e w' := by
  have hTp0 : TR W (fun _ => False) tp pp := TR.reY (fun _ _ h => h.elim) hTp
  have hTq0 : TR W (fun _ => False) tq pq := TR.reY (fun _ _ h => h.elim) hTq
  have HN := hide (snew W)
  have HA := hide (And.intro hTp0 (And.intro hTq0 (And.intro okp (And.intro okq hT))))
  clear hTp hTq hTp0 hTq0 okp okq hT
  go_enter Tryz.func134, Tryz.ntmps134
  go_wp2_with fail
  refine (unhide HN).mono ?_
  rintro e w1 ⟨mb, sb, rfl, hE1⟩
  obtain ⟨c0, c1, c2, c3, cf⟩ := hE1.cells
  have hl1 := mLay_len tp [⟨[], 0, []⟩] 0
  simp only [List.length_cons, List.length_nil] at hl1
  have HL := hide (mlay (w0 := W) (b := mb) tp (unhide HA).2.2.1 w1.drew (fun k => k < W.heap.size ∨ k = sb) [⟨[], 0, []⟩] 0 0 0 pp (unhide HA).1 (fun k hk => .inl hk) hE1.below.drew hE1.lt hE1.m.drew (by simp; omega))
  have H1 := hide hE1
  clear hE1 cf
  generalize hq : mLay tp [⟨[], 0, []⟩] 0 = qb at *
  have Hq := hide hq
  clear hq
  obtain ⟨S1, a⟩ := qb
  simp only at HL hl1
  generalize hq2 : mLay tq S1 0 = qc at *
  have Hq2 := hide hq2
  clear hq2
  obtain ⟨F, b⟩ := qc
  have Htw : Hid (shM tp tq = (F, a, b)) := hide (by unfold shM; simp only [unhide Hq, unhide Hq2])
  have Hsh : Hid (∀ w3, SE W w3 mb sb 0 0 F 0 0 → Calls Tryz.prog 157 #[.pointer (some ⟨sb, 0, none⟩), .agg #[.int .i64 3, .int .i64 (a : Int), .int .i64 (b : Int)]] w3 fun e w' => ShPost w3 F 0 0 (3, a, b) 0 e w') := hide (fun w3 hE3 => by
    obtain ⟨f1, f2, f3, f4, f5, f6⟩ := sh_good hsp hsq (unhide Htw)
    have hT := (unhide HA).2.2.2.2
    have hT3 : Tab w3 := fun j hj => by rw [World.cell?_of_block (a := ⟨1, j, none⟩) (hE3.gr.block _ hT.lt (by simp))]; exact hT j hj
    exact sshortest (wm := w3) (Br := w3.heap.size) (s0 := (3, a, b)) (hE3.m.reY (fun k hk e => by omega)) f1 f2 f3 f4 ⟨by show 3 < 4; decide, f5, f6⟩ (Kp.refl _ _) hE3.s hT3)
  go_wp2_with fail
  go_region_held3 (fun w' => w'.cell? ⟨sb, 0, none⟩ = some (.pointer (some ⟨mb, 0, none⟩)) ∧ w'.cell? ⟨mb, 2, none⟩ = some (.int .i64 ((0 : Nat) : Int))) (go_keep) (first
    | (go_at_call 141; refine (unhide HL).mono ?_; rintro e w2 ⟨rfl, hM2, hK2⟩; have hE2 := SE.of_kp (unhide H1) hM2 ((Kp.drew _ _).trans hK2); have d0 := hE2.cells.1; have d3 := hE2.cells.2.2.2.1; have HL2 := hide (mlay (w0 := W) (b := mb) tq (unhide HA).2.2.2.1 w2 (fun k => k < W.heap.size ∨ k = sb) S1 0 0 0 pq (unhide HA).2.1 (fun k hk => .inl hk) hE2.below hE2.lt hE2.m (by omega)); rw [unhide Hq2] at HL2; have H2 := hide hE2; clear hM2 hK2 hE2 HL)
    | (go_at_call 141; refine (unhide HL2).mono ?_; rintro e w3 ⟨rfl, hM3, hK3⟩; have hE3 := SE.of_kp (unhide H2) hM3 hK3; have t0 := hE3.cells.1; have t3 := hE3.cells.2.2.2.1; have HS := hide (unhide Hsh w3 hE3); have H3 := hide hE3; clear hM3 hK3 hE3)
    | (go_at_call 157; refine (unhide HS).mono ?_; rintro e w4 ⟨u, f, rfl, h1, h2, hg4⟩; have v0 := hg4.cell t0 (by simp); have v3 := hg4.cell t3 (by simp); have H4 := hide (And.intro h1 (And.intro h2 hg4)); clear h1 h2 hg4))
  all_goals
    go_wp2
    go_ret2
    obtain ⟨h1, h2, hg4⟩ := unhide H4
    obtain ⟨hTp, hTq, okp, okq, hT⟩ := unhide HA
    have key : ∀ s, Way F 0 0 (3, a, b) s (3, 0, 0) ↔ M tp s ∧ M tq s := fun s => by
      have := sh_spec okp okq 0 0 s
      rw [unhide Htw] at this
      exact this
    exact ⟨u, f, rfl, fun hf => ⟨(key u).1 (h1 hf).1, (h1 hf).2⟩, fun hf => ⟨(h2 hf).1, fun s hs => (h2 hf).2 s ((key s).2 hs)⟩, (unhide H3).gr.trans hg4⟩

end Go.Proofs.YtlljggefbngkeaaGreatDoor
