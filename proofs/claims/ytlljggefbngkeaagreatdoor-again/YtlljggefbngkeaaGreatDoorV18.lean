import Derived.Test.YtlljggefbngkeaaGreatDoorV15
import Derived.BigRegionIn
import Derived.Test.YtlljggefbngkeaaGreatDoorV17
import Derived.Test.YtlljggefbngkeaaGreatDoorV16
import Derived.Deep.RegionHeld3
import Derived.Test.YtlljggefbngkeaaGreatDoorV13
import Derived.Test.YtlljggefbngkeaaGreatDoorV06
namespace Go.Proofs.YtlljggefbngkeaaGreatDoor
open Go.RowKit Go.Shelf
attribute [local go_sem] Oper.semAt_some

/-- what is asked of Holds -/
def HoldsPost (W : World) (t : PT) (text : ByteArray) (e : Ending) (w' : World) : Prop := ∃ x : Bool, e = .returned (.bool x) ∧ (x = true ↔ M t text.data.toList) ∧ W.grownBy w' none
def HoldsSaid : Prop := ∀ (W : World) (Y : Nat → Prop) (t : PT) (p : Nat) (text : ByteArray), TR W Y t p → okRep t → stSize t ≤ 1000 → text.size ≤ 1000 →
  Calls Tryz.prog 83 #[.pointer (some ⟨p, 0, none⟩), .string text] W fun e w' => HoldsPost W t text e w'

/-- a lens's own default -/
def ownD : LT → List (List PT × List UInt8 × Nat)
  | .fixed l _ _ _ d a => [(l, d, a)]
  | _ => []

mutual
theorem dflts_subs : ∀ t, (subs t).flatMap ownD = dflts t
  | .same l i j => by simp [subs, ownD, dflts]
  | .fixed l i j v d a => by simp [subs, ownD, dflts]
  | .swap at_ a b => by rw [subs, List.flatMap_cons, List.flatMap_append, dflts_subs a, dflts_subs b, dflts]; rfl
  | .group a => by rw [subs, List.flatMap_cons, dflts_subs a, dflts]; rfl
  | .many at_ a => by rw [subs, List.flatMap_cons, dflts_subs a, dflts]; rfl
  | .row l ps => by rw [subs, List.flatMap_cons, dfltsL_subs l, dflts]; rfl
  | .choice l ps => by rw [subs, List.flatMap_cons, dfltsL_subs l, dflts]; rfl
theorem dfltsL_subs : ∀ l, (subsL l).flatMap ownD = dfltsL l
  | [] => by rw [subsL, dfltsL]; rfl
  | t :: l => by rw [subsL, List.flatMap_append, dflts_subs t, dfltsL_subs l, dfltsL]
end

def dOf (pre : List (Nat × LT)) : List (List PT × List UInt8 × Nat) := (pre.map Prod.snd).flatMap ownD
theorem dOf_snoc (pre : List (Nat × LT)) (x : Nat × LT) : dOf (pre ++ [x]) = dOf pre ++ ownD x.2 := by simp [dOf]

/-- whether a text is one of a pattern's, as a value -/
theorem holdsB (t : PT) (d : List UInt8) : ∃ x : Bool, x = true ↔ M t d := by
  by_cases h : M t d
  · exact ⟨true, fun _ => h, fun _ => rfl⟩
  · exact ⟨false, fun e => (by cases e), fun e => absurd e h⟩
theorem holdsB_of {t : PT} {d : List UInt8} {x y : Bool} (hy : y = true ↔ M t d) (h : x = true ↔ M t (txt d).data.toList) : x = y := by
  rw [Bool.eq_iff_iff, hy]
  simpa [txt] using h

/-- the first wrong default, and whether there is one -/
def WdPost (t : LT) (w : World) (e : Ending) (w' : World) : Prop :=
  w.grownBy w' none ∧ ∃ o, FirstW (dflts t) o ∧ match o with
    | none => e = .returned (.tuple #[.int .i64 0, .bool false])
    | some a => e = .returned (.tuple #[.int .i64 (a : Int), .bool true])

def WdI (w : World) (pre : List (Nat × LT)) (W : World) : Prop :=
  FirstW (dOf pre) none ∧ W.heap[w.heap.size]? = some (.cells #[.int .i64 0] 3 (0, 0)) ∧ W.heap[w.heap.size + 1]? = some (.cells #[.bool false] 4 (0, 0)) ∧ Below w.heap.size w W
def WdX (w : World) (pre : List (Nat × LT)) (W : World) : Prop :=
  ∃ a : Nat, FirstW (dOf pre) (some a) ∧ W.heap[w.heap.size]? = some (.cells #[.int .i64 (a : Int)] 3 (0, 0)) ∧ W.heap[w.heap.size + 1]? = some (.cells #[.bool true] 4 (0, 0)) ∧ Below w.heap.size w W
def fpW (w : World) (_ : World) (k : Nat) : Prop := k = w.heap.size ∨ k = w.heap.size + 1

set_option maxRecDepth 100000 in
set_option maxHeartbeats 3200000 in
theorem lwrong (hH : HoldsSaid) {s : ByteArray} {w : World} {Y : Nat → Prop} {t : LT} {g : Nat} (hR : LR s w Y t g) (hfl : (form s t).length ≤ 1000 ∧ LOk t) :
    Calls Tryz.prog 53 #[.pointer (some ⟨g, 0, none⟩)] w fun e w' => WdPost t w e w' := by
  refine (callsIn_wide (n := 3)).1 ?_
  refine callsIn_of_wp_marks Tryz.func53 rfl trivial ?_ rfl
  simp only [Tryz.ntmps53, List.size_toArray, List.length_cons, List.length_nil, Nat.reduceAdd, Nat.reduceSub, Array.replicate_succ, Array.replicate_zero, List.push_toArray, List.append_toArray, List.nil_append, List.cons_append]
  gi_wp2_with fail
  refine ⟨trivial, (lall 2 g _).mono ?_⟩
  rintro e w' ⟨rfl, rfl⟩
  gi_wp2_with fail
  have hs3 : (((w.alloc (.cells #[.int .i64 0] 3)).alloc (.cells #[.bool false] 4)).alloc (.cells #[.pointer (some ⟨g, 0, none⟩)] 54)).heap.size = w.heap.size + 3 := by simp
  have hb1 : (((w.alloc (.cells #[.int .i64 0] 3)).alloc (.cells #[.bool false] 4)).alloc (.cells #[.pointer (some ⟨g, 0, none⟩)] 54)).heap[w.heap.size]? = some (.cells #[.int .i64 0] 3 (0, 0)) := heap_alloc_old _ (heap_alloc_old _ (heap_alloc_new w _))
  have hb2 : (((w.alloc (.cells #[.int .i64 0] 3)).alloc (.cells #[.bool false] 4)).alloc (.cells #[.pointer (some ⟨g, 0, none⟩)] 54)).heap[w.heap.size + 1]? = some (.cells #[.bool false] 4 (0, 0)) := heap_alloc_old _ (alloc2_at w _ _)
  have hb3 : (((w.alloc (.cells #[.int .i64 0] 3)).alloc (.cells #[.bool false] 4)).alloc (.cells #[.pointer (some ⟨g, 0, none⟩)] 54)).heap[w.heap.size + 2]? = some (.cells #[.pointer (some ⟨g, 0, none⟩)] 54 (0, 0)) := alloc3_at w _ _ _
  have hB0 : Below w.heap.size w (((w.alloc (.cells #[.int .i64 0] 3)).alloc (.cells #[.bool false] 4)).alloc (.cells #[.pointer (some ⟨g, 0, none⟩)] 54)) := (((Below.refl _ w).alloc (Nat.le_refl _) _).alloc (by simp) _).alloc (by simp; omega) _
  generalize hw3 : (((w.alloc (.cells #[.int .i64 0] 3)).alloc (.cells #[.bool false] 4)).alloc (.cells #[.pointer (some ⟨g, 0, none⟩)] 54)) = w3 at *
  have hfpw : ∀ A k, fpW w A k → w.heap.size ≤ k ∧ k < w.heap.size + 3 := fun A k hk => by rcases hk with h | h <;> omega
  have stab : ∀ A A', Fz w3.heap.size (fpW w) A A' → (∀ k x, A.heap[k]? = some x → k < w.heap.size + 3 → A'.heap[k]? = some x) := fun A A' hz k x hx hk => (hz.block k (heap_lt hx) (.inl (by omega))).trans hx
  have stabB : ∀ A A', Fz w3.heap.size (fpW w) A A' → Below w.heap.size w A → Below w.heap.size w A' := fun A A' hz hB => ⟨hz.os.trans hB.os, hz.tape.trans hB.tape, hz.output.trans hB.output, Nat.le_trans hB.size hz.size, fun k hk => (hz.block k (Nat.lt_of_lt_of_le hk hB.size) (.inl (by omega))).trans (hB.block k hk)⟩
  refine wpIn_rangeF (α := Nat × LT) rfl (by decide) (gf := 127) (lb := #[.pointer (some ⟨w.heap.size + 2, 0, none⟩)]) rfl trivial (enters_of Tryz.func127 (by kernel_rfl) rfl)
    (lall_seq (G := fun u => (form s u).length ≤ 1000 ∧ LOk u) (fun t u h hu => ⟨Nat.le_trans (form_parts s t u hu) h.1, h.2.part hu⟩) (fp := fpW w) (fun A k hk => (hfpw A k hk).1) hR hfl hB0 hb3) (fun _ => rfl)
    (WdI w) (WdX w)
    (fun pre A A' h hz => ⟨⟨h.1, stab A A' hz _ _ h.2.1 (by omega), stab A A' hz _ _ h.2.2.1 (by omega), stabB A A' hz h.2.2.2⟩, fun _ => Iff.rfl⟩)
    (fun pre A A' h hb hs ho ht hu => ?_)
    (fun pre A A' h hz => by
      obtain ⟨a, h1, h2, h3, h4⟩ := h
      exact ⟨a, h1, stab A A' hz _ _ h2 (by omega), stab A A' hz _ _ h3 (by omega), stabB A A' hz h4⟩)
    (fun pre A k _ hk => .inl (by have := hfpw A k hk; omega)) (fun hfr => by cases hfr)
    ⟨by rw [dOf]; rfl, hb1, hb2, hB0⟩
    (fun x => { tmps := #[.pointer (some ⟨g, 0, none⟩), undef, .pointer (some ⟨w.heap.size, 0, none⟩), .pointer (some ⟨w.heap.size + 1, 0, none⟩), .pointer (some ⟨x.1, 0, none⟩), .pointer (some ⟨g, 0, none⟩), .func (.func 127) #[] #[.pointer (some ⟨w.heap.size + 2, 0, none⟩)], .pointer (some ⟨x.1, 0, none⟩), undef, undef, undef, undef, undef, undef, undef, undef, undef, undef, undef, undef, undef, undef, undef, undef, undef, undef, undef, undef, undef], defers := [] }) ?assign ?body ?done ?stop
  · obtain ⟨a, h1, h2, h3, h4⟩ := h
    exact ⟨a, h1, (hb _ (heap_lt h2) (.inl (by omega))).trans h2, (hb _ (heap_lt h3) (.inl (by omega))).trans h3, ho.trans h4.os, ht.trans h4.tape, hu.trans h4.output, by rw [hs]; exact h4.size, fun k hk => (hb k (Nat.lt_of_lt_of_le hk h4.size) (.inl (by omega))).trans (h4.block k hk)⟩
  case assign =>
    intro l x W K hK
    simp only [encX]
    gi_wp2
    exact hK
  case body =>
    rintro l pre ⟨gx, tx⟩ W ⟨hF, hbW1, hbW2, hBW⟩ ⟨hX, hXl, hXo⟩ hWs
    simp only at *
    have HI := hide (And.intro hF (And.intro hbW1 (And.intro hbW2 (And.intro hBW hX))))
    have hmix : Tryz.prog.follows .mixedOrders = true := by kernel_rfl
    have hcell : ∀ (w' : World) (o : Nat) (x : Value), W.grownBy w' none → w.cell? ⟨gx, o, none⟩ = some x → gx < w.heap.size → w'.cell? ⟨gx, o, none⟩ = some x := fun w' o x hg hx hl => by
      have hh : w'.heap[gx]? = w.heap[gx]? := (hg.block gx (Nat.lt_of_lt_of_le hl hBW.size) (by simp)).trans (hBW.block gx hl)
      rw [World.cell?_of_block (a := ⟨gx, o, none⟩) hh]
      exact hx
    have hknd : (∃ br i j v d a, tx = .fixed br i j v d a) ∨ (ownD tx = [] ∧ ∃ kd : Int, w.cell? ⟨gx, 0, none⟩ = some (.int .i64 kd) ∧ gx < w.heap.size ∧ (kd == 1) = false) := by
      cases tx with
      | fixed br i j v d a => exact .inl ⟨br, i, j, v, d, a, rfl⟩
      | same br i j => rw [LR] at hX; obtain ⟨_, p, h1, _⟩ := hX; exact .inr ⟨rfl, 0, by rw [cellOf h1 0]; rfl, heap_lt h1, rfl⟩
      | swap at_ a b => rw [LR] at hX; obtain ⟨_, v, jv, ga, gb, h1, _⟩ := hX; exact .inr ⟨rfl, 2, by rw [cellOf h1 0]; rfl, heap_lt h1, rfl⟩
      | group a => rw [LR] at hX; obtain ⟨_, v, ga, h1, _⟩ := hX; exact .inr ⟨rfl, 3, by rw [cellOf h1 0]; rfl, heap_lt h1, rfl⟩
      | many at_ a => rw [LR] at hX; obtain ⟨_, v, jv, ga, h1, _⟩ := hX; exact .inr ⟨rfl, 4, by rw [cellOf h1 0]; rfl, heap_lt h1, rfl⟩
      | row ts ps => rw [LR] at hX; obtain ⟨_, v, jv, gs, h1, _⟩ := hX; exact .inr ⟨rfl, 5, by rw [cellOf h1 0]; rfl, heap_lt h1, rfl⟩
      | choice ts ps => rw [LR] at hX; obtain ⟨_, v, jv, gs, h1, _⟩ := hX; exact .inr ⟨rfl, 6, by rw [cellOf h1 0]; rfl, heap_lt h1, rfl⟩
    clear hF hbW1 hbW2 hBW hX hB0 hb1 hb2 hb3 stab stabB
    have Hcell := hide hcell
    clear hcell
    rcases hknd with ⟨br, i, j, v, d, a, rfl⟩ | ⟨ho, kd, c0, hgl, hq⟩
    · have hX := (unhide HI).2.2.2.2
      rw [LR] at hX
      obtain ⟨_, p, h1, hT⟩ := hX
      have hgl := heap_lt h1
      have hc0 : ∀ w', W.grownBy w' none → w'.cell? ⟨gx, 0, none⟩ = some (.int .i64 1) := fun w' hg => unhide Hcell w' 0 _ hg (by rw [cellOf h1 0]; rfl) hgl
      have hc3 : ∀ w', W.grownBy w' none → w'.cell? ⟨gx, 3, none⟩ = some (.pointer (some ⟨p, 0, none⟩)) := fun w' hg => unhide Hcell w' 3 _ hg (by rw [cellOf h1 3]; rfl) hgl
      have hc6 : ∀ w', W.grownBy w' none → w'.cell? ⟨gx, 6, none⟩ = some (.string (txt d)) := fun w' hg => unhide Hcell w' 6 _ hg (by rw [cellOf h1 6]; rfl) hgl
      have hc7 : ∀ w', W.grownBy w' none → w'.cell? ⟨gx, 7, none⟩ = some (.int .i64 (a : Int)) := fun w' hg => unhide Hcell w' 7 _ hg (by rw [cellOf h1 7]; rfl) hgl
      have HB := hide (unhide HI).2.2.2.1
      have HC := hide (fun (w' : World) (hg : W.grownBy w' none) => hH w' Y (nf (.alt br)) p (txt d) (TR.kept (fun k hk _ => (hg.block k (Nat.lt_of_lt_of_le hk (unhide HB).size) (by simp)).trans ((unhide HB).block k hk)) hT) (nf_ok _ (by rw [okRep]; exact hXo.self.1)) (Nat.le_trans (nf_size _) (by rw [stSize]; have h8 := hXo.self.2; omega)) (by rw [txt_size]; rw [form] at hXl; simp only [List.length_append, List.length_cons, List.length_nil] at hXl; omega))
      clear h1 hT Hcell
      gi_wp2_with fail
      refine wpIn_region_quiet_rlit (F := Fence.wide) (C := fun w' => W.grownBy w' none) rfl (by kernel_rfl) (by kernel_rfl) (by kernel_rfl) (grown_drew' W none) ?_
      repeat (refine wpQuietIn_step (fun _ _ _ _ => trivial) (fun K hK => ?_); go_simp; first | (refine hK _ ?_; clear hK K) | (refine ⟨_, fun _ _ => rfl, hK _ ?_⟩; clear hK K))
      refine wpQuietIn_step (fun _ _ _ _ => trivial) (fun K hK => ?_)
      go_simp
      refine ⟨.int .i64 1, fun w' hw' => (by rw [hc0 w' hw']; exact ⟨rfl, rfl⟩), hK _ ?_⟩
      clear hK K
      repeat (refine wpQuietIn_step (fun _ _ _ _ => trivial) (fun K hK => ?_); go_simp; first | (refine hK _ ?_; clear hK K) | (refine ⟨_, fun _ _ => rfl, hK _ ?_⟩; clear hK K))
      refine wpQuietIn_step (fun _ _ _ _ => trivial) (fun K hK => ?_)
      go_simp
      refine ⟨.pointer (some ⟨p, 0, none⟩), fun w' hw' => (by rw [hc3 w' hw']; exact ⟨rfl, rfl⟩), hK _ ?_⟩
      clear hK K
      repeat (refine wpQuietIn_step (fun _ _ _ _ => trivial) (fun K hK => ?_); go_simp; first | (refine hK _ ?_; clear hK K) | (refine ⟨_, fun _ _ => rfl, hK _ ?_⟩; clear hK K))
      refine wpQuietIn_step (fun _ _ _ _ => trivial) (fun K hK => ?_)
      go_simp
      refine ⟨.string (txt d), fun w' hw' => (by rw [hc6 w' hw']; exact ⟨rfl, rfl⟩), hK _ ?_⟩
      clear hK K
      refine wpQuietIn_step (fun _ _ _ _ => trivial) (fun K hK => ?_)
      go_simp
      obtain ⟨x, hxB⟩ := holdsB (nf (.alt br)) d
      refine ⟨.bool x, fun w' hw' => ?_, hK _ ?_⟩
      · refine callsIn_wide.2 ((unhide HC w' hw').mono ?_)
        rintro e w2 ⟨y, rfl, hx, hg2⟩
        refine ⟨by rw [holdsB_of hxB hx], hw'.trans hg2⟩
      clear hK K
      have Hspec := hide hxB
      clear hxB
      repeat (refine wpQuietIn_step (fun _ _ _ _ => trivial) (fun K hK => ?_); go_simp; first | (refine hK _ ?_; clear hK K) | (refine ⟨_, fun _ _ => rfl, hK _ ?_⟩; clear hK K))
      refine wpQuietIn_nil ?_
      intro w' hw'
      obtain ⟨hF, hbW1, hbW2, hBW, _⟩ := unhide HI
      have hk : ∀ k y, W.heap[k]? = some y → w'.heap[k]? = some y := fun k y hy => (hw'.block k (heap_lt hy) (by simp)).trans hy
      have hb1 := hk _ _ hbW1
      have hb2 := hk _ _ hbW2
      have hBw : Below w.heap.size w w' := ⟨hw'.os.trans hBW.os, hw'.tape.trans hBW.tape, hw'.output.trans hBW.output, Nat.le_trans hBW.size hw'.size, fun k hk' => (hw'.block k (Nat.lt_of_lt_of_le hk' hBW.size) (by simp)).trans (hBW.block k hk')⟩
      have e1 := cellOf hb1 0
      have e2 := cellOf hb2 0
      have f1 := frozenOf hb1 0
      have f2 := frozenOf hb2 0
      simp at e1 e2
      have HK := hide (And.intro hw' (And.intro hb1 (And.intro hb2 (And.intro hBw hF))))
      clear hk hb1 hb2 hBw hF hbW1 hbW2 hBW
      cases x with
      | true =>
        clear hw'
        gi_wp2_with fail
        obtain ⟨hw', hb1, hb2, hBw, hF⟩ := unhide HK
        refine ⟨⟨hw'.os, hw'.tape, hw'.output, hw'.size, fun k hk _ => hw'.block k hk (by simp), fun k hk => .inl hk⟩, ?_, hb1, hb2, hBw⟩
        rw [dOf_snoc]
        refine FirstW.app_none hF ?_
        show FirstW [(br, d, a)] none
        rw [FirstW]
        exact .inl ⟨(M_nf _ _).1 ((unhide Hspec).1 (by first | rfl | trivial)), rfl⟩
      | false =>
        have d7 := hc7 w' hw'
        clear hw'
        gi_wp2_with fail
        obtain ⟨hw', hb1, hb2, hBw, hF⟩ := unhide HK
        have far : ∀ k, k ≠ w.heap.size → k ≠ w.heap.size + 1 → ((w'.setCell ⟨w.heap.size, 0, none⟩ (.int .i64 (a : Int))).setCell ⟨w.heap.size + 1, 0, none⟩ (.bool true)).heap[k]? = w'.heap[k]? := fun k h1 h2 => (Below.heap_setCell _ _ _ _ h2).trans (Below.heap_setCell _ _ _ _ h1)
        have g1 := heap_set hb1 0 (.int .i64 (a : Int))
        have g2 := heap_set ((Below.heap_setCell w' ⟨w.heap.size, 0, none⟩ (.int .i64 (a : Int)) (w.heap.size + 1) (by simp)).trans hb2) 0 (.bool true)
        have g1' := (Below.heap_setCell (w'.setCell ⟨w.heap.size, 0, none⟩ (.int .i64 (a : Int))) ⟨w.heap.size + 1, 0, none⟩ (.bool true) w.heap.size (by simp)).trans g1
        have hsz : ((w'.setCell ⟨w.heap.size, 0, none⟩ (.int .i64 (a : Int))).setCell ⟨w.heap.size + 1, 0, none⟩ (.bool true)).heap.size = w'.heap.size := by simp [World.setCell]
        refine ⟨⟨hw'.os, hw'.tape, hw'.output, by rw [hsz]; exact hw'.size, fun k hk hn => ?_, fun k hk => .inl hk⟩, a, ?_, by simpa using g1', by simpa using g2, ⟨hBw.os, hBw.tape, hBw.output, by rw [hsz]; exact hBw.size, fun k hk => (far k (by omega) (by omega)).trans (hBw.block k hk)⟩⟩
        · exact (far k (fun e => hn (.inl e)) (fun e => hn (.inr e))).trans (hw'.block k hk (by simp))
        · rw [dOf_snoc]
          refine FirstW.app_none hF ?_
          show FirstW [(br, d, a)] (some a)
          rw [FirstW]
          exact .inr ⟨fun hM => (by have h9 := (unhide Hspec).2 ((M_nf _ _).2 hM); simp at h9), rfl⟩
    · have hc : ∀ w', W.grownBy w' none → w'.cell? ⟨gx, 0, none⟩ = some (.int .i64 kd) := fun w' hg => unhide Hcell w' 0 _ hg c0 hgl
      gi_wp2_with fail
      refine wpIn_region_quiet_rlit (F := Fence.wide) (C := fun w' => W.grownBy w' none) rfl (by kernel_rfl) (by kernel_rfl) (by kernel_rfl) (grown_drew' W none) ?_
      repeat (refine wpQuietIn_step (fun _ _ _ _ => trivial) (fun K hK => ?_); go_simp; first | (refine hK _ ?_; clear hK K) | (refine ⟨_, fun _ _ => rfl, hK _ ?_⟩; clear hK K))
      refine wpQuietIn_step (fun _ _ _ _ => trivial) (fun K hK => ?_)
      go_simp
      refine ⟨.int .i64 kd, fun w' hw' => (by rw [hc w' hw']; exact ⟨rfl, rfl⟩), hK _ ?_⟩
      clear hK K
      repeat (refine wpQuietIn_step (fun _ _ _ _ => trivial) (fun K hK => ?_); go_simp; first | (refine hK _ ?_; clear hK K) | (refine ⟨_, fun _ _ => rfl, hK _ ?_⟩; clear hK K))
      refine wpQuietIn_nil ?_
      intro w' hw'
      gi_wp2_with fail
      obtain ⟨hF, hbW1, hbW2, hBW, _⟩ := unhide HI
      refine ⟨⟨hw'.os, hw'.tape, hw'.output, hw'.size, fun k hk _ => hw'.block k hk (by simp), fun k hk => .inl hk⟩, ?_, (hw'.block _ (heap_lt hbW1) (by simp)).trans hbW1, (hw'.block _ (heap_lt hbW2) (by simp)).trans hbW2, ⟨hw'.os.trans hBW.os, hw'.tape.trans hBW.tape, hw'.output.trans hBW.output, Nat.le_trans hBW.size hw'.size, fun k hk' => (hw'.block k (Nat.lt_of_lt_of_le hk' hBW.size) (by simp)).trans (hBW.block k hk')⟩⟩
      rw [dOf_snoc, ho, List.append_nil]
      exact hF
  case done =>
    rintro D xs W hD hS ⟨hF, h1, h2, hB⟩ hK
    have e1 := cellOf h1 0
    have e2 := cellOf h2 0
    have f1 := frozenOf h1 0
    have f2 := frozenOf h2 0
    simp at e1 e2
    have HI := hide (And.intro hF (And.intro h1 (And.intro h2 (And.intro hB (And.intro hS hK)))))
    clear hF h1 h2 hB hS
    gi_wp2_with fail
    obtain ⟨hF, h1, h2, hB, hS, hK⟩ := unhide HI
    have hDs : D ≠ w.heap.size ∧ D ≠ w.heap.size + 1 := by omega
    refine ⟨by simp, .inl ⟨_, _, rfl, run_takeDeferred ((Below.heap_setCell _ _ _ _ hDs.2).trans ((Below.heap_setCell _ _ _ _ hDs.1).trans hK)), ?_⟩⟩
    have g1 := heap_set h1 0 (.int .i64 0)
    have g2 := heap_set ((Below.heap_setCell W ⟨w.heap.size, 0, none⟩ (.int .i64 0) (w.heap.size + 1) (by simp)).trans h2) 0 (.bool false)
    have g1' := (Below.heap_setCell (W.setCell ⟨w.heap.size, 0, none⟩ (.int .i64 0)) ⟨w.heap.size + 1, 0, none⟩ (.bool false) w.heap.size (by simp)).trans g1
    have far : ∀ k, k ≠ w.heap.size → k ≠ w.heap.size + 1 → ((W.setCell ⟨w.heap.size, 0, none⟩ (.int .i64 0)).setCell ⟨w.heap.size + 1, 0, none⟩ (.bool false)).heap[k]? = W.heap[k]? := fun k h1 h2 => (Below.heap_setCell _ _ _ _ h2).trans (Below.heap_setCell _ _ _ _ h1)
    have hsz : ((W.setCell ⟨w.heap.size, 0, none⟩ (.int .i64 0)).setCell ⟨w.heap.size + 1, 0, none⟩ (.bool false)).heap.size = W.heap.size := by simp [World.setCell]
    have ho : ((W.setCell ⟨w.heap.size, 0, none⟩ (.int .i64 0)).setCell ⟨w.heap.size + 1, 0, none⟩ (.bool false)).os = W.os := rfl
    have ht : ((W.setCell ⟨w.heap.size, 0, none⟩ (.int .i64 0)).setCell ⟨w.heap.size + 1, 0, none⟩ (.bool false)).tape = W.tape := rfl
    have hu : ((W.setCell ⟨w.heap.size, 0, none⟩ (.int .i64 0)).setCell ⟨w.heap.size + 1, 0, none⟩ (.bool false)).output = W.output := rfl
    generalize ((W.setCell ⟨w.heap.size, 0, none⟩ (.int .i64 0)).setCell ⟨w.heap.size + 1, 0, none⟩ (.bool false)) = W5 at *
    have hp1 := (World.putObj_heap_other (w := W5) (r := D) (o := .deferred none) (k := w.heap.size) (by omega)).trans g1'
    have hp2 := (World.putObj_heap_other (w := W5) (r := D) (o := .deferred none) (k := w.heap.size + 1) (by omega)).trans g2
    have q1 := cellOf hp1 0
    have q2 := cellOf hp2 0
    simp at q1 q2
    refine ⟨.tuple #[.int .i64 0, .bool false], ?_, ?_⟩
    · simp [results, Tryz.f53, go_sem, q1, q2]
    · refine ⟨⟨ho.trans hB.os, ht.trans hB.tape, hu.trans hB.output, by simp [World.putObj, hsz]; exact hB.size, fun k hk _ => ?_⟩, none, ?_, rfl⟩
      · exact (World.putObj_heap_other (by omega)).trans ((far k (by omega) (by omega)).trans (hB.block k hk))
      · rw [← dflts_subs t, ← hS]
        exact hF
  case stop =>
    rintro D pre W hD ⟨r, hr⟩ ⟨a, hF, h1, h2, hB⟩ hK
    have hDs : D ≠ w.heap.size ∧ D ≠ w.heap.size + 1 := by omega
    have HI := hide (And.intro hF (And.intro h1 (And.intro h2 (And.intro hB (And.intro hr hK)))))
    clear hF h1 h2 hB
    gi_wp2_with fail
    refine ⟨by simp, .inl ⟨_, _, rfl, run_takeDeferred hK, ?_⟩⟩
    obtain ⟨hF, h1, h2, hB, hr, hK⟩ := unhide HI
    have hp1 := (World.putObj_heap_other (w := W) (r := D) (o := .deferred none) (k := w.heap.size) (by omega)).trans h1
    have hp2 := (World.putObj_heap_other (w := W) (r := D) (o := .deferred none) (k := w.heap.size + 1) (by omega)).trans h2
    have q1 := cellOf hp1 0
    have q2 := cellOf hp2 0
    simp at q1 q2
    refine ⟨.tuple #[.int .i64 (a : Int), .bool true], ?_, ?_⟩
    · simp [results, Tryz.f53, go_sem, q1, q2]
    · refine ⟨⟨hB.os, hB.tape, hB.output, by simp [World.putObj]; exact hB.size, fun k hk _ => ?_⟩, some a, ?_, rfl⟩
      · exact (World.putObj_heap_other (by omega)).trans (hB.block k hk)
      · rw [← dflts_subs t, ← hr, List.flatMap_append]
        exact FirstW.app_some hF

end Go.Proofs.YtlljggefbngkeaaGreatDoor

namespace Go.Proofs.YtlljggefbngkeaaGreatDoor
open Go.RowKit Go.Shelf
attribute [local go_sem] Oper.semAt_some

theorem freeLen_of {S : List MSt} (h : Fl S) (x : Nat) : freeLen S x ≤ 1000 := by
  unfold freeLen
  split
  · rename_i p hp
    exact h p (List.mem_of_getElem? hp)
  · exact Nat.zero_le _

theorem two_at (W : World) (o1 o2 : Obj) : ∃ w5, (W.alloc o1).alloc o2 = w5 ∧ w5.heap.size = W.heap.size + 2 ∧ w5.heap[W.heap.size]? = some o1 ∧ w5.heap[W.heap.size + 1]? = some o2 ∧ W.grownBy w5 none :=
  ⟨_, rfl, by simp, heap_alloc_old _ (heap_alloc_new W o1), alloc2_at W o1 o2, (World.grownBy_alloc W _ none).trans (World.grownBy_alloc _ _ none)⟩

theorem four_at (W : World) (o1 o2 o3 o4 : Obj) : ∃ w5, (((W.alloc o1).alloc o2).alloc o3).alloc o4 = w5 ∧ w5.heap.size = W.heap.size + 4 ∧ w5.heap[W.heap.size]? = some o1 ∧ w5.heap[W.heap.size + 1]? = some o2 ∧ w5.heap[W.heap.size + 2]? = some o3 ∧ w5.heap[W.heap.size + 3]? = some o4 ∧ W.grownBy w5 none := by
  obtain ⟨w3, h3, s3, a3, b3, g3⟩ := two_at W o1 o2
  obtain ⟨w5, h5, s5, a5, b5, g5⟩ := two_at w3 o3 o4
  refine ⟨w5, by rw [h3, h5], by omega, (g5.block _ (by omega) (by simp)).trans a3, (g5.block _ (by omega) (by simp)).trans b3, by rw [← s3]; exact a5, ?_, g3.trans g5⟩
  rw [show W.heap.size + 3 = w3.heap.size + 1 by omega]
  exact b5

def EndI (W : World) (R Bm b en : Nat) (pre : List Nat) (A : World) : Prop := (∀ x, x ∈ pre → x ≠ en) ∧ A.heap[R]? = some (.cells #[.bool false] 4 (0, 0)) ∧ A.heap[Bm]? = some (.cells #[.pointer (some ⟨b, 0, none⟩)] 120 (0, 0)) ∧ W.grownBy A none
def EndX (W : World) (R en : Nat) (pre : List Nat) (A : World) : Prop := en ∈ pre ∧ A.heap[R]? = some (.cells #[.bool true] 4 (0, 0)) ∧ W.grownBy A none

def EndedPost (W : World) (S : List MSt) (N0 : List Nat) (en : Nat) (e : Ending) (w' : World) : Prop := ∃ x : Bool, e = .returned (.bool x) ∧ (x = true ↔ ∃ a, a ∈ N0 ∧ Rch S a en) ∧ W.grownBy w' none

set_option maxRecDepth 100000 in
set_option maxHeartbeats 3200000 in
theorem mended {wm W : World} {Br b : Nat} {S : List MSt} {st en : Nat} {N0 : List Nat} {v : Value} (hM : MH wm (fun k => k = Br) b S st en) (hcl : Cl S S.length) (hfl : ∀ x, freeLen S x ≤ 1000) (hS : S.length ≤ 2000) (hB : Kp (fun k => k ≠ Br) wm W)
    (hv : W.ownsRow 0 3 1 v N0.length (nums N0)) (hv0 : N0 = [] → v = .slice none 0 0) (hN : N0.length ≤ 2000) (hN0 : ∀ a, a ∈ N0 → a < S.length) :
    Calls Tryz.prog 152 #[.pointer (some ⟨b, 0, none⟩), v] W fun e w' => EndedPost W S N0 en e w' := by
  obtain ⟨ao, cp, rfl⟩ := own_slice hv
  refine (callsIn_wide (n := 3)).1 ?_
  refine callsIn_of_wp_marks Tryz.func152 rfl trivial ?_ rfl
  simp only [Tryz.ntmps152, List.size_toArray, List.length_cons, List.length_nil, Nat.reduceAdd, Nat.reduceSub, Array.replicate_succ, Array.replicate_zero, List.push_toArray, List.append_toArray, List.nil_append, List.cons_append]
  gi_wp2_with fail
  refine ⟨trivial, (mreach 2 b ao N0.length cp _).mono ?_⟩
  rintro e w' ⟨rfl, rfl⟩
  gi_wp2_with fail
  obtain ⟨w5, hw5, hs5, h51, h52, h53, h54, hg5⟩ := four_at W (.cells #[.pointer (some ⟨b, 0, none⟩)] 120) (.cells #[.bool false] 4) (.cells #[.pointer (some ⟨b, 0, none⟩)] 120) (.cells #[.slice ao N0.length cp] 80)
  rw [hw5]
  simp only [Nat.add_assoc, Nat.reduceAdd]
  have hKp : Kp (fun k => k ≠ Br) wm w5 := hB.trans (Kp.of_grown hg5 (fun _ e => by cases e))
  have hv5 := own_same hv (fun k e => hg5.block k (own_lt hv k e) (by simp))
  have hsz := hB.size
  refine wpIn_rangeF (α := Nat) rfl (by decide) (gf := 178) (lb := #[.pointer (some ⟨W.heap.size + 2, 0, none⟩), .pointer (some ⟨W.heap.size + 3, 0, none⟩)]) rfl trivial (enters_of Tryz.func178 (by kernel_rfl) rfl)
    (reach_seq (fp := fun _ k => k = W.heap.size + 1) hM hcl hfl hS hKp (fun A k h => .inl (by omega)) (fun A h => by omega) h53 h54 hv5 hv0 hN hN0) (fun _ => rfl)
    (EndI W (W.heap.size + 1) W.heap.size b en) (EndX W (W.heap.size + 1) en)
    (fun pre A A' h hz => ⟨⟨h.1, (hz.block _ (heap_lt h.2.1) (.inr rfl)).trans h.2.1, (hz.block _ (heap_lt h.2.2.1) (.inl (by omega))).trans h.2.2.1,
      ⟨hz.os.trans h.2.2.2.os, hz.tape.trans h.2.2.2.tape, hz.output.trans h.2.2.2.output, Nat.le_trans h.2.2.2.size hz.size, fun k hk hn => (hz.block k (Nat.lt_of_lt_of_le hk h.2.2.2.size) (.inl (by omega))).trans (h.2.2.2.block k hk hn)⟩⟩, fun _ => Iff.rfl⟩)
    (fun pre A A' h hb hs ho ht hu => ⟨h.1, (hb _ (heap_lt h.2.1) (.inl (by omega))).trans h.2.1, ⟨ho.trans h.2.2.os, ht.trans h.2.2.tape, hu.trans h.2.2.output, by have := h.2.2.size; omega, fun k hk hn => (hb k (Nat.lt_of_lt_of_le hk h.2.2.size) (.inl (by omega))).trans (h.2.2.block k hk hn)⟩⟩)
    (fun pre A A' h hz => ⟨h.1, (hz.block _ (heap_lt h.2.1) (.inr rfl)).trans h.2.1, ⟨hz.os.trans h.2.2.os, hz.tape.trans h.2.2.tape, hz.output.trans h.2.2.output, Nat.le_trans h.2.2.size hz.size, fun k hk hn => (hz.block k (Nat.lt_of_lt_of_le hk h.2.2.size) (.inl (by omega))).trans (h.2.2.block k hk hn)⟩⟩)
    (fun pre A k h hk => .inl (by omega)) (fun _ pre A h k hk => by subst hk; exact heap_lt h.2.1)
    ⟨fun x hx => (by cases hx), h52, h51, hg5⟩
    ?a1 ?assign ?body ?done ?stop
  case assign =>
    intro l' x W K hK
    simp only [encN]
    gi_wp2
    exact hK
  case body =>
    rintro l' pre x Wr ⟨hp1, hp2, hp3, hp5⟩ ⟨hx1, _⟩ hWs
    obtain ⟨_, _, _, cen, _⟩ := hM.row (hB.trans (Kp.of_grown hp5 (fun _ e => by cases e)))
    have cb : Wr.cell? ⟨W.heap.size, 0, none⟩ = some (.pointer (some ⟨b, 0, none⟩)) := by rw [cellOf hp3 0]; rfl
    have cr : Wr.cell? ⟨W.heap.size + 1, 0, none⟩ = some (.bool false) := by rw [cellOf hp2 0]; rfl
    have fr := frozenOf hp2 0
    have HP := hide (And.intro hp1 (And.intro hp2 (And.intro hp3 hp5)))
    clear hp1 hp2 hp3 hp5
    by_cases hx0 : x = en
    · subst hx0
      gi_wp2_with fail
      obtain ⟨hp1, hp2, hp3, hp5⟩ := unhide HP
      have g1 := heap_set hp2 0 (.bool true)
      have hsz9 : (Wr.setCell ⟨W.heap.size + 1, 0, none⟩ (.bool true)).heap.size = Wr.heap.size := by simp [World.setCell]
      have far : ∀ k, k ≠ W.heap.size + 1 → (Wr.setCell ⟨W.heap.size + 1, 0, none⟩ (.bool true)).heap[k]? = Wr.heap[k]? := fun k hk => Below.heap_setCell _ _ _ _ hk
      exact ⟨⟨rfl, rfl, rfl, by rw [hsz9]; exact Nat.le_refl _, fun k _ hn => far k hn, fun k hk => .inl hk⟩, List.mem_append_right _ (List.mem_singleton.2 rfl), by simpa using g1, ⟨hp5.os, hp5.tape, hp5.output, by rw [hsz9]; exact hp5.size, fun k hk hn => (far k (by omega)).trans (hp5.block k hk hn)⟩⟩
    · have hd : ¬ ((x : Int) = (en : Int)) := by omega
      gi_wp2_with fail
      obtain ⟨hp1, hp2, hp3, hp5⟩ := unhide HP
      refine ⟨⟨rfl, rfl, rfl, Nat.le_refl _, fun k _ _ => rfl, fun k hk => .inl hk⟩, fun y hy => ?_, hp2, hp3, hp5⟩
      rcases List.mem_append.1 hy with hy | hy
      · exact hp1 y hy
      · rw [List.mem_singleton] at hy
        subst hy
        exact hx0
  case done =>
    rintro D xs W9 hD hS9 ⟨hp1, hp2, hp3, hp5⟩ hK
    have cr : W9.cell? ⟨W.heap.size + 1, 0, none⟩ = some (.bool false) := by rw [cellOf hp2 0]; rfl
    have fr := frozenOf hp2 0
    have HP := hide (And.intro hp1 (And.intro hp2 (And.intro hp5 (And.intro hS9 hK))))
    clear hp1 hp2 hp3 hp5 hS9
    gi_wp2_with fail
    obtain ⟨hp1, hp2, hp5, hS9, hK⟩ := unhide HP
    have hDs : D ≠ W.heap.size + 1 := by omega
    refine ⟨by simp, .inl ⟨_, _, rfl, run_takeDeferred ((Below.heap_setCell _ _ _ _ hDs).trans hK), ?_⟩⟩
    have g1 := heap_set hp2 0 (.bool false)
    have hsz9 : (W9.setCell ⟨W.heap.size + 1, 0, none⟩ (.bool false)).heap.size = W9.heap.size := by simp [World.setCell]
    have far : ∀ k, k ≠ W.heap.size + 1 → (W9.setCell ⟨W.heap.size + 1, 0, none⟩ (.bool false)).heap[k]? = W9.heap[k]? := fun k hk => Below.heap_setCell _ _ _ _ hk
    have ho : (W9.setCell ⟨W.heap.size + 1, 0, none⟩ (.bool false)).os = W9.os := rfl
    have ht : (W9.setCell ⟨W.heap.size + 1, 0, none⟩ (.bool false)).tape = W9.tape := rfl
    have hu : (W9.setCell ⟨W.heap.size + 1, 0, none⟩ (.bool false)).output = W9.output := rfl
    generalize (W9.setCell ⟨W.heap.size + 1, 0, none⟩ (.bool false)) = W10 at *
    have hq := (World.putObj_heap_other (w := W10) (r := D) (o := .deferred none) (k := W.heap.size + 1) (by omega)).trans g1
    have q1 := cellOf hq 0
    simp at q1
    refine ⟨.bool false, ?_, ?_⟩
    · simp [results, Tryz.f152, go_sem, q1]
    · refine ⟨false, rfl, ?_, ⟨ho.trans hp5.os, ht.trans hp5.tape, hu.trans hp5.output, by simp [World.putObj, hsz9]; exact hp5.size, fun k hk hn => (World.putObj_heap_other (by have := hp5.size; omega)).trans ((far k (by omega)).trans (hp5.block k hk hn))⟩⟩
      refine ⟨fun h => (by cases h), fun h => ?_⟩
      exact absurd rfl (hp1 en ((hS9 en).2 h))
  case stop =>
    rintro D pre W9 hD hS9 ⟨hp1, hp2, hp5⟩ hK
    have HP := hide (And.intro hp1 (And.intro hp2 (And.intro hp5 hS9)))
    clear hp1 hp2 hp5 hS9
    gi_wp2_with fail
    refine ⟨by simp, .inl ⟨_, _, rfl, run_takeDeferred hK, ?_⟩⟩
    obtain ⟨hp1, hp2, hp5, hS9⟩ := unhide HP
    have hq := (World.putObj_heap_other (w := W9) (r := D) (o := .deferred none) (k := W.heap.size + 1) (by omega)).trans hp2
    have q1 := cellOf hq 0
    simp at q1
    refine ⟨.bool true, ?_, ?_⟩
    · simp [results, Tryz.f152, go_sem, q1]
    · refine ⟨true, rfl, ?_, ⟨hp5.os, hp5.tape, hp5.output, by simp [World.putObj]; exact hp5.size, fun k hk hn => (World.putObj_heap_other (by have := hp5.size; omega)).trans (hp5.block k hk hn)⟩⟩
      exact ⟨fun _ => hS9 en hp1, fun _ => rfl⟩

end Go.Proofs.YtlljggefbngkeaaGreatDoor

namespace Go.Proofs.YtlljggefbngkeaaGreatDoor
open Go.RowKit Go.Shelf
attribute [local go_sem] Oper.semAt_some

/-- where Holds stands before byte k: the states that the text so far leads to -/
structure HoI (w3 : World) (S : List MSt) (st en : Nat) (text : ByteArray) (k : Nat) (v : Value) (wr : World) (N : List Nat) : Prop where
  own : wr.ownsRow 0 3 1 v N.length (nums N)
  nil : N = [] → v = .slice none 0 0
  len : N.length ≤ 2000
  lt : ∀ a, a ∈ N → a < S.length
  some : Some_ S [st] text.data.toList en ↔ Some_ S N (text.data.toList.drop k) en
  gr : w3.grownBy wr none

theorem HoI.fin {w3 : World} {S : List MSt} {st en : Nat} {text : ByteArray} {k : Nat} {v : Value} {wr : World} {N : List Nat} (h : HoI w3 S st en text k v wr N) (hk : k = text.size ∨ N = []) : (∃ k, GoN S k st text.data.toList en) ↔ ∃ a, a ∈ N ∧ Rch S a en := by
  have h1 := h.some
  rcases hk with rfl | rfl
  · have hd : text.data.toList.drop text.size = [] := List.drop_of_length_le (by rw [Array.length_toList]; exact Nat.le_refl _)
    rw [hd] at h1
    constructor
    · rintro ⟨k, hk⟩
      obtain ⟨a, ha, hr⟩ := h1.1 ⟨st, List.mem_singleton.2 rfl, k, hk⟩
      exact ⟨a, ha, hr⟩
    · rintro ⟨a, ha, hr⟩
      obtain ⟨s, hs, k, hk⟩ := h1.2 ⟨a, ha, hr⟩
      rw [List.mem_singleton] at hs
      subst hs
      exact ⟨k, hk⟩
  · constructor
    · rintro ⟨k, hk⟩
      obtain ⟨a, ha, _⟩ := h1.1 ⟨st, List.mem_singleton.2 rfl, k, hk⟩
      cases ha
    · rintro ⟨a, ha, _⟩
      cases ha

theorem HoI.next {w3 : World} {S : List MSt} {st en : Nat} {text : ByteArray} {k : Nat} {v v' : Value} {wr w4 : World} {N N' : List Nat} (h : HoI w3 S st en text k v wr N) (hk : k < text.size) (hcl : Cl S S.length) (hS : S.length ≤ 2000)
    (hown : w4.ownsRow 0 3 1 v' N'.length (nums N')) (hnil : N' = [] → v' = .slice none 0 0) (hst : Stepped S N text[k] N') (hlen : N'.length ≤ S.length) (hg : wr.grownBy w4 none) : HoI w3 S st en text (k + 1) v' w4 N' := {
  own := hown
  nil := hnil
  len := by omega
  lt := fun a ha => by
    obtain ⟨_, _, s, p, _, hp, _, rfl⟩ := (hst a).1 ha
    exact (hcl s p hp).1
  some := by
    have hlt : k < text.data.toList.length := by rw [Array.length_toList]; exact hk
    have hd : text.data.toList.drop k = text[k] :: text.data.toList.drop (k + 1) := by
      rw [List.drop_eq_getElem_cons hlt]
      rfl
    rw [h.some, hd]
    exact step_some hst _ _
  gr := h.gr.trans hg }

def MHoldsPost (W : World) (S : List MSt) (st en : Nat) (text : ByteArray) (e : Ending) (w' : World) : Prop := ∃ x : Bool, e = .returned (.bool x) ∧ (x = true ↔ ∃ k, GoN S k st text.data.toList en) ∧ W.grownBy w' none

set_option maxRecDepth 100000 in
set_option maxHeartbeats 3200000 in
theorem mholds {wm W : World} {Br b : Nat} {S : List MSt} {st en : Nat} {text : ByteArray} (hM : MH wm (fun k => k = Br) b S st en) (hcl : Cl S S.length) (hfl : ∀ x, freeLen S x ≤ 1000) (hS : S.length ≤ 2000) (hst : st < S.length) (hB : Kp (fun k => k ≠ Br) wm W) (hbr : b ≠ Br) (hts : text.size ≤ 1000000) :
    Calls Tryz.prog 129 #[.pointer (some ⟨b, 0, none⟩), .string text] W fun e w' => MHoldsPost W S st en text e w' := by
  have c1 : W.cell? ⟨b, 1, none⟩ = some (.int .i64 (st : Int)) := by
    obtain ⟨pv, xs, ho⟩ := hM
    rw [cellOf ((hB.block b (heap_lt ho.blk) (by simpa using hbr)).trans ho.blk) 1]
    rfl
  have hown : (W.alloc (.cells #[.int .i64 (st : Int)] 3)).ownsRow 0 3 1 (.slice (some ⟨W.heap.size, 0, none⟩) 1 1) 1 [.int .i64 (st : Int)] := by
    have := World.ownsRow_lit (base := 0) (e := 3) (size := 1) W #[.int .i64 (st : Int)] 1 (Nat.zero_le _) (by unfold maxLen; omega) rfl
    simpa using this
  have HI0 : Hid (HoI W S st en text 0 (.slice (some ⟨W.heap.size, 0, none⟩) 1 1) (W.alloc (.cells #[.int .i64 (st : Int)] 3)) [st]) := hide
    { own := by simpa [nums] using hown
      nil := fun h => by cases h
      len := by simp
      lt := fun a ha => by rw [List.mem_singleton] at ha; subst ha; exact hst
      some := by rw [List.drop_zero]
      gr := World.grownBy_alloc W _ none }
  have HM := hide (And.intro hM (And.intro hcl (And.intro hfl hB)))
  clear hM hcl hfl hB hown
  refine (callsIn_wide (n := 3)).1 ?_
  refine callsIn_of_wp Tryz.func129 rfl trivial ?_ rfl
  simp only [Tryz.ntmps129, List.size_toArray, List.length_cons, List.length_nil, Nat.reduceAdd, Nat.reduceSub, Array.replicate_succ, Array.replicate_zero, List.push_toArray, List.append_toArray, List.nil_append, List.cons_append]
  gi_wp2_with fail
  clear c1
  gi_loopw [5, 6] (fun v5 v6 wr => ∃ (k : Nat) (N : List Nat), v6 = .int .i64 (k : Int) ∧ k ≤ text.size ∧ HoI W S st en text k v5 wr N) (fun _ v6 _ => text.size - (Lib.intOf v6).toNat)
  case atStart => exact ⟨0, [st], rfl, Nat.zero_le _, unhide HI0⟩
  case round =>
    obtain ⟨k, N, rfl, hk, hI⟩ := hrel
    obtain ⟨vo, vc, rfl⟩ := own_slice hI.own
    obtain ⟨hM, hcl, hfl, hB⟩ := unhide HM
    have hKp : Kp (fun k => k ≠ Br) wm wr := hB.trans (Kp.of_grown hI.gr (fun _ e => by cases e))
    by_cases hfin : k = text.size ∨ N = []
    · have HE := hide (mended hM hcl hfl hS hKp hI.own hI.nil hI.len hI.lt)
      have HF := hide (And.intro (hI.fin hfin) hI.gr)
      have hq : ¬ ((k : Int) < (text.size : Int)) ∨ ((k : Int) < (text.size : Int)) ∧ N.length = 0 := by
        rcases hfin with rfl | rfl
        · exact .inl (by omega)
        · by_cases h : k < text.size
          · exact .inr ⟨by omega, rfl⟩
          · exact .inl (by omega)
      clear hM hcl hfl hB hKp hI hfin
      rcases hq with hd | ⟨hd, hn⟩
      · gi_wp2_with fail
        refine ⟨trivial, (callsIn_wide.2 (unhide HE)).mono ?_⟩
        rintro e w4 ⟨x, rfl, hx, hg⟩
        have HX := hide (And.intro hx hg)
        clear hx hg
        gi_wp2
        go_ret
        exact ⟨x, rfl, (unhide HX).1.trans (unhide HF).1.symm, (unhide HF).2.trans (unhide HX).2⟩
      · rw [hn] at HE ⊢
        gi_wp2_with fail
        refine ⟨trivial, (callsIn_wide.2 (unhide HE)).mono ?_⟩
        rintro e w4 ⟨x, rfl, hx, hg⟩
        have HX := hide (And.intro hx hg)
        clear hx hg
        gi_wp2
        go_ret
        exact ⟨x, rfl, (unhide HX).1.trans (unhide HF).1.symm, (unhide HF).2.trans (unhide HX).2⟩
    · have hlt : k < text.size := by
        have : k ≠ text.size := fun e => hfin (.inl e)
        omega
      have hN0 : 0 < N.length := List.length_pos_iff.2 (fun e => hfin (.inr e))
      have hd : (k : Int) < (text.size : Int) := by omega
      have hd2 : (0 : Int) < (N.length : Int) := by omega
      have HS := hide (mstep hM hcl hfl hS hKp hI.own hI.nil hI.len hI.lt text[k])
      have HI := hide hI
      have HC := hide hcl
      clear hI hM hcl hfl hB hKp hfin
      gi_wp2_with fail
      refine ⟨trivial, (callsIn_wide.2 (unhide HS)).mono ?_⟩
      rintro e w4 ⟨v4, N4, rfl, r1, r2, r3, r4, r5, _⟩
      have HN := hide ((unhide HI).next hlt (unhide HC) hS r1 r2 r3 r4 r5)
      clear r1 r2 r3 r4 r5 HS
      gi_wp2_with fail
      go_roundw
      case rel => exact ⟨k + 1, N4, by simp, by omega, unhide HN⟩
      case measure => simp [Lib.intOf]; omega

end Go.Proofs.YtlljggefbngkeaaGreatDoor

namespace Go.Proofs.YtlljggefbngkeaaGreatDoor
open Go.RowKit Go.Shelf

set_option maxRecDepth 100000 in
set_option maxHeartbeats 1600000 in
theorem holds_said : HoldsSaid := by
  intro W Y t p text hT hok hsz hts
  have hsp := mBuild_spec hok
  have hcl := mBuild_cl t
  have hfl := freeLen_of (mBuild_fl hsz)
  have hln := mBuild_len hsz
  have HBd := hide (mbuild hT hok hsz)
  clear hT
  go_enter Tryz.func83, Tryz.ntmps83
  go_wp2_with fail
  refine (unhide HBd).mono ?_
  rintro e w1 ⟨b, rfl, hM1, hg1⟩
  generalize mBuild t = pr at *
  obtain ⟨S, st⟩ := pr
  simp only at hsp hcl hfl hln hM1
  have hM : MH w1 (fun k => k = w1.heap.size) b S st 0 := hM1.reY (fun k hk e => by omega)
  have HH := hide (mholds (text := text) hM hcl.1 hfl hln hcl.2.1 (Kp.refl _ _) (by have := hM1.lt; omega) (by omega))
  have H1 := hide (And.intro hsp hg1)
  clear hsp hcl hfl hM1 hM HBd hg1
  go_wp2_with fail
  refine (unhide HH).mono ?_
  rintro e w2 ⟨x, rfl, hx, hg2⟩
  have H2 := hide (And.intro hx hg2)
  clear hx hg2 HH
  go_wp2
  go_ret
  obtain ⟨hsp, hg1⟩ := unhide H1
  obtain ⟨hx, hg2⟩ := unhide H2
  exact ⟨x, rfl, hx.trans (hsp _), hg1.trans hg2⟩

end Go.Proofs.YtlljggefbngkeaaGreatDoor

namespace Go.Proofs.YtlljggefbngkeaaGreatDoor
open Go.RowKit

/-- what the program's read answers -/
def GReadPost (s : ByteArray) (w : World) (e : Ending) (w' : World) (r : Res (List LT × List Nat)) : Prop :=
  w.grownBy w' none ∧ match r with
    | .err p => e = .returned (.tuple #[.pointer none, .int .i64 2, .int .i64 (p : Int)])
    | .ok x j => (j < s.size ∧ e = .returned (.tuple #[.pointer none, .int .i64 2, .int .i64 (j : Int)])) ∨
      (j = s.size ∧ ∃ o, FirstW (dfltsL x.1) o ∧ match o with
        | some a => e = .returned (.tuple #[.pointer none, .int .i64 3, .int .i64 (a : Int)])
        | none => ∃ g, e = .returned (.tuple #[.pointer (some ⟨g, 0, none⟩), .int .i64 0, .int .i64 0]) ∧ LR s w' (fun k => k < w.heap.size) (joinAlt x.1 x.2) g)

set_option maxRecDepth 100000 in
set_option maxHeartbeats 1600000 in
theorem gread_short (hH : HoldsSaid) (s : ByteArray) (w : World) (hs : s.size ≤ 120) :
    Calls Tryz.prog 41 #[.string s] w fun e w' => GReadPost s w e w' (gRows s (6 * s.size + 5) 0) := by
  have hsi : ¬ (120 : Int) < (s.size : Int) := by omega
  have HR := hide (sread (w := w) hs)
  have hform : ∀ x j, gRows s (6 * s.size + 5) 0 = .ok x j → j = s.size → (form s (joinAlt x.1 x.2)).length ≤ 1000 := fun x j h hj => by
    rw [form_joinAlt]
    have := gRows_form (by omega) hs h
    omega
  have hlok : ∀ x j, gRows s (6 * s.size + 5) 0 = .ok x j → LOk (joinAlt x.1 x.2) := fun x j h => LOk.joinAlt _ ((gL_ok s hs _).2.2.2 _ _ _ h)
  generalize gRows s (6 * s.size + 5) 0 = r at *
  go_enter Tryz.func41, Tryz.ntmps41
  go_wp2_with fail
  refine (unhide HR).mono ?_
  rintro e w1 ⟨hg1, hP⟩
  cases r with
  | err p =>
    simp only at hP
    subst hP
    go_wp2
    go_ret3
    exact ⟨hg1, rfl⟩
  | ok x j =>
    simp only at hP
    rcases hP with ⟨hlt, rfl⟩ | ⟨hj, g, rfl, hT⟩
    · clear hform hlok HR
      go_wp2
      go_ret3
      exact ⟨hg1, .inl ⟨hlt, rfl⟩⟩
    · have HW := hide (lwrong hH hT ⟨hform x j rfl hj, hlok x j rfl⟩)
      have HT := hide (And.intro hg1 hT)
      clear hform hlok HR hT hg1
      go_wp2_with fail
      refine (unhide HW).mono ?_
      rintro e w2 ⟨hg2, o, hF, hE⟩
      obtain ⟨hg1, hT⟩ := unhide HT
      rw [dflts_joinAlt] at hF
      cases o with
      | none =>
        simp only at hE
        subst hE
        go_wp2
        go_ret3
        exact ⟨hg1.trans hg2, .inr ⟨hj, none, hF, g, rfl, LR.kept (fun k hk _ => hg2.block k hk (by simp)) hT⟩⟩
      | some a =>
        simp only at hE
        subst hE
        go_wp2
        go_ret3
        exact ⟨hg1.trans hg2, .inr ⟨hj, some a, hF, rfl⟩⟩


set_option maxRecDepth 100000 in
set_option maxHeartbeats 800000 in
theorem gread_long (s : ByteArray) (w : World) (hs : 120 < s.size) (hm : s.size ≤ maxLen) :
    Calls Tryz.prog 41 #[.string s] w fun e w' => e = .returned (.tuple #[.pointer none, .int .i64 1, .int .i64 0]) ∧ w' = w := by
  unfold maxLen at hm
  have hsi : (120 : Int) < (s.size : Int) := by omega
  go_enter Tryz.func41, Tryz.ntmps41
  go_wp2
  go_ret3
  exact ⟨rfl, rfl⟩


end Go.Proofs.YtlljggefbngkeaaGreatDoor

namespace Go.Proofs.YtlljggefbngkeaaGreatDoor
open Go.RowKit Go.Shelf

/-- a machine in memory that reads the texts of the pattern -/
def MachAt (w : World) (t : PT) (b : Nat) : Prop := okRep t ∧ stSize t ≤ 1000 ∧ MH w (fun k => w.heap.size ≤ k) b (mBuild t).1 (mBuild t).2 0
theorem MachAt.k0 {w w' : World} {t : PT} {b : Nat} (h : MachAt w t b) (hk : K0 w w') : MachAt w' t b := by
  refine ⟨h.1, h.2.1, ?_⟩
  have h1 : MH w' (fun k => w.heap.size ≤ k) b (mBuild t).1 (mBuild t).2 0 := h.2.2.kept (fun k hk' _ => hk.heap hk')
  exact h1.reY (fun k _ hz => Nat.le_trans hk.size hz)
theorem MachAt.lt {w : World} {t : PT} {b : Nat} (h : MachAt w t b) : b < w.heap.size := h.2.2.lt

theorem K0.of_grownz {w w' : World} (h : w.grownBy w' none) : K0 w w' := Kp.of_grown h (fun _ e => by cases e)


/-- Machine.Holds -/
theorem mach_holds {w : World} {t : PT} {b : Nat} {u : List UInt8} (h : MachAt w t b) (hu : u.length ≤ 1000) :
    Calls Tryz.prog 129 #[.pointer (some ⟨b, 0, none⟩), .string (txt u)] w fun e w' => ∃ x : Bool, e = .returned (.bool x) ∧ (x = true ↔ M t u) ∧ K0 w w' := by
  obtain ⟨hok, hsz, hM⟩ := h
  have hsp := mBuild_spec hok
  have hcl := mBuild_cl t
  have hfl := freeLen_of (mBuild_fl hsz)
  have hln := mBuild_len hsz
  have hM2 : MH w (fun k => k = w.heap.size) b (mBuild t).1 (mBuild t).2 0 := hM.reY (fun k hk e => by omega)
  refine (mholds (text := txt u) hM2 hcl.1 hfl hln hcl.2.1 (Kp.refl _ _) (by have := hM.lt; omega) (by rw [txt_size]; omega)).mono ?_
  rintro e w2 ⟨x, rfl, hx, hg2⟩
  refine ⟨x, rfl, ?_, K0.of_grownz hg2⟩
  have e : (txt u).data.toList = u := by simp [txt]
  rw [e] at hx
  exact hx.trans (hsp u)

/-- the places at which a text of the pattern ends -/
def EOk (t : PT) (u : List UInt8) (pre : List Nat) (x : Nat) : Prop := x ≤ u.length ∧ M t (u.take x) ∧ ∀ y, y ∈ pre ↔ y < x ∧ M t (u.take y)
def EAll (t : PT) (u : List UInt8) (xs : List Nat) : Prop := ∀ y, y ∈ xs ↔ y ≤ u.length ∧ M t (u.take y)

/-- what the states say that a beginning of a text leads to -/
def Led (S : List MSt) (st : Nat) (a : List UInt8) (N : List Nat) : Prop := ∀ u e, Some_ S [st] (a ++ u) e ↔ Some_ S N u e
theorem Led.start (S : List MSt) (st : Nat) : Led S st [] [st] := fun u e => by rw [List.nil_append]
theorem Led.next {S : List MSt} {st : Nat} {a : List UInt8} {N N' : List Nat} {c : UInt8} (h : Led S st a N) (hs : Stepped S N c N') : Led S st (a ++ [c]) N' := fun u e => by
  rw [List.append_assoc, h, List.singleton_append]
  exact step_some hs u e
theorem Led.ends {t : PT} (hok : okRep t) {a : List UInt8} {N : List Nat} (h : Led (mBuild t).1 (mBuild t).2 a N) : (∃ x, x ∈ N ∧ Rch (mBuild t).1 x 0) ↔ M t a := by
  have h1 := h [] 0
  rw [List.append_nil] at h1
  rw [← mBuild_spec hok a]
  constructor
  · rintro ⟨x, hx, hr⟩
    obtain ⟨s, hs, k, hk⟩ := h1.2 ⟨x, hx, hr⟩
    rw [List.mem_singleton] at hs
    subst hs
    exact ⟨k, hk⟩
  · rintro ⟨k, hk⟩
    obtain ⟨x, hx, hr⟩ := h1.1 ⟨_, List.mem_singleton.2 rfl, k, hk⟩
    exact ⟨x, hx, hr⟩
theorem Led.none {t : PT} (hok : okRep t) {a : List UInt8} (h : Led (mBuild t).1 (mBuild t).2 a []) (v : List UInt8) : ¬ M t (a ++ v) := fun hm => by
  obtain ⟨k, hk⟩ := (mBuild_spec hok (a ++ v)).2 hm
  obtain ⟨x, hx, _⟩ := (h v 0).1 ⟨_, List.mem_singleton.2 rfl, k, hk⟩
  cases hx

def numOf : Value → Nat
  | .int _ i => i.toNat
  | _ => 0

end Go.Proofs.YtlljggefbngkeaaGreatDoor

namespace Go.Proofs.YtlljggefbngkeaaGreatDoor
open Go.RowKit Go.Shelf

/-- where ends stands before byte k -/
structure EnI (wm W : World) (t : PT) (u : List UInt8) (b Bm Bt : Nat) (fp : World → Nat → Prop) (J : List Nat → World → Prop) (v : Value) (k kk : Nat) (pre : List Nat) (N : List Nat) (wr : World) : Prop where
  own : wr.ownsRow 0 3 1 v N.length (nums N)
  nil : N = [] → v = .slice none 0 0
  len : N.length ≤ 2000
  lt : ∀ a, a ∈ N → a < (mBuild t).1.length
  led : Led (mBuild t).1 (mBuild t).2 (u.take k) N
  le : k ≤ u.length
  pr : ∀ y, y ∈ pre ↔ y < kk ∧ M t (u.take y)
  j : J pre wr
  bel : K0 wm wr
  bx : wr.heap[Bm]? = some (.cells #[.pointer (some ⟨b, 0, none⟩)] 120 (0, 0))
  bt : wr.heap[Bt]? = some (.cells #[.string (txt u)] 9 (0, 0))
  ob : ∀ j, v.ownBlock = some j → W.heap.size ≤ j ∧ ¬ fp wr j
  sz : W.heap.size ≤ wr.heap.size

/-- new blocks alone -/
theorem EnI.grown {wm W : World} {t : PT} {u : List UInt8} {b Bm Bt : Nat} {fp : World → Nat → Prop} {J : List Nat → World → Prop} {v : Value} {k kk : Nat} {pre N : List Nat} {wr w2 : World} (h : EnI wm W t u b Bm Bt fp J v k kk pre N wr) (hg : wr.grownBy w2 none)
    (hJs : ∀ pre A A', J pre A → Fz W.heap.size fp A A' → J pre A' ∧ ∀ k, fp A' k ↔ fp A k) : EnI wm W t u b Bm Bt fp J v k kk pre N w2 ∧ ∀ k, fp w2 k ↔ fp wr k := by
  have hj := hJs pre wr w2 h.j (Fz.of_grown hg (fun k e => by cases e))
  have hk := K0.of_grownz hg
  exact ⟨{
    own := own_same h.own (fun j e => hk.heap (own_lt h.own j e))
    nil := h.nil
    len := h.len
    lt := h.lt
    led := h.led
    le := h.le
    pr := h.pr
    j := hj.1
    bel := h.bel.trans hk
    bx := (hk.heap (heap_lt h.bx)).trans h.bx
    bt := (hk.heap (heap_lt h.bt)).trans h.bt
    ob := fun j e => ⟨(h.ob j e).1, fun hf => (h.ob j e).2 ((hj.2 j).1 hf)⟩
    sz := Nat.le_trans h.sz hk.size }, hj.2⟩

/-- no text ends here -/
theorem EnI.pass {wm W : World} {t : PT} {u : List UInt8} {b Bm Bt : Nat} {fp : World → Nat → Prop} {J : List Nat → World → Prop} {v : Value} {k : Nat} {pre N : List Nat} {wr : World} (h : EnI wm W t u b Bm Bt fp J v k k pre N wr) (hn : ¬ M t (u.take k)) : EnI wm W t u b Bm Bt fp J v k (k + 1) pre N wr where
  own := h.own
  nil := h.nil
  len := h.len
  lt := h.lt
  led := h.led
  le := h.le
  pr := fun y => by
    rw [h.pr y]
    constructor
    · intro h; exact ⟨by omega, h.2⟩
    · intro h
      refine ⟨?_, h.2⟩
      rcases Nat.lt_or_ge y k with hy | hy
      · exact hy
      · obtain rfl : y = k := by omega
        exact absurd h.2 hn
  j := h.j
  bel := h.bel
  bx := h.bx
  bt := h.bt
  ob := h.ob
  sz := h.sz

/-- a round of the caller's -/
theorem EnI.turned {wm W : World} {t : PT} {u : List UInt8} {b Bm Bt : Nat} {fp : World → Nat → Prop} {J : List Nat → World → Prop} {v : Value} {k kk : Nat} {pre N : List Nat} {wr w2 : World} (h : EnI wm W t u b Bm Bt fp J v k kk pre N wr) (hk : Kf fp wr w2) {pre' : List Nat} (hj : J pre' w2) (hp : ∀ y, y ∈ pre' ↔ y < k + 1 ∧ M t (u.take y))
    (hfpB : ∀ A k, fp A k → wm.heap.size ≤ k) (hfm : ∀ A, ¬ fp A Bm) (hft : ∀ A, ¬ fp A Bt) : EnI wm W t u b Bm Bt fp J v k (k + 1) pre' N w2 where
  own := own_same h.own (fun j e => hk.block j (own_lt h.own j e) (h.ob j e).2)
  nil := h.nil
  len := h.len
  lt := h.lt
  led := h.led
  le := h.le
  pr := hp
  j := hj
  bel := ⟨hk.os.trans h.bel.os, hk.tape.trans h.bel.tape, hk.output.trans h.bel.output, Nat.le_trans h.bel.size hk.size, fun j hj' _ => (hk.block j (Nat.lt_of_lt_of_le hj' h.bel.size) (fun hf => by have := hfpB _ _ hf; omega)).trans (h.bel.heap hj')⟩
  bx := (hk.block _ (heap_lt h.bx) (hfm _)).trans h.bx
  bt := (hk.block _ (heap_lt h.bt) (hft _)).trans h.bt
  ob := fun j e => ⟨(h.ob j e).1, fun hf => (hk.new j hf).elim (h.ob j e).2 (fun h' => by have := own_lt h.own j e; omega)⟩
  sz := Nat.le_trans h.sz hk.size

/-- one more byte -/
theorem EnI.next {wm W : World} {t : PT} {u : List UInt8} {b Bm Bt : Nat} {fp : World → Nat → Prop} {J : List Nat → World → Prop} {v v' : Value} {k : Nat} {pre N N' : List Nat} {wr w4 : World} (h : EnI wm W t u b Bm Bt fp J v k (k + 1) pre N wr) (hk : k < u.length) (hcl : Cl (mBuild t).1 (mBuild t).1.length) (hln : (mBuild t).1.length ≤ 2000)
    (hJs : ∀ pre A A', J pre A → Fz W.heap.size fp A A' → J pre A' ∧ ∀ k, fp A' k ↔ fp A k) (hfr : ∀ pre A, J pre A → ∀ k, fp A k → k < A.heap.size) (hWs : W.heap.size ≤ wr.heap.size)
    (ho : w4.ownsRow 0 3 1 v' N'.length (nums N')) (hn : N' = [] → v' = .slice none 0 0) (hst : Stepped (mBuild t).1 N u[k] N') (hl : N'.length ≤ (mBuild t).1.length) (hg : wr.grownBy w4 none) (hob : ∀ j, v'.ownBlock = some j → wr.heap.size ≤ j) :
    EnI wm W t u b Bm Bt fp J v' (k + 1) (k + 1) pre N' w4 := by
  obtain ⟨h4, hf4⟩ := h.grown hg hJs
  exact {
    own := ho
    nil := hn
    len := by omega
    lt := fun a ha => by
      obtain ⟨_, _, s, p, _, hp, _, rfl⟩ := (hst a).1 ha
      exact (hcl s p hp).1
    led := by
      have : u.take (k + 1) = u.take k ++ [u[k]] := by rw [List.take_add_one, List.getElem?_eq_getElem hk]; rfl
      rw [this]
      exact h4.led.next hst
    le := hk
    pr := h4.pr
    j := h4.j
    bel := h4.bel
    bx := h4.bx
    bt := h4.bt
    ob := fun j e => ⟨Nat.le_trans hWs (hob j e), fun hf => by
      have h1 := hfr pre wr h.j j ((hf4 j).1 hf)
      have := hob j e
      omega⟩
    sz := h4.sz }

set_option maxRecDepth 100000 in
set_option maxHeartbeats 3200000 in
theorem mends_seq {wm w : World} {n b Bm Bt : Nat} {t : PT} {u : List UInt8} {fp : World → Nat → Prop} (hM : MachAt wm t b) (hul : u.length ≤ 1000) (hB : K0 wm w)
    (hfpB : ∀ A k, fp A k → wm.heap.size ≤ k) (hfm : ∀ A, ¬ fp A Bm) (hft : ∀ A, ¬ fp A Bt)
    (hbm : w.heap[Bm]? = some (.cells #[.pointer (some ⟨b, 0, none⟩)] 120 (0, 0))) (hbt : w.heap[Bt]? = some (.cells #[.string (txt u)] 9 (0, 0))) :
    SeqF Fence.wide n Tryz.prog 173 #[.pointer (some ⟨Bm, 0, none⟩), .pointer (some ⟨Bt, 0, none⟩)] encN fp true (EOk t u) (EAll t u) (fun _ => True) w := by
  intro l J Jx W hW hJs hJx hfr hY h0
  have hfr := hfr rfl
  have hBW : K0 wm W := hB.trans (K0.of_grownz hW)
  have hbmW := (hW.block Bm (heap_lt hbm) (by simp)).trans hbm
  have hbtW := (hW.block Bt (heap_lt hbt) (by simp)).trans hbt
  have hok := hM.1
  have hcl := mBuild_cl t
  have hfl := freeLen_of (mBuild_fl hM.2.1)
  have hln := mBuild_len hM.2.1
  have hM2 : MH wm (fun k => k = wm.heap.size) b (mBuild t).1 (mBuild t).2 0 := hM.2.2.reY (fun k hk e => by omega)
  have c0 := cellOf hbmW 0
  have cst : W.cell? ⟨b, 1, none⟩ = some (.int .i64 ((mBuild t).2 : Int)) := by
    obtain ⟨pv, xs, ho⟩ := hM.2.2
    rw [cellOf ((hBW.heap (heap_lt ho.blk)).trans ho.blk) 1]
    rfl
  simp at c0
  have HY := hide (And.intro hY (And.intro hJs (And.intro hJx (And.intro hfr (And.intro hfpB (And.intro hfm hft))))))
  have HM := hide (And.intro hM2 (And.intro hcl (And.intro hfl (And.intro hln (And.intro hok hM.lt)))))
  have H0 := hide (And.intro h0 (And.intro hBW (And.intro hbmW hbtW)))
  clear hY hJs hJx hfr hfpB hfm hft hM2 hcl hfl hln hok hM h0 hBW hbmW hbtW hW hB hbm hbt
  refine callsIn_of_wp Tryz.func173 rfl trivial ?_ rfl
  simp only [Tryz.ntmps173, List.size_toArray, List.length_cons, List.length_nil, Nat.reduceAdd, Nat.reduceSub, Array.replicate_succ, Array.replicate_zero, List.push_toArray, List.append_toArray, List.nil_append, List.cons_append]
  gi_wp2_with fail
  obtain ⟨w1, hw1, hs1, b1, hk1⟩ : ∃ w1, W.alloc (.cells #[.int .i64 ((mBuild t).2 : Int)] 3 (0, 0)) = w1 ∧ w1.heap.size = W.heap.size + 1 ∧ w1.heap[W.heap.size]? = some (.cells #[.int .i64 ((mBuild t).2 : Int)] 3 (0, 0)) ∧ K0 W w1 := ⟨_, rfl, by simp, heap_alloc_new W _, Kp.alloc _ _ _⟩
  rw [hw1]
  have hown1 : w1.ownsRow 0 3 1 (.slice (some ⟨W.heap.size, 0, none⟩) 1 1) 1 (nums [(mBuild t).2]) := by rw [← hw1]; exact World.ownsRow_lit W _ 1 (by omega) (by unfold maxLen; omega) rfl
  have HE : Hid (EnI wm W t u b Bm Bt fp J (.slice (some ⟨W.heap.size, 0, none⟩) 1 1) 0 0 [] [(mBuild t).2] w1) := by
    obtain ⟨h0, hBW, hbmW, hbtW⟩ := unhide H0
    obtain ⟨hY, hJs, hJx, hfr, hfpB, hfm, hft⟩ := unhide HY
    obtain ⟨hM2, hcl, hfl, hln, hok, hbl⟩ := unhide HM
    have hz : Fz W.heap.size fp W w1 := Fz.of_grown (r := none) (by rw [← hw1]; exact World.grownBy_alloc W _ none) (fun k e => by cases e)
    have hj := hJs [] W w1 h0 hz
    exact {
      own := hown1
      nil := fun e => by cases e
      len := by simp
      lt := fun a ha => by rw [List.mem_singleton] at ha; subst ha; exact hcl.2.1
      led := by rw [List.take_zero]; exact Led.start _ _
      le := Nat.zero_le _
      pr := fun y => ⟨fun h => (by cases h), fun h => by omega⟩
      j := hj.1
      bel := hBW.trans hk1
      bx := (hk1.heap (heap_lt hbmW)).trans hbmW
      bt := (hk1.heap (heap_lt hbtW)).trans hbtW
      ob := fun j e => by
        simp [Value.ownBlock] at e
        subst e
        refine ⟨Nat.le_refl _, fun hf => ?_⟩
        have := hfr [] W h0 _ ((hj.2 _).1 hf)
        omega
      sz := hk1.size }
  clear hw1 hs1 b1 hk1 hown1 c0 cst H0
  gi_wp2_with fail
  gi_loopw [4, 5] (fun v4 v5 wr => ∃ (k : Nat) (pre N : List Nat), v5 = .int .i64 (k : Int) ∧ EnI wm W t u b Bm Bt fp J v4 k k pre N wr) (fun v4 v5 wr => u.length + 1 - numOf v5)
  case atStart => exact ⟨0, [], _, rfl, unhide HE⟩
  case round =>
    obtain ⟨k, pre, N, rfl, hE⟩ := hrel
    obtain ⟨ao, cp, rfl⟩ := own_slice hE.own
    rcases Nat.eq_zero_or_pos N.length with hw0 | hw0
    · obtain rfl := List.eq_nil_of_length_eq_zero hw0
      have HI := hide hE
      clear hE hw0
      gi_wp2_with fail
      go_end0
      refine ⟨⟨_, rfl⟩, .inl ⟨pre, fun y => ?_, (unhide HI).j⟩⟩
      have hE := unhide HI
      rw [hE.pr y]
      constructor
      · intro h; exact ⟨by have := hE.le; omega, h.2⟩
      · intro h
        refine ⟨?_, h.2⟩
        rcases Nat.lt_or_ge y k with hy | hy
        · exact hy
        · have hn := hE.led.none (unhide HM).2.2.2.2.1 ((u.take y).drop k)
          have e : u.take k = (u.take y).take k := by rw [List.take_take, Nat.min_eq_left hy]
          rw [e, List.take_append_drop] at hn
          exact absurd h.2 hn
    · have hpos : (0 : Int) < (N.length : Int) := by omega
      obtain ⟨hM2, hcl, hfl, hln, hok, hbl⟩ := unhide HM
      have cm := cellOf hE.bx 0
      have ct := cellOf hE.bt 0
      simp at cm ct
      have HEn := hide (mended hM2 hcl.1 hfl hln (hE.bel.kp _) hE.own hE.nil hE.len hE.lt)
      have hsu : (txt u).size = u.length := txt_size u
      have hkle := hE.le
      have HI := hide hE
      clear hE hM2 hcl hfl hln hok
      gi_wp2_with fail
      refine ⟨trivial, depth_any, (callsIn_wide.2 (unhide HEn)).mono ?_⟩
      rintro e w2 ⟨x, rfl, hx, hg2⟩
      obtain ⟨hE2, hfp2⟩ := (unhide HI).grown hg2 (unhide HY).2.1
      rw [(unhide HI).led.ends (unhide HM).2.2.2.2.1] at hx
      clear cm ct HEn hg2
      cases x
      · have hnM : ¬ M t (u.take k) := fun h => by have := hx.2 h; cases this
        replace hE2 := hE2.pass hnM
        clear hx hnM
        have ct2 := cellOf hE2.bt 0
        simp at ct2
        have cm2 := cellOf hE2.bx 0
        simp at cm2
        by_cases hkl : k = u.length
        · have hkd : ((k : Int) == (u.length : Int)) = true := by rw [beq_iff_eq]; omega
          have HI2 := hide hE2
          clear hE2 cm2
          gi_wp2_with fail
          refine ⟨fun f h => (by cases h), ?_⟩
          gi_wp2_with fail
          ((try simp only [Exit.inBlock, Exit.then]); refine bodyPost_ret (results_none rfl _ _ _) rfl ?_)
          refine ⟨⟨_, rfl⟩, .inl ⟨_, fun y => ?_, (unhide HI2).j⟩⟩
          rw [(unhide HI2).pr y]
          constructor
          · intro h; exact ⟨by omega, h.2⟩
          · intro h; exact ⟨by omega, h.2⟩
        · have hkd : ((k : Int) == (u.length : Int)) = false := by rw [beq_eq_false_iff_ne]; omega
          have hklt : k < u.length := by omega
          have hkli : (k : Int) < (u.length : Int) := by omega
          obtain ⟨hM2, hcl, hfl, hln, hok, hbl⟩ := unhide HM
          have HSt := hide (fun (A : World) (hE : EnI wm W t u b Bm Bt fp J (.slice ao N.length cp) k (k + 1) pre N A) => mstep hM2 hcl.1 hfl hln (hE.bel.kp _) hE.own hE.nil hE.len hE.lt ((txt u)[k]'(by rw [hsu]; exact hklt)))
          have HI2 := hide hE2
          clear hE2 hM2 hcl hfl hln hok
          gi_wp2_with fail
          refine ⟨fun f h => (by cases h), ?_⟩
          gi_wp2_with fail
          obtain ⟨hEd, hfd⟩ := (unhide HI2).grown (grown_drew' w2 none) (unhide HY).2.1
          have HSd := hide (unhide HSt _ hEd)
          have HEd := hide (And.intro hEd hfd)
          clear hEd hfd HSt
          gi_region_with (refine ⟨trivial, depth_any, (callsIn_wide.2 (unhide HSd)).mono ?_⟩; rintro e w4 ⟨v', N', rfl, ho', hn', hst', hl', hg', hob'⟩)
          all_goals
            have HN : Hid (EnI wm W t u b Bm Bt fp J v' (k + 1) (k + 1) pre N' w4) := by
              obtain ⟨hM2, hcl, hfl, hln, hok, hbl⟩ := unhide HM
              obtain ⟨hY, hJs, hJx, hfr, hfpB, hfm, hft⟩ := unhide HY
              obtain ⟨hEd, hfd⟩ := unhide HEd
              exact hEd.next hklt hcl.1 hln hJs hfr hEd.sz ho' hn' hst' hl' hg' hob'
            obtain ⟨ao', cp', rfl⟩ := own_slice ho'
            clear ho' hn' hst' hl' hg' hob'
            gi_wp2_with fail
            go_roundw
            case rel => exact ⟨k + 1, pre, N', by go_num, unhide HN⟩
            case measure => simp [numOf]; omega
      · have hM1 : M t (u.take k) := hx.1 rfl
        obtain ⟨hY, hJs, hJx, hfr, hfpB, hfm, hft⟩ := unhide HY
        obtain ⟨fn, tmps, assign, body, hy, hRd⟩ := hY pre k _ hE2.j ⟨hE2.le, hM1, hE2.pr⟩
        dsimp only [encN] at hy
        have HRd := hide (And.intro hRd (And.intro hE2 hM1))
        clear hx hM1 hY hJs hJx hfr hfpB hfm hft hE2 hRd
        gi_wp2_with fail
        refine ⟨depth_any, ?_⟩
        refine (unhide HRd).1.mono ?_
        rintro e W3 (⟨rfl, hJ3, hk3⟩ | ⟨rfl, hx3⟩)
        · obtain ⟨_, hE1, hM1⟩ := unhide HRd
          obtain ⟨hY, hJs, hJx, hfr, hfpB, hfm, hft⟩ := unhide HY
          have hE2 : EnI wm W t u b Bm Bt fp J (.slice ao N.length cp) k (k + 1) (pre ++ [k]) N W3 := hE1.turned hk3 hJ3 (fun y => by
            rw [List.mem_append, List.mem_singleton, hE1.pr y]
            constructor
            · rintro (h | rfl)
              · exact ⟨by omega, h.2⟩
              · exact ⟨by omega, hM1⟩
            · intro h
              rcases Nat.lt_or_ge y k with hy | hy
              · exact .inl ⟨hy, h.2⟩
              · exact .inr (by omega)) hfpB hfm hft
          clear hE1 hM1 hJ3 hk3 hY hJs hJx hfr hfpB hfm hft
          have ct2 := cellOf hE2.bt 0
          simp at ct2
          have cm2 := cellOf hE2.bx 0
          simp at cm2
          by_cases hkl : k = u.length
          · have hkd : ((k : Int) == (u.length : Int)) = true := by rw [beq_iff_eq]; omega
            have HI2 := hide hE2
            clear hE2 cm2
            gi_wp2_with fail
            ((try simp only [Exit.inBlock, Exit.then]); refine bodyPost_ret (results_none rfl _ _ _) rfl ?_)
            refine ⟨⟨_, rfl⟩, .inl ⟨_, fun y => ?_, (unhide HI2).j⟩⟩
            rw [(unhide HI2).pr y]
            constructor
            · intro h; exact ⟨by omega, h.2⟩
            · intro h; exact ⟨by omega, h.2⟩
          · have hkd : ((k : Int) == (u.length : Int)) = false := by rw [beq_eq_false_iff_ne]; omega
            have hklt : k < u.length := by omega
            have hkli : (k : Int) < (u.length : Int) := by omega
            obtain ⟨hM2, hcl, hfl, hln, hok, hbl⟩ := unhide HM
            have HSt := hide (fun (A : World) (hE : EnI wm W t u b Bm Bt fp J (.slice ao N.length cp) k (k + 1) (pre ++ [k]) N A) => mstep hM2 hcl.1 hfl hln (hE.bel.kp _) hE.own hE.nil hE.len hE.lt ((txt u)[k]'(by rw [hsu]; exact hklt)))
            have HI2 := hide hE2
            clear hE2 hM2 hcl hfl hln hok
            gi_wp2_with fail
            obtain ⟨hEd, hfd⟩ := (unhide HI2).grown (grown_drew' W3 none) (unhide HY).2.1
            have HSd := hide (unhide HSt _ hEd)
            have HEd := hide (And.intro hEd hfd)
            clear hEd hfd HSt
            gi_region_with (refine ⟨trivial, depth_any, (callsIn_wide.2 (unhide HSd)).mono ?_⟩; rintro e w4 ⟨v', N', rfl, ho', hn', hst', hl', hg', hob'⟩)
            all_goals
              have HN : Hid (EnI wm W t u b Bm Bt fp J v' (k + 1) (k + 1) (pre ++ [k]) N' w4) := by
                obtain ⟨hM2, hcl, hfl, hln, hok, hbl⟩ := unhide HM
                obtain ⟨hY, hJs, hJx, hfr, hfpB, hfm, hft⟩ := unhide HY
                obtain ⟨hEd, hfd⟩ := unhide HEd
                exact hEd.next hklt hcl.1 hln hJs hfr hEd.sz ho' hn' hst' hl' hg' hob'
              obtain ⟨ao', cp', rfl⟩ := own_slice ho'
              clear ho' hn' hst' hl' hg' hob'
              gi_wp2_with fail
              go_roundw
              case rel => exact ⟨k + 1, (pre ++ [k]), N', by go_num, unhide HN⟩
              case measure => simp [numOf]; omega
        · have HX := hide hx3
          clear hx3
          gi_wp2_with fail
          ((try simp only [Exit.inBlock, Exit.then]); refine bodyPost_ret (results_none rfl _ _ _) rfl ?_)
          exact ⟨⟨_, rfl⟩, .inr ⟨_, trivial, unhide HX⟩⟩

end Go.Proofs.YtlljggefbngkeaaGreatDoor
