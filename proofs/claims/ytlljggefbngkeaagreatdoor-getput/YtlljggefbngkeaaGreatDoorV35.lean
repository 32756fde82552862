import Derived.Test.YtlljggefbngkeaaGreatDoorV18
import Derived.Test.YtlljggefbngkeaaGreatDoorV14
import Derived.Test.YtlljggefbngkeaaGreatDoorV31
import Derived.Test.YtlljggefbngkeaaGreatDoorV11
namespace Go.Proofs.YtlljggefbngkeaaGreatDoor
open Go.RowKit Go.Shelf
attribute [local go_sem] Oper.semAt_some

set_option maxRecDepth 100000 in
set_option maxHeartbeats 1600000 in
theorem mends (n b : Nat) (u : ByteArray) (w : World) : CallsIn Fence.wide n Tryz.prog 161 #[.pointer (some ⟨b, 0, none⟩), .string u] w fun e w' =>
    e = .returned (.func (.func 173) #[] #[.pointer (some ⟨w.heap.size, 0, none⟩), .pointer (some ⟨w.heap.size + 1, 0, none⟩)]) ∧ w' = (w.alloc (.cells #[.pointer (some ⟨b, 0, none⟩)] 120)).alloc (.cells #[.string u] 9) := by
  refine callsIn_of_wp Tryz.func161 rfl trivial ?_ rfl
  simp only [Tryz.ntmps161, List.size_toArray, List.length_cons, List.length_nil, Nat.reduceAdd, Nat.reduceSub, Array.replicate_succ, Array.replicate_zero, List.push_toArray, List.append_toArray, List.nil_append, List.cons_append]
  gi_wp2
  go_ret
  exact ⟨rfl, rfl⟩

open Classical in
/-- of these places those behind which a text of B stands -/
noncomputable def flt (B : PT) (u : List UInt8) (xs : List Nat) : List Nat := xs.filter fun y => decide (M B (u.drop y))
theorem flt_yes {B : PT} {u : List UInt8} {xs : List Nat} {x : Nat} (h : M B (u.drop x)) : flt B u (xs ++ [x]) = flt B u xs ++ [x] := by simp [flt, h]
theorem flt_no {B : PT} {u : List UInt8} {xs : List Nat} {x : Nat} (h : ¬ M B (u.drop x)) : flt B u (xs ++ [x]) = flt B u xs := by simp [flt, h]
theorem mem_flt {B : PT} {u : List UInt8} {xs : List Nat} {y : Nat} : y ∈ flt B u xs ↔ y ∈ xs ∧ M B (u.drop y) := by simp [flt]

/-- can the text be parted here? -/
def POk (A B : PT) (u : List UInt8) (pre : List Nat) (x : Nat) : Prop := x ≤ u.length ∧ M A (u.take x) ∧ M B (u.drop x) ∧ ∀ y, y ∈ pre ↔ y < x ∧ M A (u.take y) ∧ M B (u.drop y)
def PAll (A B : PT) (u : List UInt8) (xs : List Nat) : Prop := ∀ y, y ∈ xs ↔ y ≤ u.length ∧ M A (u.take y) ∧ M B (u.drop y)

theorem txt_dropz (v : List UInt8) (i : Nat) : (txt v).extract i v.length = txt (v.drop i) := by
  have e : (txt v).data.toList = v := by simp [txt]
  have := txt_sub (txt v) i v.length
  rw [e, sub_end_drop] at this
  exact this.symm
theorem K0.cellz {W W' : World} (hk : K0 W W') {a : Addr} {v : Value} (h : W.cell? a = some v) : W'.cell? a = some v := by
  rw [World.cell?_of_block (w := W) (hk.heap (World.block_lt_of_cell? W a h))]
  exact h

/-- where Places stands -/
structure PlI (wm W : World) (B : PT) (u : List UInt8) (bb Bt Bb l : Nat) (J : List Nat → World → Prop) (pre : List Nat) (A : World) : Prop where
  j : J (flt B u pre) A
  bel : K0 wm A
  by_ : A.heap[W.heap.size]? = some (.cells #[.func (.yield l) #[] #[]] 218 (0, 0))
  bt : A.heap[Bt]? = some (.cells #[.string (txt u)] 9 (0, 0))
  bb : A.heap[Bb]? = some (.cells #[.pointer (some ⟨bb, 0, none⟩)] 120 (0, 0))
  sz : W.heap.size + 3 ≤ A.heap.size

/-- a round of the caller's -/
theorem PlI.turned {wm W : World} {B : PT} {u : List UInt8} {bb Bt Bb l : Nat} {J : List Nat → World → Prop} {pre pre' : List Nat} {Wr W3 : World} {Fx : Nat → Prop} (h : PlI wm W B u bb Bt Bb l J pre Wr) (hk : Kp (fun k => ¬ Fx k) Wr W3) (hj : J (flt B u pre') W3) (hF : ∀ k, Fx k → wm.heap.size ≤ k ∧ k < W.heap.size) (hFt : ¬ Fx Bt) (hFb : ¬ Fx Bb) : PlI wm W B u bb Bt Bb l J pre' W3 where
  j := hj
  bel := ⟨hk.os.trans h.bel.os, hk.tape.trans h.bel.tape, hk.output.trans h.bel.output, Nat.le_trans h.bel.size hk.size, fun k hk' _ => (hk.block k (Nat.lt_of_lt_of_le hk' h.bel.size) (fun hf => by have := (hF k hf).1; omega)).trans (h.bel.heap hk')⟩
  by_ := (hk.block _ (heap_lt h.by_) (fun hf => by have := (hF _ hf).2; omega)).trans h.by_
  bt := (hk.block _ (heap_lt h.bt) hFt).trans h.bt
  bb := (hk.block _ (heap_lt h.bb) hFb).trans h.bb
  sz := Nat.le_trans h.sz hk.size

set_option maxRecDepth 100000 in
set_option maxHeartbeats 6400000 in
theorem places_seq {wm w : World} {n ba bb Ba Bt Bb : Nat} {A B : PT} {u : List UInt8} {Fc : Nat → Prop} (hA : MachAt wm A ba) (hB : MachAt wm B bb) (hul : u.length ≤ 1000) (hK : K0 wm w) (hF : ∀ k, Fc k → wm.heap.size ≤ k ∧ k < w.heap.size) (hFt : ¬ Fc Bt) (hFb : ¬ Fc Bb)
    (hba : w.heap[Ba]? = some (.cells #[.pointer (some ⟨ba, 0, none⟩)] 120 (0, 0))) (hbt : w.heap[Bt]? = some (.cells #[.string (txt u)] 9 (0, 0))) (hbb : w.heap[Bb]? = some (.cells #[.pointer (some ⟨bb, 0, none⟩)] 120 (0, 0))) :
    SeqX Fence.wide n Tryz.prog 160 #[.pointer (some ⟨Ba, 0, none⟩), .pointer (some ⟨Bt, 0, none⟩), .pointer (some ⟨Bb, 0, none⟩)] encN (fun _ k => Fc k) true (POk A B u) (PAll A B u) (fun _ => True) w := by
  intro l J Jx W hW hlw hlW hJs hJx hfr hY h0
  have hKW : K0 wm W := hK.trans (K0.of_grownz hW)
  have hbaW := (hW.block Ba (heap_lt hba) (by simp)).trans hba
  have hbtW := (hW.block Bt (heap_lt hbt) (by simp)).trans hbt
  have hbbW := (hW.block Bb (heap_lt hbb) (by simp)).trans hbb
  have hwW := hW.size
  have hws := hK.size
  have c0 := cellOf hbaW 0
  have c1 := cellOf hbtW 0
  simp at c0 c1
  have hBa := heap_lt hbaW
  have hBt := heap_lt hbtW
  have hBb := heap_lt hbbW
  have hBtw := heap_lt hbt
  have hBbw := heap_lt hbb
  have d0 : ∀ o, (W.alloc o).cell? ⟨Ba, 0, none⟩ = some (.pointer (some ⟨ba, 0, none⟩)) := fun o => by rw [World.cell?_alloc_past _ _ _ hBa]; exact c0
  have d1 : ∀ o, (W.alloc o).cell? ⟨Bt, 0, none⟩ = some (.string (txt u)) := fun o => by rw [World.cell?_alloc_past _ _ _ hBt]; exact c1
  refine callsIn_wide.2 ((callsIn_wide (n := 3)).1 ?_)
  refine callsIn_of_wp_marks Tryz.func160 rfl trivial ?_ rfl
  simp only [Tryz.ntmps160, List.size_toArray, List.length_cons, List.length_nil, Nat.reduceAdd, Nat.reduceSub, Array.replicate_succ, Array.replicate_zero, List.push_toArray, List.append_toArray, List.nil_append, List.cons_append]
  have H0 := hide (And.intro hA (And.intro hB (And.intro hKW (And.intro hbtW hbbW))))
  have HY := hide (And.intro hJs (And.intro hJx (And.intro hfr (And.intro hY h0))))
  clear hA hB hKW hbaW hbtW hbbW hJs hJx hfr hY h0 hW hK hba hbt hbb c0 c1
  gi_wp2_with fail
  refine ⟨trivial, (mends 2 ba (txt u) _).mono ?_⟩
  rintro e w' ⟨rfl, rfl⟩
  gi_wp2_with fail
  obtain ⟨w6, hw6, hs6, h60, h61, h62, hg6⟩ : ∃ w6, ((W.alloc (.cells #[.func (.yield l) #[] #[]] 218)).alloc (.cells #[.pointer (some ⟨ba, 0, none⟩)] 120)).alloc (.cells #[.string (txt u)] 9) = w6 ∧ w6.heap.size = W.heap.size + 3 ∧ w6.heap[W.heap.size]? = some (.cells #[.func (.yield l) #[] #[]] 218 (0, 0)) ∧ w6.heap[W.heap.size + 1]? = some (.cells #[.pointer (some ⟨ba, 0, none⟩)] 120 (0, 0)) ∧ w6.heap[W.heap.size + 2]? = some (.cells #[.string (txt u)] 9 (0, 0)) ∧ W.grownBy w6 none := by
    refine ⟨_, rfl, by simp, heap_alloc_old _ (heap_alloc_old _ (heap_alloc_new W _)), heap_alloc_old _ (alloc2_at W _ _), ?_, ((World.grownBy_alloc W _ none).trans (World.grownBy_alloc _ _ none)).trans (World.grownBy_alloc _ _ none)⟩
    have := alloc2_at (W.alloc (.cells #[.func (.yield l) #[] #[]] 218)) (.cells #[.pointer (some ⟨ba, 0, none⟩)] 120) (.cells #[.string (txt u)] 9)
    simpa using this
  rw [hw6]
  simp only [Nat.add_assoc, Nat.reduceAdd]
  obtain ⟨hA, hB, hKW, hbtW, hbbW⟩ := unhide H0
  obtain ⟨hJs, hJx, hfr, hY, h0⟩ := unhide HY
  have hk6 : K0 W w6 := K0.of_grownz hg6
  have hFW : ∀ k, Fc k → wm.heap.size ≤ k ∧ k < W.heap.size := fun k h => ⟨(hF k h).1, by have := (hF k h).2; omega⟩
  have hI0 : PlI wm W B u bb Bt Bb l J [] w6 := {
    j := (hJs [] W w6 h0 (Fz.of_grown hg6 (fun k e => by cases e))).1
    bel := hKW.trans hk6
    by_ := h60
    bt := (hk6.heap hBt).trans hbtW
    bb := (hk6.heap hBb).trans hbbW
    sz := by omega }
  have hIs : ∀ pre D D', PlI wm W B u bb Bt Bb l J pre D → Fz w6.heap.size (fun _ k => Fc k ∨ k = l) D D' → PlI wm W B u bb Bt Bb l J pre D' := fun pre D D' h hz => {
    j := (hJs _ D D' h.j ⟨hz.os, hz.tape, hz.output, hz.size, fun k hk hh => hz.block k hk (hh.elim (fun h => .inl (by omega)) (fun h => .inr (.inl h)))⟩).1
    bel := ⟨hz.os.trans h.bel.os, hz.tape.trans h.bel.tape, hz.output.trans h.bel.output, Nat.le_trans h.bel.size hz.size, fun k hk _ => (hz.block k (Nat.lt_of_lt_of_le hk h.bel.size) (.inl (by omega))).trans (h.bel.heap hk)⟩
    by_ := (hz.block _ (heap_lt h.by_) (.inl (by omega))).trans h.by_
    bt := (hz.block _ (heap_lt h.bt) (.inl (by omega))).trans h.bt
    bb := (hz.block _ (heap_lt h.bb) (.inl (by omega))).trans h.bb
    sz := Nat.le_trans h.sz hz.size }
  refine wpIn_rangeF (α := Nat) rfl (by decide) (gf := 173) (lb := #[.pointer (some ⟨W.heap.size + 1, 0, none⟩), .pointer (some ⟨W.heap.size + 2, 0, none⟩)]) rfl trivial (enters_of Tryz.func173 (by kernel_rfl) rfl)
    (mends_seq (fp := fun _ k => Fc k ∨ k = l) hA hul (hKW.trans hk6) (fun D k h => h.elim (fun h => (hF k h).1) (fun h => by omega)) (fun D h => h.elim (fun h => by have := (hF _ h).2; omega) (fun h => by omega)) (fun D h => h.elim (fun h => by have := (hF _ h).2; omega) (fun h => by omega)) h61 h62) (fun _ => rfl)
    (PlI wm W B u bb Bt Bb l J) (fun _ D => ∃ q, Jx q D)
    (fun pre D D' h hz => ⟨hIs pre D D' h hz, fun _ => Iff.rfl⟩)
    (fun pre D D' h hb hs ho ht hu => by
      obtain ⟨q, hq⟩ := h
      refine ⟨q, hJx q D D' hq ⟨ho, ht, hu, Nat.le_of_eq hs.symm, fun k hk hh => hb k hk (.inl ?_)⟩⟩
      rcases hh with hh | hh
      · omega
      · have := (hFW k hh).2; omega)
    (fun pre D D' h hz => by
      obtain ⟨q, hq⟩ := h
      exact ⟨q, hJx q D D' hq ⟨hz.os, hz.tape, hz.output, hz.size, fun k hk hh => hz.block k hk (hh.elim (fun h => .inl (by omega)) (fun h => .inr (.inl h)))⟩⟩)
    (fun pre D k h hk => .inl (hk.elim (fun hk => by have := (hFW k hk).2; omega) (fun hk => by omega))) (fun _ pre D h k hk => by
      have := h.sz
      exact hk.elim (fun hk => by have := (hFW k hk).2; omega) (fun hk => by omega))
    hI0 ?a1 ?assign ?body ?done ?stop
  case assign =>
    intro l' x D K hK
    simp only [encN]
    gi_wp2
    exact hK
  case body =>
    rintro l' pre x Wr hP ⟨hx1, hx2, hx3⟩ hWs
    have cy := cellOf hP.by_ 0
    have ct := cellOf hP.bt 0
    have cb := cellOf hP.bb 0
    simp at cy ct cb
    have hsu : (txt u).size = u.length := txt_size u
    have hxi : (x : Int) ≤ (u.length : Int) := by omega
    have htd : (txt u).extract x u.length = txt (u.drop x) := txt_dropz u x
    have hkd : K0 wm Wr.drew := hP.bel.trans (Kp.drew _ _)
    have HH := hide (mach_holds (u := u.drop x) (hB.k0 hkd) (by rw [List.length_drop]; omega))
    have hmv : ∀ w2, K0 Wr.drew w2 → Fz w6.heap.size (fun _ k => Fc k ∨ k = l) Wr w2 := fun w2 hk => ⟨hk.os, hk.tape, hk.output, hk.size, fun k hk' _ => hk.heap hk'⟩
    have HP := hide (And.intro hP (And.intro hIs (And.intro hJs hmv)))
    have hWy := heap_lt hP.by_
    by_cases hMB : M B (u.drop x)
    · have HYY : Hid (∀ w2, K0 Wr.drew w2 → YieldAt Fence.wide 0 Tryz.prog l (encN x) w2 fun e W' => ∃ z2 : Bool, e = .returned (.bool z2) ∧ (z2 = true → J (flt B u pre ++ [x]) W' ∧ Kf (fun _ k => Fc k) w2 W') ∧ (z2 = false → Jx (flt B u pre ++ [x]) W' ∧ Kf (fun _ k => Fc k ∨ k = l) w2 W')) := hide (fun w2 hk2 => YieldAt.anyD 0 (YieldAt.mono (hY (flt B u pre) x w2 (hIs pre Wr w2 hP (hmv w2 hk2)).j ⟨hx1, hx2, hMB, fun y => by
          rw [mem_flt, hx3 y]
          constructor
          · rintro ⟨⟨a, b⟩, c⟩; exact ⟨a, b, c⟩
          · rintro ⟨a, b, c⟩; exact ⟨⟨a, b⟩, c⟩⟩) (fun e W' h => by
          rcases h with ⟨rfl, h1, h2⟩ | ⟨rfl, h1, h2⟩
          · exact ⟨true, rfl, fun _ => ⟨h1, h2⟩, fun e => by cases e⟩
          · exact ⟨false, rfl, fun e => (by cases e), fun _ => ⟨h1, h2⟩⟩)))
      have HM := hide hMB
      clear hP hY hMB hIs hJs hJx hfr h0 hA hB hKW hbtW hbbW hI0 hmv hkd hx3
      gi_wp2_with fail
      gi_region_with (first
        | (refine ⟨trivial, CallsIn.inRound l' ((callsIn_wide.2 (unhide HH)).mono ?_)⟩; rintro e w2 ⟨z, rfl, hz, hk2⟩; obtain rfl : z = true := hz.2 (unhide HM); have cy2 := K0.cellz hk2 (show Wr.drew.cell? ⟨W.heap.size, 0, none⟩ = _ from cy); obtain ⟨fn, tmps, assign, body, hy, hRd⟩ := unhide HYY w2 hk2; have HRd := hide hRd; clear hRd hz; dsimp only [encN] at hy)
        | (refine RoundIn.mono (F := Fence.wide.inRound l') (unhide HRd) ?_; rintro e W3 ⟨z2, rfl, hz2⟩)
        | (refine ⟨depth_any, ?_⟩; refine RoundIn.mono (F := Fence.wide.inRound l') (unhide HRd) ?_; rintro e W3 ⟨z2, rfl, hz2⟩))
      all_goals
        have hk9 : ∀ (Q : World → Nat → Prop), Kf Q w2 W3 → (∀ D D' k, Q D k → Q D' k) → Kf Q Wr W3 := fun Q h hq => ⟨h.os.trans hk2.os, h.tape.trans hk2.tape, h.output.trans hk2.output, Nat.le_trans hk2.size h.size, fun k hk' hn => (h.block k (Nat.lt_of_lt_of_le hk' hk2.size) (fun hf => hn (hq _ _ _ hf))).trans (hk2.heap hk'), fun k hf => .inl (hq _ _ _ hf)⟩
        have HK9 := hide (And.intro hk9 hz2)
        clear hk9 hz2 hk2 hy cy2 HRd
        cases z2
        · gi_wp2_with fail
          obtain ⟨hk9, hz2⟩ := unhide HK9
          obtain ⟨hx, hkx⟩ := hz2.2 (by first | rfl | trivial)
          exact ⟨hk9 _ hkx (fun _ _ _ h => h), _, hx⟩
        · gi_wp2_with fail
          obtain ⟨hk9, hz2⟩ := unhide HK9
          obtain ⟨hx, hkx⟩ := hz2.1 (by first | rfl | trivial)
          obtain ⟨hP, _⟩ := unhide HP
          have hkf := hk9 _ hkx (fun _ _ _ h => h)
          refine ⟨⟨hkf.os, hkf.tape, hkf.output, hkf.size, fun k hk hn => hkf.block k hk (fun h => hn (.inl h)), fun k h => .inl h⟩, ?_⟩
          exact hP.turned (Fx := Fc) ⟨hkf.os, hkf.tape, hkf.output, hkf.size, hkf.block⟩ (by rw [flt_yes (unhide HM)]; exact hx) hFW hFt hFb
    · have HM := hide hMB
      clear hP hY hMB hIs hJs hJx hfr h0 hA hB hKW hbtW hbbW hI0 hmv hkd hx3
      gi_wp2_with fail
      gi_region_with (first
        | (refine ⟨trivial, CallsIn.inRound l' ((callsIn_wide.2 (unhide HH)).mono ?_)⟩; rintro e w2 ⟨z, rfl, hz, hk2⟩; obtain rfl : z = false := (by cases z with | false => rfl | true => exact absurd (hz.1 rfl) (unhide HM)); clear hz)
        | (refine ⟨fun f h => (by cases h), ?_⟩))
      all_goals
        have HK2 := hide hk2
        clear hk2
        gi_wp2_with fail
        obtain ⟨hP, hIs, hJs, hmv⟩ := unhide HP
        have h9 := hIs pre Wr w2 hP (hmv w2 (unhide HK2))
        refine ⟨⟨(unhide HK2).os, (unhide HK2).tape, (unhide HK2).output, (unhide HK2).size, fun k hk _ => (unhide HK2).heap hk, fun k h => .inl h⟩, ?_⟩
        exact ⟨by rw [flt_no (unhide HM)]; exact h9.j, h9.bel, h9.by_, h9.bt, h9.bb, h9.sz⟩
  case done =>
    rintro D xs W9 hD hS9 hP hK
    have HP := hide (And.intro hP (And.intro hS9 (And.intro hK hJs)))
    clear hP hS9 hY hIs hJs hJx hfr h0 hA hB hKW hbtW hbbW hI0
    gi_wp2_with fail
    refine ⟨by simp, .inl ⟨_, _, rfl, run_takeDeferred hK, ?_⟩⟩
    refine ⟨_, results_none rfl _ _ _, ?_⟩
    obtain ⟨hP, hS9, _, hJs⟩ := unhide HP
    refine ⟨⟨_, rfl⟩, .inl ⟨flt B u xs, fun y => ?_, (hJs _ _ _ hP.j (Fz.of_grown (grownBy_putObj' W9 D (.deferred none)) (fun k e => by cases e; exact ⟨by omega, fun h => by have := (hFW _ h).2; omega⟩))).1⟩⟩
    rw [mem_flt, hS9 y]
    constructor
    · rintro ⟨⟨a, b⟩, c⟩; exact ⟨a, b, c⟩
    · rintro ⟨a, b, c⟩; exact ⟨⟨a, b⟩, c⟩
  case stop =>
    rintro D pre W9 hD hS9 ⟨q, hq⟩ hK
    have HP := hide (And.intro hq (And.intro hK hJx))
    clear hq hY hIs hJs hJx hfr h0 hA hB hKW hbtW hbbW hI0
    gi_wp2_with fail
    refine ⟨by simp, .inl ⟨_, _, rfl, run_takeDeferred hK, ?_⟩⟩
    refine ⟨_, results_none rfl _ _ _, ?_⟩
    obtain ⟨hq, _, hJx⟩ := unhide HP
    exact ⟨⟨_, rfl⟩, .inr ⟨q, trivial, hJx _ _ _ hq (Fz.of_grown (grownBy_putObj' W9 D (.deferred none)) (fun k e => by cases e; exact ⟨by omega, fun h => by have := (hFW _ h).2; omega⟩))⟩⟩

end Go.Proofs.YtlljggefbngkeaaGreatDoor
