import Derived.Test.YtlljggefbngkeaaGreatDoorV35
import Derived.Test.YtlljggefbngkeaaGreatDoorV19
import Derived.Test.YtlljggefbngkeaaGreatDoorV12
namespace Go.Proofs.YtlljggefbngkeaaGreatDoor
open Go.RowKit Go.Shelf
attribute [local go_sem] Oper.semAt_some

set_option maxRecDepth 100000 in
set_option maxHeartbeats 1600000 in
theorem pplaces (n ba bb : Nat) (u : ByteArray) (w : World) : CallsIn Fence.wide n Tryz.prog 142 #[.pointer (some ⟨ba, 0, none⟩), .pointer (some ⟨bb, 0, none⟩), .string u] w fun e w' =>
    e = .returned (.func (.func 160) #[] #[.pointer (some ⟨w.heap.size, 0, none⟩), .pointer (some ⟨w.heap.size + 2, 0, none⟩), .pointer (some ⟨w.heap.size + 1, 0, none⟩)]) ∧ w' = ((w.alloc (.cells #[.pointer (some ⟨ba, 0, none⟩)] 120)).alloc (.cells #[.pointer (some ⟨bb, 0, none⟩)] 120)).alloc (.cells #[.string u] 9) := by
  refine callsIn_of_wp Tryz.func142 rfl trivial ?_ rfl
  simp only [Tryz.ntmps142, List.size_toArray, List.length_cons, List.length_nil, Nat.reduceAdd, Nat.reduceSub, Array.replicate_succ, Array.replicate_zero, List.push_toArray, List.append_toArray, List.nil_append, List.cons_append]
  gi_wp2
  go_ret
  exact ⟨rfl, rfl⟩

theorem thr_at (W : World) (o1 o2 o3 : Obj) : ∃ w5, ((W.alloc o1).alloc o2).alloc o3 = w5 ∧ w5.heap.size = W.heap.size + 3 ∧ w5.heap[W.heap.size]? = some o1 ∧ w5.heap[W.heap.size + 1]? = some o2 ∧ w5.heap[W.heap.size + 2]? = some o3 ∧ W.grownBy w5 none := by
  refine ⟨_, rfl, by simp, heap_alloc_old _ (heap_alloc_old _ (heap_alloc_new W _)), heap_alloc_old _ (alloc2_at W _ _), ?_, ((World.grownBy_alloc W _ none).trans (World.grownBy_alloc _ _ none)).trans (World.grownBy_alloc _ _ none)⟩
  have := alloc2_at (W.alloc o1) o2 o3
  simpa using this

theorem txt_takez (v : List UInt8) (i : Nat) : (txt v).extract 0 i = txt (v.take i) := by
  have e : (txt v).data.toList = v := by simp [txt]
  have := txt_sub (txt v) 0 i
  rw [e, sub_zero_take] at this
  exact this.symm

/-- before a place is given out -/
structure PtI (w : World) (m : Int) (ba bb : Nat) (u : List UInt8) (pre : List Nat) (D : World) : Prop where
  none_ : pre = []
  bel : K0 w D
  b0 : D.heap[w.heap.size]? = some (.cells #[.int .i64 m, .pointer (some ⟨ba, 0, none⟩), .pointer (some ⟨bb, 0, none⟩)] 128 (0, 0))
  b1 : D.heap[w.heap.size + 1]? = some (.cells #[.string (txt u)] 9 (0, 0))
  b2 : D.heap[w.heap.size + 2]? = some (.cells #[.string ⟨#[]⟩] 9 (0, 0))
  b3 : D.heap[w.heap.size + 3]? = some (.cells #[.string ⟨#[]⟩] 9 (0, 0))
  sz : w.heap.size + 7 ≤ D.heap.size
structure PtX (w : World) (A B : PT) (u : List UInt8) (pre : List Nat) (D : World) : Prop where
  ex : ∃ x, POk A B u [] x ∧ D.heap[w.heap.size + 2]? = some (.cells #[.string (txt (u.take x))] 9 (0, 0)) ∧ D.heap[w.heap.size + 3]? = some (.cells #[.string (txt (u.drop x))] 9 (0, 0))
  bel : K0 w D

/-- can it be parted? -/
def CutAt (A B : PT) (u : List UInt8) : Prop := ∃ i, i ≤ u.length ∧ M A (u.take i) ∧ M B (u.drop i)
/-- what part answers -/
def PtPost2 (w : World) (A B : PT) (u : List UInt8) (m : Int) (e : Ending) (w' : World) : Prop :=
  ((CutAt A B u ∧ e = .returned (.tuple #[.string (txt (u.take (cutN A B u))), .string (txt (u.drop (cutN A B u)))])) ∨ (¬ CutAt A B u ∧ e = .panicked (misP m))) ∧ K0 w w'

set_option maxRecDepth 100000 in
set_option maxHeartbeats 6400000 in
theorem part_said {w : World} {A B : PT} {ba bb : Nat} {m : Int} {u : List UInt8} (hA : MachAt w A ba) (hB : MachAt w B bb) (hul : u.length ≤ 1000) :
    Calls Tryz.prog 103 #[.agg #[.int .i64 m, .pointer (some ⟨ba, 0, none⟩), .pointer (some ⟨bb, 0, none⟩)], .string (txt u)] w fun e w' => PtPost2 w A B u m e w' := by
  refine (callsIn_wide (n := 3)).1 ?_
  refine callsIn_of_wp_marks Tryz.func103 rfl trivial ?_ rfl
  simp only [Tryz.ntmps103, List.size_toArray, List.length_cons, List.length_nil, Nat.reduceAdd, Nat.reduceSub, Array.replicate_succ, Array.replicate_zero, List.push_toArray, List.append_toArray, List.nil_append, List.cons_append]
  gi_wp2_with fail
  refine ⟨trivial, (pplaces 2 ba bb (txt u) _).mono ?_⟩
  rintro e w' ⟨rfl, rfl⟩
  gi_wp2_with fail
  obtain ⟨w4, hw4, hs4, p0, p1, p2, p3, hg4⟩ := four_at w (.cells #[.int .i64 m, .pointer (some ⟨ba, 0, none⟩), .pointer (some ⟨bb, 0, none⟩)] 128) (.cells #[.string (txt u)] 9) (.cells #[.string ⟨#[]⟩] 9) (.cells #[.string ⟨#[]⟩] 9)
  rw [hw4]
  obtain ⟨w7, hw7, hs7, q0, q1, q2, hg7⟩ := thr_at w4 (.cells #[.pointer (some ⟨ba, 0, none⟩)] 120) (.cells #[.pointer (some ⟨bb, 0, none⟩)] 120) (.cells #[.string (txt u)] 9)
  rw [hw7]
  simp only [Nat.add_assoc, Nat.reduceAdd]
  rw [hs4] at q0 q1 q2 hs7
  simp only [Nat.add_assoc, Nat.reduceAdd] at q0 q1 q2 hs7
  have hk4 : K0 w w4 := K0.of_grownz hg4
  have hk7 : K0 w4 w7 := K0.of_grownz hg7
  have hI0 : PtI w m ba bb u [] w7 := {
    none_ := rfl
    bel := hk4.trans hk7
    b0 := (hk7.heap (heap_lt p0)).trans p0
    b1 := (hk7.heap (heap_lt p1)).trans p1
    b2 := (hk7.heap (heap_lt p2)).trans p2
    b3 := (hk7.heap (heap_lt p3)).trans p3
    sz := by omega }
  clear hw4 hw7 p0 p1 p2 p3 hg4 hg7
  refine wpIn_rangeX (α := Nat) rfl (by decide) (gf := 160) (lb := #[.pointer (some ⟨w.heap.size + 4, 0, none⟩), .pointer (some ⟨w.heap.size + 6, 0, none⟩), .pointer (some ⟨w.heap.size + 5, 0, none⟩)]) rfl trivial (enters_of Tryz.func160 (by kernel_rfl) rfl) (fun _ _ _ => Iff.rfl)
    (places_seq (Fc := fun k => k = w.heap.size + 2 ∨ k = w.heap.size + 3) hA hB hul (hk4.trans hk7) (fun k h => by omega) (by omega) (by omega) q0 q2 q1) (fun _ => rfl)
    (PtI w m ba bb u) (PtX w A B u)
    (fun pre D D' h hz => ⟨{
      none_ := h.none_
      bel := ⟨hz.os.trans h.bel.os, hz.tape.trans h.bel.tape, hz.output.trans h.bel.output, Nat.le_trans h.bel.size hz.size, fun k hk _ => (hz.block k (Nat.lt_of_lt_of_le hk h.bel.size) (.inl (by omega))).trans (h.bel.heap hk)⟩
      b0 := (hz.block _ (heap_lt h.b0) (.inl (by omega))).trans h.b0
      b1 := (hz.block _ (heap_lt h.b1) (.inl (by omega))).trans h.b1
      b2 := (hz.block _ (heap_lt h.b2) (.inl (by omega))).trans h.b2
      b3 := (hz.block _ (heap_lt h.b3) (.inl (by omega))).trans h.b3
      sz := Nat.le_trans h.sz hz.size }, fun _ => Iff.rfl⟩)
    (fun pre D D' h hb hs ho ht hu => by
      obtain ⟨x, hx, h2, h3⟩ := h.ex
      exact ⟨⟨x, hx, (hb _ (heap_lt h2) (.inl (by omega))).trans h2, (hb _ (heap_lt h3) (.inl (by omega))).trans h3⟩, ⟨ho.trans h.bel.os, ht.trans h.bel.tape, hu.trans h.bel.output, by rw [hs]; exact h.bel.size, fun k hk _ => (hb k (Nat.lt_of_lt_of_le hk h.bel.size) (.inl (by omega))).trans (h.bel.heap hk)⟩⟩)
    (fun pre D D' h hz => by
      obtain ⟨x, hx, h2, h3⟩ := h.ex
      exact ⟨⟨x, hx, (hz.block _ (heap_lt h2) (.inl (by omega))).trans h2, (hz.block _ (heap_lt h3) (.inl (by omega))).trans h3⟩, ⟨hz.os.trans h.bel.os, hz.tape.trans h.bel.tape, hz.output.trans h.bel.output, Nat.le_trans h.bel.size hz.size, fun k hk _ => (hz.block k (Nat.lt_of_lt_of_le hk h.bel.size) (.inl (by omega))).trans (h.bel.heap hk)⟩⟩)
    (fun pre D k h hk => .inl (by omega)) (fun _ pre D h k hk => by have := h.sz; omega)
    hI0 ?a1 ?assign ?body ?done ?stop
  case assign =>
    intro l' x D K hK
    simp only [encN]
    gi_wp2
    exact hK
  case body =>
    rintro l' pre x Wr hP hOk hWs
    obtain rfl := hP.none_
    have ct := cellOf hP.b1 0
    have c2 := cellOf hP.b2 0
    have c3 := cellOf hP.b3 0
    have f2 := frozenOf hP.b2 0
    have f3 := frozenOf hP.b3 0
    simp at ct c2 c3
    have hsu : (txt u).size = u.length := txt_size u
    have hxi : (x : Int) ≤ (u.length : Int) := by have := hOk.1; omega
    have htd : (txt u).extract x u.length = txt (u.drop x) := txt_dropz u x
    have htk : (txt u).extract 0 x = txt (u.take x) := txt_takez u x
    have HP := hide (And.intro hP hOk)
    clear hP hOk hA hB hI0
    gi_wp2_with fail
    refine wpIn_mono (Q := fun e _ w' => e = .normal ∧ w' = ((Wr.setCell ⟨w.heap.size + 2, 0, none⟩ (.string (txt (u.take x)))).setCell ⟨w.heap.size + 3, 0, none⟩ (.string (txt (u.drop x)))).drew) ?_ ?_
    · gi_region_with fail
      all_goals exact ⟨rfl, rfl⟩
    · rintro e a' w' ⟨rfl, rfl⟩
      gi_wp2_with fail
      obtain ⟨hP, hOk⟩ := unhide HP
      have g2 := heap_set hP.b2 0 (.string (txt (u.take x)))
      simp at g2
      have g2' := (Below.heap_setCell (Wr.setCell ⟨w.heap.size + 2, 0, none⟩ (.string (txt (u.take x)))) ⟨w.heap.size + 3, 0, none⟩ (.string (txt (u.drop x))) (w.heap.size + 2) (by simp)).trans g2
      have g3 := heap_set ((Below.heap_setCell Wr ⟨w.heap.size + 2, 0, none⟩ (.string (txt (u.take x))) (w.heap.size + 3) (by simp)).trans hP.b3) 0 (.string (txt (u.drop x)))
      simp at g3
      have far : ∀ k, k ≠ w.heap.size + 2 → k ≠ w.heap.size + 3 → ((Wr.setCell ⟨w.heap.size + 2, 0, none⟩ (.string (txt (u.take x)))).setCell ⟨w.heap.size + 3, 0, none⟩ (.string (txt (u.drop x)))).heap[k]? = Wr.heap[k]? := fun k h1 h2 => (Below.heap_setCell _ _ _ _ h2).trans (Below.heap_setCell _ _ _ _ h1)
      have hsz : ((Wr.setCell ⟨w.heap.size + 2, 0, none⟩ (.string (txt (u.take x)))).setCell ⟨w.heap.size + 3, 0, none⟩ (.string (txt (u.drop x)))).heap.size = Wr.heap.size := by simp [World.setCell]
      refine ⟨⟨rfl, rfl, rfl, Nat.le_of_eq hsz.symm, fun k _ hn => far k (fun h => hn (.inl h)) (fun h => hn (.inr h)), fun k h => .inl h⟩, ⟨x, hOk, g2', g3⟩, ⟨hP.bel.os, hP.bel.tape, hP.bel.output, ?_, fun k hk _ => (far k (by omega) (by omega)).trans (hP.bel.heap hk)⟩⟩
      show w.heap.size ≤ ((Wr.setCell ⟨w.heap.size + 2, 0, none⟩ (.string (txt (u.take x)))).setCell ⟨w.heap.size + 3, 0, none⟩ (.string (txt (u.drop x)))).heap.size
      rw [hsz]
      exact hP.bel.size
  case done =>
    rintro D xs W9 hD hS9 hP hK
    obtain rfl := hP.none_
    have c0 := cellOf hP.b0 0
    simp at c0
    have HP := hide (And.intro hP hS9)
    clear hP hS9 hA hB hI0
    gi_wp2_with fail
    refine ⟨by simp, .inl ⟨_, _, rfl, run_takeDeferred hK, ?_⟩⟩
    obtain ⟨hP, hS9⟩ := unhide HP
    have hkz : K0 w (W9.putObj D (.deferred none)) := by
      refine ⟨hP.bel.os, hP.bel.tape, hP.bel.output, ?_, fun k hk _ => (World.putObj_heap_other (by omega)).trans (hP.bel.heap hk)⟩
      have := hP.bel.size
      simpa [World.putObj] using this
    have hno : ¬ CutAt A B u := fun ⟨i, h1, h2, h3⟩ => by have := (hS9 i).2 ⟨h1, h2, h3⟩; cases this
    first
      | exact ⟨.inr ⟨hno, rfl⟩, hkz⟩
      | (simp [LeavesInM, settle]; exact ⟨.inr ⟨hno, rfl⟩, hkz⟩)
  case stop =>
    rintro D pre W9 hD hS9 hP hK
    have HP := hide hP
    clear hP hA hB hI0
    gi_wp2_with fail
    refine ⟨by simp, .inl ⟨_, _, rfl, run_takeDeferred hK, ?_⟩⟩
    obtain ⟨⟨x, hOk, h2, h3⟩, hbel⟩ := unhide HP
    have q2 := (World.putObj_heap_other (w := W9) (r := D) (o := .deferred none) (k := w.heap.size + 2) (by omega)).trans h2
    have q3 := (World.putObj_heap_other (w := W9) (r := D) (o := .deferred none) (k := w.heap.size + 3) (by omega)).trans h3
    have e2 := cellOf q2 0
    have e3 := cellOf q3 0
    simp at e2 e3
    have hkz : K0 w (W9.putObj D (.deferred none)) := by
      refine ⟨hbel.os, hbel.tape, hbel.output, ?_, fun k hk _ => (World.putObj_heap_other (by omega)).trans (hbel.heap hk)⟩
      have := hbel.size
      simpa [World.putObj] using this
    have hcut : CutAt A B u := ⟨x, hOk.1, hOk.2.1, hOk.2.2.1⟩
    have hxc : x = cutN A B u := by
      obtain ⟨_, d1, d2, d3, d4⟩ := cut_spec hcut
      rcases Nat.lt_trichotomy x (cutN A B u) with h | h | h
      · exact absurd ⟨hOk.2.1, hOk.2.2.1⟩ (d4 x h)
      · exact h
      · have := (hOk.2.2.2 (cutN A B u)).2 ⟨h, d2, d3⟩
        cases this
    refine ⟨.tuple #[.string (txt (u.take x)), .string (txt (u.drop x))], ?_, ?_⟩
    · simp [results, Tryz.f103, go_sem, e2, e3]
    · rw [hxc]
      exact ⟨.inl ⟨hcut, rfl⟩, hkz⟩

end Go.Proofs.YtlljggefbngkeaaGreatDoor

namespace Go.Proofs.YtlljggefbngkeaaGreatDoor
open Go.RowKit Go.Shelf

def pagg (m : Int) (ba bb : Nat) : Value := .agg #[.int .i64 m, .pointer (some ⟨ba, 0, none⟩), .pointer (some ⟨bb, 0, none⟩)]

set_option maxRecDepth 100000 in
set_option maxHeartbeats 3200000 in
theorem ppieces_ok {w : World} {A : PT} {ba bb : Nat} {m : Int} {u : List UInt8} (hA : MachAt w A ba) (hB : MachAt w (.rep 42 A) bb) (h0 : ¬ M A []) (hu : M (.rep 42 A) u) (hul : u.length ≤ 1000) :
    Calls Tryz.prog 112 #[pagg m ba bb, .string (txt u)] w fun e w' => PcPost w (pcF A u) e w' := by
  obtain ⟨i1, hi1, hy0, hy1, hy2⟩ := info_parts Tryz.infoStr
  have HPt := hide (fun (W : World) (hk : K0 w W) (v : List UInt8) (hv : v.length ≤ 1000) => part_said (m := m) (u := v) (hA.k0 hk) (hB.k0 hk) hv)
  have HU := hide (And.intro h0 hu)
  clear hA hB h0 hu
  unfold pagg
  go_enter Tryz.func112, Tryz.ntmps112
  go_wp2_with fail
  obtain ⟨w1, hw1, hs1, b0, hk1⟩ : ∃ w1, w.alloc (.cells #[.int .i64 m, .pointer (some ⟨ba, 0, none⟩), .pointer (some ⟨bb, 0, none⟩)] 128 (0, 0)) = w1 ∧ w1.heap.size = w.heap.size + 1 ∧ w1.heap[w.heap.size]? = some (.cells #[.int .i64 m, .pointer (some ⟨ba, 0, none⟩), .pointer (some ⟨bb, 0, none⟩)] 128 (0, 0)) ∧ K0 w w1 := ⟨_, rfl, by simp, heap_alloc_new w _, Kp.alloc _ _ _⟩
  rw [hw1]
  clear hw1
  go_loopg [1, 5] (u.length + 2) (fun gk sv lv wv => ∃ (v : List UInt8) (l : List (List UInt8)), sv = .string (txt v) ∧ M (.rep 42 A) v ∧ v.length ≤ 1000 ∧ v.length < gk ∧ l.length + v.length ≤ 1000 ∧ pcF A u = l ++ pcF A v ∧ wv.ownsRow 0 9 1 lv l.length (strs_ l) ∧ (∀ j, lv.ownBlock = some j → w1.heap.size ≤ j) ∧ K0 w1 wv)
  case atStart => exact ⟨u, [], rfl, (unhide HU).2, hul, by omega, by simpa using hul, by simp, World.ownsRow_nil _ _ _ _, fun j e => (by cases e), K0.refl _⟩
  case round =>
    obtain ⟨v, l, rfl, hv, hvl, hgk, hll, hpc, hown, hfar, hK⟩ := hrel
    obtain ⟨ao, cp, rfl⟩ := own_slice hown
    by_cases hv0 : v = []
    · subst hv0
      have t0 : ((txt []).toList.isEmpty) = true := txt_none
      have H7 := hide (And.intro hpc (And.intro hown (hk1.trans hK)))
      clear hv hpc hown hfar hK
      go_wp2
      go_ret
      obtain ⟨hpc, hown, hK⟩ := unhide H7
      rw [pcF_nil, List.append_nil] at hpc
      rw [hpc]
      exact ⟨_, rfl, hown, hK⟩
    · have t0 : ((txt v).toList.isEmpty) = false := txt_some v hv0
      have hb := (hK.heap (heap_lt b0)).trans b0
      have c0 := cellOf hb 0
      have c1 := cellOf hb 1
      have c2 := cellOf hb 2
      simp at c0 c1 c2
      have hcut := star_cut hv0 hv
      have HP := hide (unhide HPt wr (hk1.trans hK) v hvl)
      have H7 := hide (And.intro hv (And.intro hpc (And.intro hown (And.intro hfar (And.intro hK hcut)))))
      clear hv hpc hown hfar hK hcut
      go_wp2_with fail
      refine (unhide HP).mono ?_
      rintro e w2 ⟨(⟨_, rfl⟩ | ⟨hn, _⟩), hk2⟩
      · obtain ⟨hv, hpc, hown, hfar, hK, hcut⟩ := unhide H7
        have hown2 := own_same hown (fun j e => hk2.heap (own_lt hown j e))
        have HO := hide (And.intro hown2 hk2)
        clear hv hpc hown hfar hK hcut hown2 hk2
        go_wp2_with (at_builtin; refine wpList_append_lies _ rfl (.tmp 16) (.tmp 18) 64 rfl 0 9 i1 _ 1 16 Tryz.underlying64 hi1 hy0 hy1 hy2 rfl (by decide) (.slice ao l.length cp) l.length (strs_ l) rfl ((unhide HO).1.alloc _) ⟨w2.heap.size, 0, none⟩ 1 1 [.string (txt (v.take (cutN A (.rep 42 A) v)))] rfl rfl (World.news_of_block (cs := #[.string (txt (v.take (cutN A (.rep 42 A) v)))]) (heap_alloc_new w2 _)) (by simp [Value.oneCell']) (by omega) (by unfold maxLen; omega) (by omega) (Nat.zero_le _) _ rfl ?_)
        intro g9 cap9 w9 hown9 hgrow9 hat9 hlt9
        have HE : Hid (∃ (v' : List UInt8) (l' : List (List UInt8)), v' = v.drop (cutN A (.rep 42 A) v) ∧ l' = l ++ [v.take (cutN A (.rep 42 A) v)] ∧ M (.rep 42 A) v' ∧ v'.length < v.length ∧ pcF A u = l' ++ pcF A v' ∧ w9.ownsRow 0 9 1 (.slice (some ⟨g9, 0, none⟩) (l.length + 1) cap9) (l.length + 1) (strs_ l') ∧ w1.heap.size ≤ g9 ∧ K0 w1 w9) := by
          obtain ⟨hv, hpc, hown, hfar, hK, hcut⟩ := unhide H7
          obtain ⟨hown2, hk2⟩ := unhide HO
          obtain ⟨_, d2, d3, d4, d5⟩ := cut_spec hcut
          have d6 := star_pos (unhide HU).1 hv0 hv
          have hsz9 := hgrow9.size
          simp at hsz9
          have hKr := hK.trans hk2
          have hzr := hKr.size
          refine ⟨_, _, rfl, rfl, d4, by rw [List.length_drop]; omega, ?_, ?_, ?_, ?_⟩
          · rw [hpc, pcF_cons (unhide HU).1 hv0 hv, List.append_assoc]; rfl
          · have : strs_ (l ++ [v.take (cutN A (.rep 42 A) v)]) = strs_ l ++ [.string (txt (v.take (cutN A (.rep 42 A) v)))] := by simp [strs_]
            rw [this]
            exact hown9
          · rcases hat9 with e | e
            · exact hfar g9 e
            · omega
          · refine ⟨hgrow9.os.trans hKr.os, hgrow9.tape.trans hKr.tape, hgrow9.output.trans hKr.output, by omega, fun j hj _ => ?_⟩
            rw [hgrow9.block j (by simp; omega) (fun e => by have := hfar j e.symm; omega), Below.heap_alloc _ _ _ (by omega)]
            exact hKr.heap hj
        clear hown9 hgrow9 hat9 HO
        go_wp2_with fail
        go_roundg (gk - 1)
        case measure => omega
        case rel =>
          obtain ⟨v', l', rfl, rfl, hv', hvl', hpc', ho', hf', hk'⟩ := unhide HE
          refine ⟨v.drop (cutN A (.rep 42 A) v), l ++ [v.take (cutN A (.rep 42 A) v)], rfl, hv', by omega, by omega, by rw [List.length_append, List.length_singleton]; omega, hpc', ?_, fun j e => ?_, hk'⟩
          · rw [List.length_append, List.length_singleton]; exact ho'
          · simp [Value.ownBlock] at e
            omega
      · exact absurd (unhide H7).2.2.2.2.2 hn

set_option maxRecDepth 100000 in
set_option maxHeartbeats 3200000 in
theorem ppieces_no {w : World} {A : PT} {ba bb : Nat} {m : Int} {u : List UInt8} (hA : MachAt w A ba) (hB : MachAt w (.rep 42 A) bb) (hu : ¬ M (.rep 42 A) u) (hul : u.length ≤ 1000) :
    Calls Tryz.prog 112 #[pagg m ba bb, .string (txt u)] w fun e w' => e = .panicked (misP m) ∧ K0 w w' := by
  have hu0 : u ≠ [] := fun e => hu (by rw [e]; exact M.star MS.nil)
  have t0 : ((txt u).toList.isEmpty) = false := txt_some u hu0
  have hno : ¬ CutAt A (.rep 42 A) u := fun ⟨i, h1, h2, h3⟩ => hu (by
    have := M.star (MS.cons h2 (M.star_iff.1 h3))
    rwa [List.take_append_drop] at this)
  have HPt := hide (fun (W : World) (hk : K0 w W) => part_said (m := m) (u := u) (hA.k0 hk) (hB.k0 hk) hul)
  have HN := hide hno
  clear hA hB hu hno
  unfold pagg
  go_enter Tryz.func112, Tryz.ntmps112
  go_wp2_with fail
  have hb0 := heap_alloc_new w (.cells #[.int .i64 m, .pointer (some ⟨ba, 0, none⟩), .pointer (some ⟨bb, 0, none⟩)] 128)
  have hk0 : K0 w (w.alloc (.cells #[.int .i64 m, .pointer (some ⟨ba, 0, none⟩), .pointer (some ⟨bb, 0, none⟩)] 128)) := Kp.alloc _ _ _
  refine wp_loop_rounds 1 ?_
  rw [rounds_succ]
  go_wp2_with fail
  refine (unhide HPt _ hk0).mono ?_
  rintro e w2 ⟨(⟨hc, _⟩ | ⟨_, rfl⟩), hk2⟩
  · exact absurd hc (unhide HN)
  · go_wp2
    exact ⟨rfl, rfl, hk0.trans hk2⟩

end Go.Proofs.YtlljggefbngkeaaGreatDoor

namespace Go.Proofs.YtlljggefbngkeaaGreatDoor
open Go.RowKit Go.Shelf

/-- machines of a row of patterns -/
structure MsAt (w : World) (sl : Value) (gs : List Nat) (ts : List PT) : Prop where
  len : gs.length = ts.length
  few : gs.length ≤ 1000
  own : w.ownsRow 0 120 1 sl gs.length (ptrs gs)
  at_ : ∀ (i : Nat) (g : Nat) (t : PT), gs[i]? = some g → ts[i]? = some t → MachAt w t g
theorem MsAt.k0 {w w' : World} {sl : Value} {gs : List Nat} {ts : List PT} (h : MsAt w sl gs ts) (hk : K0 w w') : MsAt w' sl gs ts :=
  ⟨h.len, h.few, own_same h.own (fun k e => hk.heap (own_lt h.own k e)), fun i g t h1 h2 => (h.at_ i g t h1 h2).k0 hk⟩

set_option maxRecDepth 100000 in
set_option maxHeartbeats 1600000 in
theorem has_said {w : World} {sl : Value} {gs : List Nat} {ts : List PT} {m : Int} {i : Nat} {t : PT} {u : List UInt8} (h : MsAt w sl gs ts) (hi : ts[i]? = some t) (hu : u.length ≤ 1000) :
    Calls Tryz.prog 119 #[.agg #[.int .i64 m, sl], .int .i64 (i : Int), .string (txt u)] w fun e w' => (∃ x : Bool, e = .returned (.bool x) ∧ (x = true ↔ M t u)) ∧ K0 w w' := by
  have hil := (List.getElem?_eq_some_iff.1 hi).1
  have hig : i < gs.length := by rw [h.len]; exact hil
  have hgi : gs[i]? = some gs[i] := List.getElem?_eq_getElem hig
  obtain ⟨vb, cap, rfl, _, hvl⟩ := h.own.form (by omega)
  have hii : (i : Int) < (gs.length : Int) := by omega
  have hc : w.cell? ⟨vb, i, none⟩ = some (.pointer (some ⟨gs[i], 0, none⟩)) := by
    rw [h.own.cellAt i (by omega)]
    simp [ptrs, hgi]
  have cz : ∀ o, (w.alloc o).cell? ⟨vb, i, none⟩ = some (.pointer (some ⟨gs[i], 0, none⟩)) := fun o => by rw [World.cell?_alloc_past _ _ _ hvl]; exact hc
  have HH := hide (fun (W : World) (hk : K0 w W) => mach_holds ((h.at_ i _ t hgi hi).k0 hk) hu)
  have hfew := h.few
  clear h hc
  generalize gs[i] = g at *
  generalize gs.length = n at *
  go_enter Tryz.func119, Tryz.ntmps119
  go_wp2_with fail
  refine (unhide HH _ (Kp.alloc _ _ _)).mono ?_
  rintro e w1 ⟨x, rfl, hx, hk1⟩
  go_wp2
  go_ret
  exact ⟨⟨x, rfl, hx⟩, K0.trans (Kp.alloc _ _ _) hk1⟩

end Go.Proofs.YtlljggefbngkeaaGreatDoor

namespace Go.Proofs.YtlljggefbngkeaaGreatDoor
open Go.RowKit Go.Shelf

/-- what which answers -/
def WhPost (w : World) (ts : List PT) (u : List UInt8) (m : Int) (e : Ending) (w' : World) : Prop :=
  ((∃ (i : Nat) (t : PT), ts[i]? = some t ∧ M t u ∧ (∀ (j : Nat) (t' : PT), j < i → ts[j]? = some t' → ¬ M t' u) ∧ e = .returned (.int .i64 (i : Int))) ∨ ((∀ t, t ∈ ts → ¬ M t u) ∧ e = .panicked (misP m))) ∧ K0 w w'

set_option maxRecDepth 100000 in
set_option maxHeartbeats 1600000 in
theorem which_said {w : World} {sl : Value} {gs : List Nat} {ts : List PT} {m : Int} {u : List UInt8} (h : MsAt w sl gs ts) (hu : u.length ≤ 1000) :
    Calls Tryz.prog 117 #[.agg #[.int .i64 m, sl], .string (txt u)] w fun e w' => WhPost w ts u m e w' := by
  obtain ⟨ao, cp, rfl⟩ := own_slice h.own
  have hlen := h.len
  have hfew := h.few
  have HH := hide (fun (W : World) (hk : K0 w W) (i : Nat) (t : PT) (hi : ts[i]? = some t) => has_said (m := m) (h.k0 hk) hi hu)
  clear h
  rw [hlen] at HH
  rw [hlen]
  go_enter Tryz.func117, Tryz.ntmps117
  go_wp2_with fail
  obtain ⟨w1, hw1, hs1, b0, hk1⟩ : ∃ w1, w.alloc (.cells #[.int .i64 m, .slice ao ts.length cp] 137 (0, 0)) = w1 ∧ w1.heap.size = w.heap.size + 1 ∧ w1.heap[w.heap.size]? = some (.cells #[.int .i64 m, .slice ao ts.length cp] 137 (0, 0)) ∧ K0 w w1 := ⟨_, rfl, by simp, heap_alloc_new w _, Kp.alloc _ _ _⟩
  rw [hw1]
  clear hw1
  go_loopg [9] (ts.length + 2) (fun gk iv wv => ∃ i : Nat, iv = .int .i64 (i : Int) ∧ i ≤ ts.length ∧ ts.length - i < gk ∧ (∀ (j : Nat) (t' : PT), j < i → ts[j]? = some t' → ¬ M t' u) ∧ K0 w1 wv)
  case atStart => exact ⟨0, rfl, Nat.zero_le _, by omega, fun j t' h => by omega, K0.refl _⟩
  case round =>
    obtain ⟨i, rfl, hi, hgk, hno, hK⟩ := hrel
    have hb := (hK.heap (heap_lt b0)).trans b0
    have c0 := cellOf hb 0
    have c1 := cellOf hb 1
    simp at c0 c1
    have hw1 : IntKind.i64.wrap ((i : Int) + 1) = (i : Int) + 1 := IntWalk.i64_in _ (by omega)
    by_cases hlt : i < ts.length
    · have hd1 : (i : Int) < (ts.length : Int) := by omega
      have hti : ts[i]? = some ts[i] := List.getElem?_eq_getElem hlt
      have HP := hide (unhide HH wr (hk1.trans hK) i _ hti)
      have H7 := hide (And.intro hno (And.intro hK hti))
      clear hno hK hti
      go_wp2_with fail
      refine (unhide HP).mono ?_
      rintro e w2 ⟨⟨x, rfl, hx⟩, hk2⟩
      cases x
      · have HX := hide (And.intro (show ¬ M ts[i] u from fun h => by have := hx.2 h; cases this) hk2)
        clear hx hk2
        go_wp2_with fail
        go_roundg (gk - 1)
        case measure => omega
        case rel =>
          obtain ⟨hno, hK, hti⟩ := unhide H7
          refine ⟨i + 1, by go_num, by omega, by omega, fun j t' hj ht => ?_, hK.trans (unhide HX).2⟩
          by_cases e : j = i
          · subst e
            rw [hti] at ht
            rw [← Option.some.inj ht]
            exact (unhide HX).1
          · exact hno j t' (by omega) ht
      · have HX := hide (And.intro (hx.1 rfl) hk2)
        clear hx hk2
        go_wp2
        go_ret
        obtain ⟨hno, hK, hti⟩ := unhide H7
        exact ⟨.inl ⟨i, ts[i], hti, (unhide HX).1, hno, rfl⟩, (hk1.trans hK).trans (unhide HX).2⟩
    · have hd1 : ¬ (i : Int) < (ts.length : Int) := by omega
      have H7 := hide (And.intro hno hK)
      clear hno hK
      go_wp2
      obtain ⟨hno, hK⟩ := unhide H7
      refine ⟨rfl, .inr ⟨fun t ht hm => ?_, rfl⟩, hk1.trans hK⟩
      obtain ⟨j, hj, rfl⟩ := List.getElem_of_mem ht
      exact hno j _ (by omega) (List.getElem?_eq_getElem hj) hm

end Go.Proofs.YtlljggefbngkeaaGreatDoor
