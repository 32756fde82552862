import Derived.Test.YtlljggefbngkeaaGreatDoorV23
import Derived.Test.YtlljggefbngkeaaGreatDoorV16
import Derived.Test.YtlljggefbngkeaaGreatDoorV17
import Derived.Test.YtlljggefbngkeaaGreatDoorV11
import Derived.BigQuiet
import Derived.Deep.RegionHeld3
namespace Go.Proofs.YtlljggefbngkeaaGreatDoor
open Go.RowKit

/-! The search over pairs in memory: visits, and rows of them. -/

/-- a pair: the phase, the first reader's state, the second's -/
abbrev P3 := Nat × Nat × Nat

def vblk (pr : P3) (fr : Option Addr) (c : Nat) : Obj := .cells #[.int .i64 (pr.1 : Int), .int .i64 (pr.2.1 : Int), .int .i64 (pr.2.2 : Int), .pointer fr, .int .u8 (c : Int)] 227 (0, 0)
def seblk (mb gate beh : Nat) : Obj := .cells #[.pointer (some ⟨mb, 0, none⟩), .int .i64 (gate : Int), .int .i64 (beh : Int)] 209 (0, 0)

def freeOf (F : List MSt) (x : Nat) : List Nat := match F[x]? with | some p => p.free | none => []

/-- one move, without a sign -/
def frees1 (F : List MSt) (pr : P3) : List P3 := (freeOf F pr.2.1).map fun x => (pr.1, x, pr.2.2)
def frees2 (F : List MSt) (pr : P3) : List P3 := (freeOf F pr.2.2).map fun x => (pr.1, pr.2.1, x)
def frees3 (gate beh : Nat) (pr : P3) : List P3 := if pr.1 = 0 ∧ pr.2.1 = gate then [(1, beh, pr.2.2)] else []
def frees4 (gate beh : Nat) (pr : P3) : List P3 := if pr.1 = 2 ∧ pr.2.2 = gate then [(3, pr.2.1, beh)] else []
def frees (F : List MSt) (gate beh : Nat) (pr : P3) : List P3 := frees1 F pr ++ frees2 F pr ++ frees3 gate beh pr ++ frees4 gate beh pr

/-- new visits, come to from g -/
def Vis (w : World) (lo g : Nat) (c : Nat) (ns : List Nat) (prs : List P3) : Prop :=
  ns.length = prs.length ∧ ∀ (i n : Nat) (pr : P3), ns[i]? = some n → prs[i]? = some pr → w.heap[n]? = some (vblk pr (some ⟨g, 0, none⟩) c) ∧ lo ≤ n

/-- a row of visits that has grown -/
structure Grow (w : World) (g c : Nat) (tv : Value) (gs ns : List Nat) (prs : List P3) (tv' : Value) (w' : World) : Prop where
  own : w'.ownsRow 0 225 1 tv' (gs ++ ns).length (ptrs (gs ++ ns))
  at_ : ∀ k, tv'.ownBlock = some k → tv.ownBlock = some k ∨ w.heap.size ≤ k
  vis : Vis w' w.heap.size g c ns prs
  kp : Kp (fun k => tv.ownBlock ≠ some k) w w'

theorem Grow.refl {w : World} {g c : Nat} {tv : Value} {gs : List Nat} (h : w.ownsRow 0 225 1 tv gs.length (ptrs gs)) : Grow w g c tv gs [] [] tv w where
  own := by simpa using h
  at_ := fun k hk => .inl hk
  vis := ⟨rfl, fun i n pr hn => by simp at hn⟩
  kp := Kp.refl _ _

theorem own_ptr_ne {w : World} {v : Value} {n : Nat} {xs : List Value} {k : Nat} {pr : P3} {fr : Option Addr} {c : Nat} (h : w.ownsRow 0 225 1 v n xs) (hk : w.heap[k]? = some (vblk pr fr c)) : v.ownBlock ≠ some k := own_ne hk h (by decide)

theorem Grow.trans {w w1 w2 : World} {g c : Nat} {tv tv1 tv2 : Value} {gs ns ns' : List Nat} {prs prs' : List P3} (h : Grow w g c tv gs ns prs tv1 w1) (h' : Grow w1 g c tv1 (gs ++ ns) ns' prs' tv2 w2) : Grow w g c tv gs (ns ++ ns') (prs ++ prs') tv2 w2 where
  own := by have := h'.own; rwa [List.append_assoc] at this
  at_ := fun k hk => by
    rcases h'.at_ k hk with h1 | h1
    · exact h.at_ k h1
    · exact .inr (Nat.le_trans h.kp.size h1)
  vis := by
    refine ⟨by simp [h.vis.1, h'.vis.1], fun i n pr hn hp => ?_⟩
    by_cases hi : i < ns.length
    · rw [List.getElem?_append_left hi] at hn
      rw [List.getElem?_append_left (by rw [← h.vis.1]; exact hi)] at hp
      obtain ⟨q1, q2⟩ := h.vis.2 i n pr hn hp
      refine ⟨(h'.kp.block n (heap_lt q1) (own_ptr_ne h.own q1)).trans q1, q2⟩
    · rw [List.getElem?_append_right (by omega)] at hn
      rw [List.getElem?_append_right (by rw [← h.vis.1]; omega), ← h.vis.1] at hp
      obtain ⟨q1, q2⟩ := h'.vis.2 _ n pr hn hp
      exact ⟨q1, Nat.le_trans h.kp.size q2⟩
  kp := by
    have hs := h.kp.size
    refine ⟨h'.kp.os.trans h.kp.os, h'.kp.tape.trans h.kp.tape, h'.kp.output.trans h.kp.output, Nat.le_trans hs h'.kp.size, fun k hk hne => (h'.kp.block k (by omega) ?_).trans (h.kp.block k hk hne)⟩
    intro e
    rcases h.at_ k e with h1 | h1
    · exact hne h1
    · omega

/-- what was appended: one visit (laid at lo), and the row -/
theorem Grow.one {w w5 : World} {g c g5 cap5 : Nat} {ao : Option Addr} {cp : Nat} {gs : List Nat} {pr : P3}
    (hown : w5.ownsRow 0 225 1 (.slice (some ⟨g5, 0, none⟩) (gs.length + 1) cap5) (gs.length + 1) (ptrs gs ++ [.pointer (some ⟨w.heap.size, 0, none⟩)]))
    (hg : (w.alloc (vblk pr (some ⟨g, 0, none⟩) c)).grownBy w5 (Value.slice ao gs.length cp).ownBlock) (h0 : w.ownsRow 0 225 1 (.slice ao gs.length cp) gs.length (ptrs gs))
    (hat : (Value.slice ao gs.length cp).ownBlock = some g5 ∨ w.heap.size ≤ g5) :
    Grow w g c (.slice ao gs.length cp) gs [w.heap.size] [pr] (.slice (some ⟨g5, 0, none⟩) (gs.length + 1) cap5) w5 where
  own := by simpa [ptrs] using hown
  at_ := fun k hk => by
    simp [Value.ownBlock] at hk
    subst hk
    exact hat
  vis := by
    refine ⟨rfl, fun i n p hn hp => ?_⟩
    cases i with
    | succ i => simp at hn
    | zero =>
      simp at hn hp
      subst hn hp
      refine ⟨(hg.block _ (by simp) ?_).trans (heap_alloc_new w _), Nat.le_refl _⟩
      intro e
      have := own_lt h0 _ e.symm
      omega
  kp := by
    have := hg.size
    simp at this
    refine ⟨hg.os, hg.tape, hg.output, by omega, fun k hk hne => (hg.block k (by simp; omega) (fun e => hne e.symm)).trans ?_⟩
    rw [Below.heap_alloc _ _ _ hk]

theorem Grow.drewN {w w' : World} {g c : Nat} {tv tv' : Value} {gs ns : List Nat} {prs : List P3} (h : Grow w g c tv gs ns prs tv' w') (n : Nat) : Grow w g c tv gs ns prs tv' (w'.drewN n) where
  own := own_same h.own (fun _ _ => rfl)
  at_ := h.at_
  vis := h.vis
  kp := h.kp.trans (Kp.drewN _ _ n)

theorem Grow.grown {w w' w2 : World} {g c : Nat} {tv tv' : Value} {gs ns : List Nat} {prs : List P3} (h : Grow w g c tv gs ns prs tv' w') (hg : w'.grownBy w2 none) : Grow w g c tv gs ns prs tv' w2 where
  own := own_same h.own (fun k e => hg.block k (own_lt h.own k e) (by simp))
  at_ := h.at_
  vis := ⟨h.vis.1, fun i n pr hn hp => by
    obtain ⟨q1, q2⟩ := h.vis.2 i n pr hn hp
    exact ⟨(hg.block n (heap_lt q1) (by simp)).trans q1, q2⟩⟩
  kp := h.kp.trans (Kp.of_grown hg (fun _ e => by cases e))

/-- what stands apart from the row is as it was -/
theorem Grow.heap {w w' : World} {g c : Nat} {tv tv' : Value} {gs ns : List Nat} {prs : List P3} (h : Grow w g c tv gs ns prs tv' w') {k : Nat} {o : Obj} (hk : w.heap[k]? = some o) (hne : tv.ownBlock ≠ some k) : w'.heap[k]? = some o := (h.kp.block k (heap_lt hk) hne).trans hk

theorem Grow.kpm {wm w w' : World} {Br g c : Nat} {tv tv' : Value} {gs ns : List Nat} {prs : List P3} (h : Grow w g c tv gs ns prs tv' w') (hB : Kp (fun k => k ≠ Br) wm w) (hfar : ∀ k, tv.ownBlock = some k → wm.heap.size ≤ k) : Kp (fun k => k ≠ Br) wm w' :=
  ⟨h.kp.os.trans hB.os, h.kp.tape.trans hB.tape, h.kp.output.trans hB.output, Nat.le_trans hB.size h.kp.size, fun k hk hne => (h.kp.block k (Nat.lt_of_lt_of_le hk hB.size) (fun e => by have := hfar k e; omega)).trans (hB.block k hk hne)⟩

theorem Tryz.infoVP : (Tryz.prog.info? 225).map (fun i => (i.zero, i.size, i.bytes)) = some (some (.pointer none), 1, 8) := by kernel_rfl

end Go.Proofs.YtlljggefbngkeaaGreatDoor

namespace Go.Proofs.YtlljggefbngkeaaGreatDoor
open Go.RowKit

def FreePost (w : World) (F : List MSt) (gate beh g : Nat) (pr : P3) (tv : Value) (gs : List Nat) (e : Ending) (w' : World) : Prop := ∃ tv' ns, e = .returned tv' ∧ Grow w g 0 tv gs ns (frees F gate beh pr) tv' w'
theorem free_done {w w' : World} {F : List MSt} {gate beh g : Nat} {pr : P3} {tv tv' : Value} {gs ns : List Nat} {prs : List P3} (hG : Grow w g 0 tv gs ns prs tv' w') (hp : frees F gate beh pr = prs) : FreePost w F gate beh g pr tv gs (.returned tv') w' := ⟨tv', ns, rfl, by rw [hp]; exact hG⟩

set_option maxRecDepth 100000 in
set_option maxHeartbeats 16000000 in
/-- freely(): the visits that are one move away, without a sign -/
theorem sfreely {wm w : World} {Br mb sb gate beh g c : Nat} {F : List MSt} {st en : Nat} {pr : P3} {fr : Option Addr} {tv : Value} {gs : List Nat}
    (hM : MH wm (fun k => k = Br) mb F st en) (hfl : ∀ x, freeLen F x ≤ 1000) (hB : Kp (fun k => k ≠ Br) wm w) (hs : w.heap[sb]? = some (seblk mb gate beh)) (hv : w.heap[g]? = some (vblk pr fr c))
    (h1 : pr.2.1 < F.length) (h2 : pr.2.2 < F.length) (ht : w.ownsRow 0 225 1 tv gs.length (ptrs gs)) (hn : gs.length ≤ 10000000000000) (hfar : ∀ k, tv.ownBlock = some k → wm.heap.size ≤ k) :
    Calls Tryz.prog 184 #[.pointer (some ⟨sb, 0, none⟩), .pointer (some ⟨g, 0, none⟩), tv] w fun e w' => FreePost w F gate beh g pr tv gs e w' := by
  obtain ⟨i0, hi0, hz0, hz1, hz2⟩ := info_parts Tryz.infoVP
  obtain ⟨ao, cp, rfl⟩ := own_slice ht
  obtain ⟨ph, a, b⟩ := pr
  simp only at h1 h2
  obtain ⟨p, hp⟩ : ∃ p, F[a]? = some p := ⟨_, List.getElem?_eq_getElem h1⟩
  obtain ⟨q, hq⟩ : ∃ q, F[b]? = some q := ⟨_, List.getElem?_eq_getElem h2⟩
  obtain ⟨so, sc, m0, _, mrow⟩ := hM.row hB
  obtain ⟨gs1, v1, rfl, _, _, m1, o1, l1⟩ := mrow a p hp
  have s0 : w.cell? ⟨sb, 0, none⟩ = some (.pointer (some ⟨mb, 0, none⟩)) := by rw [cellOf hs 0]; rfl
  have c1 : w.cell? ⟨g, 1, none⟩ = some (.int .i64 (a : Int)) := by rw [cellOf hv 1]; rfl
  obtain ⟨a1, p1, rfl⟩ := own_slice o1
  have hne := own_ptr_ne ht hv
  have hsn : (Value.slice ao gs.length cp).ownBlock ≠ some sb := own_ne hs ht (by decide)
  have hfa : freeOf F a = p.free := by unfold freeOf; rw [hp]
  have hla : p.free.length ≤ 1000 := by have := hfl a; unfold freeLen at this; rw [hp] at this; exact this
  have HR := hide (And.intro o1 (And.intro l1 (And.intro hfar (And.intro ht (And.intro hv (And.intro hs (And.intro hM hB)))))))
  have H0 := hide (Grow.refl (g := g) (c := 0) ht)
  clear o1 hM hB mrow ht hv hs hfar l1
  go_enter Tryz.func184, Tryz.ntmps184
  go_wp2_with fail
  go_quiet (fail)
  go_wp2_with fail
  clear m0 s0 c1 m1
  go_loopg [2, 27] (p.free.length + 1) (fun gk tv' iv wv => ∃ (k : Nat) (ns : List Nat), iv = .int .i64 (k : Int) ∧ k ≤ p.free.length ∧ p.free.length - k < gk ∧ Grow w g 0 (.slice ao gs.length cp) gs ns ((frees1 F (ph, a, b)).take k) tv' wv)
  case atStart => exact ⟨0, [], rfl, Nat.zero_le _, by omega, by rw [List.take_zero]; exact (unhide H0).drewN _⟩
  case round =>
    obtain ⟨k, ns, rfl, hk, hgk, hG⟩ := hrel
    obtain ⟨o1, l1, hfar, ht, hv, hs, hM, hB⟩ := unhide HR
    obtain ⟨ak, ck, rfl⟩ := own_slice hG.own
    have hgr := hG.heap hv hne
    have c0 : wr.cell? ⟨g, 0, none⟩ = some (.int .i64 (ph : Int)) := by rw [cellOf hgr 0]; rfl
    have c2 : wr.cell? ⟨g, 2, none⟩ = some (.int .i64 (b : Int)) := by rw [cellOf hgr 2]; rfl
    by_cases hlt : k < p.free.length
    · have hd : (k : Int) < (p.free.length : Int) := by omega
      obtain ⟨vb, cap, hveq, _, hvl⟩ := o1.form (by omega)
      injection hveq with hao _ hcp
      subst hao
      subst hcp
      have ck1 : wr.cell? ⟨vb, k, none⟩ = some (.int .i64 (p.free[k] : Int)) := by
        rw [World.cell?_of_block (w := w) (w' := wr) (a := ⟨vb, k, none⟩) (hG.kp.block vb hvl (fun e => by have := l1 vb rfl; have := hfar vb e; omega)), o1.cellAt k (by omega)]
        simp [nums, hlt]
      have hown := hG.own
      have hgl : (gs ++ ns).length ≤ 10000000010000 := by
        have : ns.length ≤ k := by rw [hG.vis.1, List.length_take]; omega
        simp
        omega
      have hel : (frees1 F (ph, a, b))[k]? = some (ph, p.free[k], b) := by simp [frees1, hfa, hlt]
      have HG := hide (And.intro hG hel)
      clear hG o1 ht hv hs hM hB hgr hel
      generalize hgq : gs ++ ns = gl at *
      have Hgq := hide hgq
      clear hgq
      go_wp2_with fail
      go_region_law
        (refine step_append_lies _ (by rfl) _ _ _ (by rfl) 0 225 i0 _ 1 8 Tryz.underlying235 hi0 hz0 hz1 hz2 rfl (by omega) (.slice ak gl.length ck) gl.length (ptrs gl) (by rfl) (((hown.alloc _).alloc _).drew)
          ⟨wr.heap.size + 1, 0, none⟩ 1 1 [.pointer (some ⟨wr.heap.size, 0, none⟩)] (by rfl) (by rfl) (World.news_of_block (cs := #[.pointer (some ⟨wr.heap.size, 0, none⟩)]) (t := 225) (fr := (0, 0)) (alloc2_at wr _ _)) (by simp [Value.oneCell'])
          (by omega) (by unfold maxLen; omega) (by omega) (by simp) (wr.heap.size + 2) (by simp) ?_; intro g5 cap5 w5 hown5 hgrow5 hat5 hlt5)
      all_goals
        have HN := hide (Grow.one (w := wr) (g := g) (c := 0) (pr := (ph, p.free[k], b)) hown5 ((World.grownBy_alloc _ _ _).trans ((grown_drew' _ _).trans hgrow5)) hown (hat5.imp id (fun e => by omega)))
        clear hown5 hgrow5 hat5 hlt5
        go_wp2_with fail
        go_roundg (p.free.length - k)
        case measure => exact hgk
        case rel =>
          obtain ⟨hG, hel⟩ := unhide HG
          obtain rfl := unhide Hgq
          refine ⟨k + 1, ns ++ [wr.heap.size], by simp, by omega, by omega, ?_⟩
          rw [List.take_add_one, hel]
          exact hG.trans (unhide HN)
    · have hke : k = p.free.length := by omega
      subst hke
      have hG1 : Grow w g 0 (.slice ao gs.length cp) gs ns (frees1 F (ph, a, b)) (.slice ak (gs ++ ns).length ck) wr := by
        rw [List.take_of_length_le (by simp [frees1, hfa])] at hG
        exact hG
      have hsr := hG.heap hs hsn
      obtain ⟨so, sc, m0, _, mrow⟩ := hM.row (hG.kpm hB hfar)
      obtain ⟨gs2, v2, rfl, _, _, m2, o2, l2⟩ := mrow b q hq
      have s0 : wr.cell? ⟨sb, 0, none⟩ = some (.pointer (some ⟨mb, 0, none⟩)) := by rw [cellOf hsr 0]; rfl
      obtain ⟨a2, p2, rfl⟩ := own_slice o2
      have hfb : freeOf F b = q.free := by unfold freeOf; rw [hq]
      have hlb : q.free.length ≤ 1000 := by have := hfl b; unfold freeLen at this; rw [hq] at this; exact this
      have HR2 := hide (And.intro o2 (And.intro l2 hG1))
      clear hG hG1 o1 ht hv hs hM hB mrow hgr hsr o2 l2 l1 hfar
      generalize hgq : gs ++ ns = gl at *
      have Hgq := hide hgq
      clear hgq
      go_wp2_with fail
      go_quiet (fail)
      go_wp2_with fail
      clear m0 s0 c0 c2 m2
      rename World => wo
      clear hgk
      go_loopg [2, 66] (q.free.length + 1) (fun gk tv' iv wv => ∃ (k : Nat) (ns : List Nat), iv = .int .i64 (k : Int) ∧ k ≤ q.free.length ∧ q.free.length - k < gk ∧ Grow w g 0 (.slice ao gs.length cp) gs ns (frees1 F (ph, a, b) ++ (frees2 F (ph, a, b)).take k) tv' wv)
      case atStart =>
        obtain ⟨_, _, hG1⟩ := unhide HR2
        exact ⟨0, ns, rfl, Nat.zero_le _, by omega, by rw [List.take_zero, List.append_nil]; exact hG1.drewN _⟩
      case round =>
        obtain ⟨k, nt, rfl, hk, hgk, hG⟩ := hrel
        obtain ⟨_, _, hfar, ht, hv, hs, hM, hB⟩ := unhide HR
        obtain ⟨o2, l2, hG1⟩ := unhide HR2
        obtain ⟨aj, cj, rfl⟩ := own_slice hG.own
        have hgr := hG.heap hv hne
        have c0 : wr.cell? ⟨g, 0, none⟩ = some (.int .i64 (ph : Int)) := by rw [cellOf hgr 0]; rfl
        have c1 : wr.cell? ⟨g, 1, none⟩ = some (.int .i64 (a : Int)) := by rw [cellOf hgr 1]; rfl
        by_cases hlt : k < q.free.length
        · have hd : (k : Int) < (q.free.length : Int) := by omega
          obtain ⟨vb, cap, hveq, _, hvl⟩ := o2.form (by omega)
          injection hveq with hao _ hcp
          subst hao
          subst hcp
          have ck1 : wr.cell? ⟨vb, k, none⟩ = some (.int .i64 (q.free[k] : Int)) := by
            have hw : ∀ e : (Value.slice ao gs.length cp).ownBlock = some vb, False := fun e => by have := l2 vb rfl; have := hfar vb e; omega
            have hvw : vb < w.heap.size := Nat.lt_of_lt_of_le (l2 vb rfl) hB.size
            rw [World.cell?_of_block (w := wo) (w' := wr) (a := ⟨vb, k, none⟩) ((hG.kp.block vb hvw hw).trans (hG1.kp.block vb hvw hw).symm), o2.cellAt k (by omega)]
            simp [nums, hlt]
          have hown := hG.own
          have hgl : (gs ++ nt).length ≤ 10000000010000 := by
            have : nt.length ≤ p.free.length + k := by rw [hG.vis.1, List.length_append, List.length_take, frees1, List.length_map, hfa]; omega
            simp
            omega
          have hel : (frees2 F (ph, a, b))[k]? = some (ph, a, q.free[k]) := by simp [frees2, hfb, hlt]
          have HG := hide (And.intro hG hel)
          clear hG hG1 o2 ht hv hs hM hB hgr hel Hgq
          generalize hgq : gs ++ nt = gm at *
          have Hgq := hide hgq
          clear hgq
          go_wp2_with fail
          go_region_law
            (refine step_append_lies _ (by rfl) _ _ _ (by rfl) 0 225 i0 _ 1 8 Tryz.underlying235 hi0 hz0 hz1 hz2 rfl (by omega) (.slice aj gm.length cj) gm.length (ptrs gm) (by rfl) (((hown.alloc _).alloc _).drew)
              ⟨wr.heap.size + 1, 0, none⟩ 1 1 [.pointer (some ⟨wr.heap.size, 0, none⟩)] (by rfl) (by rfl) (World.news_of_block (cs := #[.pointer (some ⟨wr.heap.size, 0, none⟩)]) (t := 225) (fr := (0, 0)) (alloc2_at wr _ _)) (by simp [Value.oneCell'])
              (by omega) (by unfold maxLen; omega) (by omega) (by simp) (wr.heap.size + 2) (by simp) ?_; intro g5 cap5 w5 hown5 hgrow5 hat5 hlt5)
          all_goals
            have HN := hide (Grow.one (w := wr) (g := g) (c := 0) (pr := (ph, a, q.free[k])) hown5 ((World.grownBy_alloc _ _ _).trans ((grown_drew' _ _).trans hgrow5)) hown (hat5.imp id (fun e => by omega)))
            clear hown5 hgrow5 hat5 hlt5
            go_wp2_with fail
            go_roundg (q.free.length - k)
            case measure => exact hgk
            case rel =>
              obtain ⟨hG, hel⟩ := unhide HG
              obtain rfl := unhide Hgq
              refine ⟨k + 1, nt ++ [wr.heap.size], by simp, by omega, by omega, ?_⟩
              rw [List.take_add_one, hel, ← List.append_assoc]
              exact hG.trans (unhide HN)
        · have hke : k = q.free.length := by omega
          subst hke
          have hG2 : Grow w g 0 (.slice ao gs.length cp) gs nt (frees1 F (ph, a, b) ++ frees2 F (ph, a, b)) (.slice aj (gs ++ nt).length cj) wr := by
            rw [List.take_of_length_le (by simp [frees2, hfb])] at hG
            exact hG
          have hsr := hG.heap hs hsn
          have c2 : wr.cell? ⟨g, 2, none⟩ = some (.int .i64 (b : Int)) := by rw [cellOf hgr 2]; rfl
          have s1 : wr.cell? ⟨sb, 1, none⟩ = some (.int .i64 (gate : Int)) := by rw [cellOf hsr 1]; rfl
          have s2 : wr.cell? ⟨sb, 2, none⟩ = some (.int .i64 (beh : Int)) := by rw [cellOf hsr 2]; rfl
          have hown := hG.own
          have hgl : (gs ++ nt).length ≤ 10000000010000 := by
            have : nt.length ≤ p.free.length + q.free.length := by rw [hG2.vis.1, List.length_append, frees1, frees2, List.length_map, List.length_map, hfa, hfb]; omega
            simp
            omega
          have HG := hide (And.intro hG2 hgr)
          clear hG hG1 hG2 o2 ht hv hs hM hB hgr hsr Hgq
          generalize hgq : gs ++ nt = gm at *
          have Hgq := hide hgq
          clear hgq
          by_cases e0 : ph = 0
          · subst e0
            by_cases ea : a = gate
            · subst ea
              go_wp2_with fail
              go_quiet (fail)
              go_wp2_with fail
              obtain ⟨wq, hwq⟩ : ∃ wq, wr.drewN nq = wq := ⟨_, rfl⟩
              rw [hwq]
              have hqh : wq.heap = wr.heap := by rw [← hwq]; rfl
              have hownq := own_same (w' := wq) hown (fun _ _ => by rw [hqh])
              have hgq := (congrArg (fun (h : Array Obj) => h[g]?) hqh).trans (unhide HG).2
              have d0 : wq.cell? ⟨g, 0, none⟩ = some (.int .i64 ((0 : Nat) : Int)) := by rw [cellOf hgq 0]; rfl
              have d2 : wq.cell? ⟨g, 2, none⟩ = some (.int .i64 (b : Int)) := by rw [← hwq]; exact c2
              have t2 : wq.cell? ⟨sb, 2, none⟩ = some (.int .i64 (beh : Int)) := by rw [← hwq]; exact s2
              have HGq := hide (show Grow w g 0 (.slice ao gs.length cp) gs nt _ _ wq from hwq ▸ (unhide HG).1.drewN nq)
              have Hwq := hide (And.intro hgq hwq)
              clear hwq hqh hgq hown c0 c1 c2 s1 s2
              go_region_law
                (refine step_append_lies _ (by rfl) _ _ _ (by rfl) 0 225 i0 _ 1 8 Tryz.underlying235 hi0 hz0 hz1 hz2 rfl (by omega) (.slice aj gm.length cj) gm.length (ptrs gm) (by rfl) (((hownq.alloc _).alloc _).drew)
                  ⟨wq.heap.size + 1, 0, none⟩ 1 1 [.pointer (some ⟨wq.heap.size, 0, none⟩)] (by rfl) (by rfl) (World.news_of_block (cs := #[.pointer (some ⟨wq.heap.size, 0, none⟩)]) (t := 225) (fr := (0, 0)) (alloc2_at wq _ _)) (by simp [Value.oneCell'])
                  (by omega) (by unfold maxLen; omega) (by omega) (by simp) (wq.heap.size + 2) (by simp) ?_; intro g5 cap5 w5 hown5 hgrow5 hat5 hlt5)
              all_goals
                have HN := hide (Grow.one (w := wq) (g := g) (c := 0) (pr := (1, beh, b)) hown5 ((World.grownBy_alloc _ _ _).trans ((grown_drew' _ _).trans hgrow5)) hownq (hat5.imp id (fun e => by omega)))
                have hg5 := (unhide HN).heap (unhide Hwq).1 (own_ptr_ne hownq (unhide Hwq).1)
                have f0 : w5.cell? ⟨g, 0, none⟩ = some (.int .i64 ((0 : Nat) : Int)) := by rw [cellOf hg5 0]; rfl
                clear hown5 hgrow5 hat5 hlt5 hg5
                go_wp2_with fail
                simp only [List.getElem_toArray, List.getElem_cons_succ, List.getElem_cons_zero, Act.put, List.setIfInBounds_toArray, List.set_cons_succ, List.set_cons_zero]
                go_quiet (fail)
                go_wp2
                go_ret
                obtain rfl := unhide Hgq
                have hfin := (unhide HGq).trans (unhide HN)
                have e3 : frees3 a beh (0, a, b) = [(1, beh, b)] := by simp [frees3]
                have e4 : frees4 a beh (0, a, b) = [] := by simp [frees4]
                exact free_done (hfin.drewN _) (by rw [frees, e3, e4, List.append_nil])
            · have ea' : ¬ ((a : Int) = (gate : Int)) := by omega
              go_wp2_with fail
              go_quiet (fail)
              go_wp2_with fail
              go_quiet (fail)
              go_wp2
              go_ret
              obtain rfl := unhide Hgq
              have e3 : frees3 gate beh (0, a, b) = [] := by simp [frees3, ea]
              have e4 : frees4 gate beh (0, a, b) = [] := by simp [frees4]
              exact free_done (((unhide HG).1.drewN _).drewN _) (by rw [frees, e3, e4, List.append_nil, List.append_nil])
          · have e0' : ¬ ((ph : Int) = 0) := by omega
            by_cases e2 : ph = 2
            · subst e2
              by_cases eb : b = gate
              · subst eb
                go_wp2_with fail
                go_quiet (fail)
                go_wp2_with fail
                go_quiet (fail)
                go_wp2_with fail
                rename_i nq1 _ _
                obtain ⟨wq, hwq⟩ : ∃ wq, (wr.drewN nq1).drewN nq = wq := ⟨_, rfl⟩
                rw [hwq]
                have hqh : wq.heap = wr.heap := by rw [← hwq]; rfl
                have hownq := own_same (w' := wq) hown (fun _ _ => by rw [hqh])
                have hgq := (congrArg (fun (h : Array Obj) => h[g]?) hqh).trans (unhide HG).2
                have d0 : wq.cell? ⟨g, 0, none⟩ = some (.int .i64 ((2 : Nat) : Int)) := by rw [cellOf hgq 0]; rfl
                have d1 : wq.cell? ⟨g, 1, none⟩ = some (.int .i64 (a : Int)) := by rw [← hwq]; exact c1
                have t2 : wq.cell? ⟨sb, 2, none⟩ = some (.int .i64 (beh : Int)) := by rw [← hwq]; exact s2
                have HGq := hide (show Grow w g 0 (.slice ao gs.length cp) gs nt _ _ wq from hwq ▸ ((unhide HG).1.drewN _).drewN _)
                have Hwq := hide (And.intro hgq hwq)
                clear hwq hqh hgq hown c0 c1 c2 s1 s2
                go_region_law
                  (refine step_append_lies _ (by rfl) _ _ _ (by rfl) 0 225 i0 _ 1 8 Tryz.underlying235 hi0 hz0 hz1 hz2 rfl (by omega) (.slice aj gm.length cj) gm.length (ptrs gm) (by rfl) (((hownq.alloc _).alloc _).drew)
                    ⟨wq.heap.size + 1, 0, none⟩ 1 1 [.pointer (some ⟨wq.heap.size, 0, none⟩)] (by rfl) (by rfl) (World.news_of_block (cs := #[.pointer (some ⟨wq.heap.size, 0, none⟩)]) (t := 225) (fr := (0, 0)) (alloc2_at wq _ _)) (by simp [Value.oneCell'])
                    (by omega) (by unfold maxLen; omega) (by omega) (by simp) (wq.heap.size + 2) (by simp) ?_; intro g5 cap5 w5 hown5 hgrow5 hat5 hlt5)
                all_goals
                  have HN := hide (Grow.one (w := wq) (g := g) (c := 0) (pr := (3, a, beh)) hown5 ((World.grownBy_alloc _ _ _).trans ((grown_drew' _ _).trans hgrow5)) hownq (hat5.imp id (fun e => by omega)))
                  have hg5 := (unhide HN).heap (unhide Hwq).1 (own_ptr_ne hownq (unhide Hwq).1)
                  have f0 : w5.cell? ⟨g, 0, none⟩ = some (.int .i64 ((2 : Nat) : Int)) := by rw [cellOf hg5 0]; rfl
                  clear hown5 hgrow5 hat5 hlt5 hg5
                  go_wp2
                  go_ret
                  obtain rfl := unhide Hgq
                  have hfin := (unhide HGq).trans (unhide HN)
                  have e3 : frees3 b beh (2, a, b) = [] := by simp [frees3]
                  have e4 : frees4 b beh (2, a, b) = [(3, a, beh)] := by simp [frees4]
                  exact free_done (hfin) (by rw [frees, e3, e4, List.append_nil])
              · have eb' : ¬ ((b : Int) = (gate : Int)) := by omega
                go_wp2_with fail
                go_quiet (fail)
                go_wp2_with fail
                go_quiet (fail)
                go_wp2
                go_ret
                obtain rfl := unhide Hgq
                have e3 : frees3 gate beh (2, a, b) = [] := by simp [frees3]
                have e4 : frees4 gate beh (2, a, b) = [] := by simp [frees4, eb]
                exact free_done (((unhide HG).1.drewN _).drewN _) (by rw [frees, e3, e4, List.append_nil, List.append_nil])
            · have e2' : ¬ ((ph : Int) = 2) := by omega
              go_wp2_with fail
              go_quiet (fail)
              go_wp2_with fail
              go_quiet (fail)
              go_wp2
              go_ret
              obtain rfl := unhide Hgq
              have e3 : frees3 gate beh (ph, a, b) = [] := by simp [frees3, e0]
              have e4 : frees4 gate beh (ph, a, b) = [] := by simp [frees4, e2]
              exact free_done (((unhide HG).1.drewN _).drewN _) (by rw [frees, e3, e4, List.append_nil, List.append_nil])

end Go.Proofs.YtlljggefbngkeaaGreatDoor

namespace Go.Proofs.YtlljggefbngkeaaGreatDoor
open Go.RowKit

theorem setRep_and {n m : Nat} {l k : List UInt8} (h : SetRep n l) (h' : SetRep m k) : SetRep (n &&& m) (l.filter k.contains) := by
  refine ⟨Nat.and_lt_two_pow _ h'.1, fun i hi => ?_, fun c hc => h.2.2 c (List.mem_filter.1 hc).1⟩
  rw [Nat.testBit_and, h.2.1 i hi, h'.2.1 i hi, Bool.eq_iff_iff]
  simp [List.mem_filter]

/-- behind one sign that both readers take -/
def signs2 (F : List MSt) (pr : P3) : List P3 := match F[pr.2.1]?, F[pr.2.2]? with
  | some p, some q => if p.set.filter q.set.contains = [] then [] else [(nextPh pr.1, p.nx, q.nx)]
  | _, _ => []

theorem setRep_zero {n : Nat} {l : List UInt8} (h : SetRep n l) : n = 0 ↔ l = [] := by
  constructor
  · rintro rfl
    apply List.eq_nil_iff_forall_not_mem.2
    intro c hc
    have hs := h.2.2 c hc
    have hb : c.toNat < 256 := UInt8.toNat_lt c
    obtain ⟨q1, q2⟩ := sgn_idx ⟨c.toNat, hb⟩ hs
    simp only at q1 q2
    have hi : (idxI (c.toNat : Int)).toNat < 41 := by have := (idx_sign (c.toNat : Int) (by omega) (by omega)).2.1; omega
    have := h.2.1 _ hi
    rw [q1, Nat.zero_testBit] at this
    have hm : l.contains (UInt8.ofNat c.toNat) = true := List.contains_iff_mem.2 (by simpa using hc)
    rw [hm] at this
    cases this
  · rintro rfl
    apply Nat.eq_of_testBit_eq
    intro i
    by_cases hi : i < 41
    · rw [h.2.1 i hi]; simp
    · rw [Nat.zero_testBit, Nat.testBit_lt_two_pow (Nat.lt_of_lt_of_le h.1 (Nat.pow_le_pow_right (by decide) (by omega)))]

theorem and_u64 (n m : Nat) (hn : n < 2 ^ 41) (hm : m < 2 ^ 41) : bits BinOp.and IntKind.u64 (n : Int) (m : Int) = ((n &&& m : Nat) : Int) := bits_and_u64_nat n m (by omega) (by omega)

theorem two_drew (W : World) (o1 o2 : Obj) : ∃ w5, ((W.alloc o1).alloc o2).drew = w5 ∧ w5.heap.size = W.heap.size + 2 ∧ w5.heap[W.heap.size]? = some o1 ∧ w5.heap[W.heap.size + 1]? = some o2 ∧ W.grownBy w5 none :=
  ⟨_, rfl, by simp, heap_alloc_old _ (heap_alloc_new W o1), alloc2_at W o1 o2, ((World.grownBy_alloc W _ none).trans (World.grownBy_alloc _ _ none)).trans (grown_drew' _ _)⟩

/-- the row behind together(): as it was, or one visit longer, behind a sign that both take -/
def TogPost (w : World) (F : List MSt) (g : Nat) (pr : P3) (tv : Value) (gs : List Nat) (e : Ending) (w' : World) : Prop :=
  ∃ tv' ns c, e = .returned tv' ∧ Grow w g c tv gs ns (signs2 F pr) tv' w' ∧ (signs2 F pr ≠ [] → ∃ p q, F[pr.2.1]? = some p ∧ F[pr.2.2]? = some q ∧ (UInt8.ofNat c) ∈ p.set ∧ (UInt8.ofNat c) ∈ q.set ∧ c < 256 ∧ c ≠ 0)

theorem tog_done {w w2 w5 : World} {F : List MSt} {g ph a b N : Nat} {tv tv5 : Value} {gs : List Nat} {p q : MSt} {cc : UInt8} {ph' n1 : Nat} (hph : nextPh ph = ph') (ht : w.ownsRow 0 225 1 tv gs.length (ptrs gs)) (hg : w.grownBy w2 none)
    (hG : Grow w2 g cc.toNat tv gs [w2.heap.size] [(ph', p.nx, q.nx)] tv5 w5) (hs3 : signs2 F (ph, a, b) = if p.set.filter q.set.contains = [] then [] else [(nextPh ph, p.nx, q.nx)]) (hp : F[a]? = some p) (hq : F[b]? = some q) (r1 : SetRep n1 p.set) (hN : N ≠ 0) (rr : SetRep N (p.set.filter q.set.contains)) (hcc : cc ∈ p.set.filter q.set.contains) :
    TogPost w F g (ph, a, b) tv gs (.returned tv5) w5 := by
  have hne : ¬ (p.set.filter q.set.contains = []) := fun e => hN ((setRep_zero rr).2 e)
  rw [if_neg hne, hph] at hs3
  have hc := List.mem_filter.1 hcc
  have hcb := UInt8.toNat_lt cc
  have hcs : (UInt8.ofNat cc.toNat) = cc := by simp
  refine ⟨tv5, [w2.heap.size], cc.toNat, rfl, ?_, fun _ => ⟨p, q, hp, hq, by rw [hcs]; exact hc.1, by rw [hcs]; exact List.contains_iff_mem.1 hc.2, hcb, ?_⟩⟩
  · rw [hs3]
    have hgo := (Grow.refl (g := g) (c := cc.toNat) ht).grown hg
    have := Grow.trans (ns := []) (prs := []) hgo (by rw [List.append_nil]; exact hG)
    exact this
  · intro e0
    have := r1.2.2 cc hc.1
    rw [e0] at this
    revert this
    decide

set_option maxRecDepth 100000 in
set_option maxHeartbeats 16000000 in
theorem stogether {wm w : World} {Br mb sb gate beh g c : Nat} {F : List MSt} {st en : Nat} {pr : P3} {fr : Option Addr} {tv : Value} {gs : List Nat}
    (hM : MH wm (fun k => k = Br) mb F st en) (hB : Kp (fun k => k ≠ Br) wm w) (hs : w.heap[sb]? = some (seblk mb gate beh)) (hv : w.heap[g]? = some (vblk pr fr c)) (hT : Tab w)
    (h1 : pr.2.1 < F.length) (h2 : pr.2.2 < F.length) (ht : w.ownsRow 0 225 1 tv gs.length (ptrs gs)) (hn : gs.length ≤ 10000000000000) :
    Calls Tryz.prog 185 #[.pointer (some ⟨sb, 0, none⟩), .pointer (some ⟨g, 0, none⟩), tv] w fun e w' => TogPost w F g pr tv gs e w' := by
  obtain ⟨i0, hi0, hz0, hz1, hz2⟩ := info_parts Tryz.infoVP
  obtain ⟨ao, cp, rfl⟩ := own_slice ht
  obtain ⟨ph, a, b⟩ := pr
  simp only at h1 h2
  obtain ⟨p, hp⟩ : ∃ p, F[a]? = some p := ⟨_, List.getElem?_eq_getElem h1⟩
  obtain ⟨q, hq⟩ : ∃ q, F[b]? = some q := ⟨_, List.getElem?_eq_getElem h2⟩
  obtain ⟨so, sc, m0, _, mrow⟩ := hM.row hB
  obtain ⟨gs1, v1, rfl, ⟨n1, r1, k1⟩, x1, y1, o1, _⟩ := mrow a p hp
  obtain ⟨gs2, v2, he2, ⟨n2, r2, k2⟩, x2, y2, o2, _⟩ := mrow b q hq
  injection he2 with he2
  injection he2 with he2
  subst he2
  obtain ⟨u1, t1, rfl⟩ := own_slice o1
  obtain ⟨u2, t2, rfl⟩ := own_slice o2
  have s0 : w.cell? ⟨sb, 0, none⟩ = some (.pointer (some ⟨mb, 0, none⟩)) := by rw [cellOf hs 0]; rfl
  have c0 : w.cell? ⟨g, 0, none⟩ = some (.int .i64 (ph : Int)) := by rw [cellOf hv 0]; rfl
  have c1 : w.cell? ⟨g, 1, none⟩ = some (.int .i64 (a : Int)) := by rw [cellOf hv 1]; rfl
  have c2 : w.cell? ⟨g, 2, none⟩ = some (.int .i64 (b : Int)) := by rw [cellOf hv 2]; rfl
  have hand := and_u64 n1 n2 r1.1 r2.1
  have hgl := heap_lt hv
  have htl : 1 < w.heap.size := by
    have h0 := hT 0 (by decide)
    unfold World.cell? at h0
    split at h0
    · rename_i o ho
      exact heap_lt ho
    all_goals cases h0
  have rr := setRep_and r1 r2
  have hs2 : signs2 F (ph, a, b) = if p.set.filter q.set.contains = [] then [] else [(nextPh ph, p.nx, q.nx)] := by simp only [signs2, hp, hq]
  have HR := hide (And.intro ht (And.intro r1 (And.intro r2 (And.intro hs2 (And.intro hp hq)))))
  clear o1 o2 hM hB mrow ht hv hs r1 r2 hs2 hp hq
  go_enter Tryz.func185, Tryz.ntmps185
  go_wp2_with fail
  go_region_held3 (fun w' => w'.cell? ⟨sb, 0, none⟩ = some (.pointer (some ⟨mb, 0, none⟩)) ∧ w'.cell? ⟨mb, 0, none⟩ = some (.slice (some ⟨gs1, 0, none⟩) F.length sc) ∧ w'.cell? ⟨g, 1, none⟩ = some (.int .i64 (a : Int)) ∧ w'.cell? ⟨g, 2, none⟩ = some (.int .i64 (b : Int)) ∧
      w'.cell? ⟨gs1, a * 3, none⟩ = some (.int .u64 (n1 : Int)) ∧ w'.cell? ⟨gs1, a * 3 + 1, none⟩ = some (.int .i64 (p.nx : Int)) ∧ w'.cell? ⟨gs1, a * 3 + 2, none⟩ = some (.slice u1 p.free.length t1) ∧
      w'.cell? ⟨gs1, b * 3, none⟩ = some (.int .u64 (n2 : Int)) ∧ w'.cell? ⟨gs1, b * 3 + 1, none⟩ = some (.int .i64 (q.nx : Int)) ∧ w'.cell? ⟨gs1, b * 3 + 2, none⟩ = some (.slice u2 q.free.length t2)) (go_keep) (fail)
  · obtain ⟨w2, hw2, hs2, q1, q2, hg2⟩ := two_drew w (.cells #[.int .u64 (n1 : Int), .int .i64 (p.nx : Int), .slice u1 p.free.length t1] 190) (.cells #[.int .u64 (n2 : Int), .int .i64 (q.nx : Int), .slice u2 q.free.length t2] 190)
    rw [hw2]
    have d1 : w2.cell? ⟨w.heap.size, 0, none⟩ = some (.int .u64 (n1 : Int)) := by rw [cellOf q1 0]; rfl
    have d2 : w2.cell? ⟨w.heap.size + 1, 0, none⟩ = some (.int .u64 (n2 : Int)) := by rw [cellOf q2 0]; rfl
    have d3 : w2.cell? ⟨w.heap.size, 1, none⟩ = some (.int .i64 (p.nx : Int)) := by rw [cellOf q1 1]; rfl
    have d4 : w2.cell? ⟨w.heap.size + 1, 1, none⟩ = some (.int .i64 (q.nx : Int)) := by rw [cellOf q2 1]; rfl
    have d0 : w2.cell? ⟨g, 0, none⟩ = some (.int .i64 (ph : Int)) := by rw [World.cell?_of_block (a := ⟨g, 0, none⟩) (hg2.block g hgl (by simp))]; exact c0
    have hT2 : Tab w2 := fun j hj => by rw [World.cell?_of_block (a := ⟨1, j, none⟩) (hg2.block _ htl (by simp))]; exact hT j hj
    have hown2 := own_same (unhide HR).1 (fun k e => hg2.block k (own_lt (unhide HR).1 k e) (by simp))
    have HW := hide (And.intro hg2 hT2)
    clear hw2 hs2 q1 q2 hg2 hT2 m0 k1 x1 y1 k2 x2 y2 s0 c0 c1 c2
    by_cases hN : n1 &&& n2 = 0
    · rw [hN] at hand rr
      have hand' : bits BinOp.and IntKind.u64 (n1 : Int) (n2 : Int) = 0 := hand
      have hnil := (setRep_zero rr).1 rfl
      go_wp2_with fail
      go_ret
      obtain ⟨ht, _, _, hs3, _, _⟩ := unhide HR
      rw [if_pos hnil] at hs3
      refine ⟨_, [], 0, rfl, ?_, fun h => absurd hs3 h⟩
      rw [hs3]
      exact (Grow.refl ht).grown (unhide HW).1
    · have HL := hide (fun W (hW : Tab W) => plowest rr hN W hW)
      have HN := hide (And.intro hN rr)
      have hN' : ¬ (((n1 &&& n2 : Nat) : Int) = 0) := by omega
      clear rr hN
      generalize n1 &&& n2 = N at *
      by_cases hph : ph = 1
      · subst hph
        go_wp2_with fail
        go_region_law (first
          | (refine step_append_lies _ (by rfl) _ _ _ (by rfl) 0 225 i0 _ 1 8 Tryz.underlying235 hi0 hz0 hz1 hz2 rfl (by omega) (.slice ao gs.length cp) gs.length (ptrs gs) (by rfl) (((hown2.alloc _).alloc _).drew)
              ⟨w2.heap.size + 1, 0, none⟩ 1 1 [.pointer (some ⟨w2.heap.size, 0, none⟩)] (by rfl) (by rfl) (World.news_of_block (cs := #[.pointer (some ⟨w2.heap.size, 0, none⟩)]) (t := 225) (fr := (0, 0)) (alloc2_at w2 _ _)) (by simp [Value.oneCell'])
              (by omega) (by unfold maxLen; omega) (by omega) (by simp) (w2.heap.size + 2) (by simp) ?_; intro g5 cap5 w5 hown5 hgrow5 hat5 hlt5)
          | (go_simp; go_at_call 194; refine (unhide HL _ (by exact (unhide HW).2)).mono ?_; rintro e w3 ⟨⟨cc, rfl, hcc⟩, rfl⟩))
        all_goals
          have HG := hide (Grow.one (w := w2) (g := g) (c := cc.toNat) (pr := (2, p.nx, q.nx)) hown5 ((World.grownBy_alloc _ _ _).trans ((grown_drew' _ _).trans hgrow5)) hown2 (hat5.imp id (fun e => by omega)))
          have HC := hide hcc
          clear hown5 hgrow5 hat5 hlt5 hcc
          go_wp2
          go_ret
          obtain ⟨ht, r1, r2, hs3, hp, hq⟩ := unhide HR
          obtain ⟨hN, rr⟩ := unhide HN
          exact tog_done rfl ht (unhide HW).1 (unhide HG) hs3 hp hq r1 hN rr (unhide HC)
      · have hph' : ¬ ((ph : Int) = 1) := by omega
        go_wp2_with fail
        go_region_law (first
          | (refine step_append_lies _ (by rfl) _ _ _ (by rfl) 0 225 i0 _ 1 8 Tryz.underlying235 hi0 hz0 hz1 hz2 rfl (by omega) (.slice ao gs.length cp) gs.length (ptrs gs) (by rfl) (((hown2.alloc _).alloc _).drew)
              ⟨w2.heap.size + 1, 0, none⟩ 1 1 [.pointer (some ⟨w2.heap.size, 0, none⟩)] (by rfl) (by rfl) (World.news_of_block (cs := #[.pointer (some ⟨w2.heap.size, 0, none⟩)]) (t := 225) (fr := (0, 0)) (alloc2_at w2 _ _)) (by simp [Value.oneCell'])
              (by omega) (by unfold maxLen; omega) (by omega) (by simp) (w2.heap.size + 2) (by simp) ?_; intro g5 cap5 w5 hown5 hgrow5 hat5 hlt5)
          | (go_simp; go_at_call 194; refine (unhide HL _ (by exact (unhide HW).2)).mono ?_; rintro e w3 ⟨⟨cc, rfl, hcc⟩, rfl⟩))
        all_goals
          have HG := hide (Grow.one (w := w2) (g := g) (c := cc.toNat) (pr := (ph, p.nx, q.nx)) hown5 ((World.grownBy_alloc _ _ _).trans ((grown_drew' _ _).trans hgrow5)) hown2 (hat5.imp id (fun e => by omega)))
          have HC := hide hcc
          clear hown5 hgrow5 hat5 hlt5 hcc
          go_wp2
          go_ret
          obtain ⟨ht, r1, r2, hs3, hp, hq⟩ := unhide HR
          obtain ⟨hN, rr⟩ := unhide HN
          exact tog_done (by unfold nextPh; rw [if_neg hph]) ht (unhide HW).1 (unhide HG) hs3 hp hq r1 hN rr (unhide HC)
  · obtain ⟨w2, hw2, hs2, q1, q2, hg2⟩ := two_drew w (.cells #[.int .u64 (n2 : Int), .int .i64 (q.nx : Int), .slice u2 q.free.length t2] 190) (.cells #[.int .u64 (n1 : Int), .int .i64 (p.nx : Int), .slice u1 p.free.length t1] 190)
    rw [hw2]
    have d1 : w2.cell? ⟨w.heap.size + 1, 0, none⟩ = some (.int .u64 (n1 : Int)) := by rw [cellOf q2 0]; rfl
    have d2 : w2.cell? ⟨w.heap.size, 0, none⟩ = some (.int .u64 (n2 : Int)) := by rw [cellOf q1 0]; rfl
    have d3 : w2.cell? ⟨w.heap.size + 1, 1, none⟩ = some (.int .i64 (p.nx : Int)) := by rw [cellOf q2 1]; rfl
    have d4 : w2.cell? ⟨w.heap.size, 1, none⟩ = some (.int .i64 (q.nx : Int)) := by rw [cellOf q1 1]; rfl
    have d0 : w2.cell? ⟨g, 0, none⟩ = some (.int .i64 (ph : Int)) := by rw [World.cell?_of_block (a := ⟨g, 0, none⟩) (hg2.block g hgl (by simp))]; exact c0
    have hT2 : Tab w2 := fun j hj => by rw [World.cell?_of_block (a := ⟨1, j, none⟩) (hg2.block _ htl (by simp))]; exact hT j hj
    have hown2 := own_same (unhide HR).1 (fun k e => hg2.block k (own_lt (unhide HR).1 k e) (by simp))
    have HW := hide (And.intro hg2 hT2)
    clear hw2 hs2 q1 q2 hg2 hT2 m0 k1 x1 y1 k2 x2 y2 s0 c0 c1 c2
    by_cases hN : n1 &&& n2 = 0
    · rw [hN] at hand rr
      have hand' : bits BinOp.and IntKind.u64 (n1 : Int) (n2 : Int) = 0 := hand
      have hnil := (setRep_zero rr).1 rfl
      go_wp2_with fail
      go_ret
      obtain ⟨ht, _, _, hs3, _, _⟩ := unhide HR
      rw [if_pos hnil] at hs3
      refine ⟨_, [], 0, rfl, ?_, fun h => absurd hs3 h⟩
      rw [hs3]
      exact (Grow.refl ht).grown (unhide HW).1
    · have HL := hide (fun W (hW : Tab W) => plowest rr hN W hW)
      have HN := hide (And.intro hN rr)
      have hN' : ¬ (((n1 &&& n2 : Nat) : Int) = 0) := by omega
      clear rr hN
      generalize n1 &&& n2 = N at *
      by_cases hph : ph = 1
      · subst hph
        go_wp2_with fail
        go_region_law (first
          | (refine step_append_lies _ (by rfl) _ _ _ (by rfl) 0 225 i0 _ 1 8 Tryz.underlying235 hi0 hz0 hz1 hz2 rfl (by omega) (.slice ao gs.length cp) gs.length (ptrs gs) (by rfl) (((hown2.alloc _).alloc _).drew)
              ⟨w2.heap.size + 1, 0, none⟩ 1 1 [.pointer (some ⟨w2.heap.size, 0, none⟩)] (by rfl) (by rfl) (World.news_of_block (cs := #[.pointer (some ⟨w2.heap.size, 0, none⟩)]) (t := 225) (fr := (0, 0)) (alloc2_at w2 _ _)) (by simp [Value.oneCell'])
              (by omega) (by unfold maxLen; omega) (by omega) (by simp) (w2.heap.size + 2) (by simp) ?_; intro g5 cap5 w5 hown5 hgrow5 hat5 hlt5)
          | (go_simp; go_at_call 194; refine (unhide HL _ (by exact (unhide HW).2)).mono ?_; rintro e w3 ⟨⟨cc, rfl, hcc⟩, rfl⟩))
        all_goals
          have HG := hide (Grow.one (w := w2) (g := g) (c := cc.toNat) (pr := (2, p.nx, q.nx)) hown5 ((World.grownBy_alloc _ _ _).trans ((grown_drew' _ _).trans hgrow5)) hown2 (hat5.imp id (fun e => by omega)))
          have HC := hide hcc
          clear hown5 hgrow5 hat5 hlt5 hcc
          go_wp2
          go_ret
          obtain ⟨ht, r1, r2, hs3, hp, hq⟩ := unhide HR
          obtain ⟨hN, rr⟩ := unhide HN
          exact tog_done rfl ht (unhide HW).1 (unhide HG) hs3 hp hq r1 hN rr (unhide HC)
      · have hph' : ¬ ((ph : Int) = 1) := by omega
        go_wp2_with fail
        go_region_law (first
          | (refine step_append_lies _ (by rfl) _ _ _ (by rfl) 0 225 i0 _ 1 8 Tryz.underlying235 hi0 hz0 hz1 hz2 rfl (by omega) (.slice ao gs.length cp) gs.length (ptrs gs) (by rfl) (((hown2.alloc _).alloc _).drew)
              ⟨w2.heap.size + 1, 0, none⟩ 1 1 [.pointer (some ⟨w2.heap.size, 0, none⟩)] (by rfl) (by rfl) (World.news_of_block (cs := #[.pointer (some ⟨w2.heap.size, 0, none⟩)]) (t := 225) (fr := (0, 0)) (alloc2_at w2 _ _)) (by simp [Value.oneCell'])
              (by omega) (by unfold maxLen; omega) (by omega) (by simp) (w2.heap.size + 2) (by simp) ?_; intro g5 cap5 w5 hown5 hgrow5 hat5 hlt5)
          | (go_simp; go_at_call 194; refine (unhide HL _ (by exact (unhide HW).2)).mono ?_; rintro e w3 ⟨⟨cc, rfl, hcc⟩, rfl⟩))
        all_goals
          have HG := hide (Grow.one (w := w2) (g := g) (c := cc.toNat) (pr := (ph, p.nx, q.nx)) hown5 ((World.grownBy_alloc _ _ _).trans ((grown_drew' _ _).trans hgrow5)) hown2 (hat5.imp id (fun e => by omega)))
          have HC := hide hcc
          clear hown5 hgrow5 hat5 hlt5 hcc
          go_wp2
          go_ret
          obtain ⟨ht, r1, r2, hs3, hp, hq⟩ := unhide HR
          obtain ⟨hN, rr⟩ := unhide HN
          exact tog_done (by unfold nextPh; rw [if_neg hph]) ht (unhide HW).1 (unhide HG) hs3 hp hq r1 hN rr (unhide HC)

end Go.Proofs.YtlljggefbngkeaaGreatDoor

namespace Go.Proofs.YtlljggefbngkeaaGreatDoor
open Go.RowKit

/-- a list, turned round outside of i .. n - 1 - i -/
def turned {α : Type} (xs : List α) (i : Nat) : List α := xs.reverse.take i ++ (xs.drop i).take (xs.length - 2 * i) ++ xs.reverse.drop (xs.length - i)

theorem turned_zero {α : Type} (xs : List α) : turned xs 0 = xs := by simp [turned]
theorem turned_len {α : Type} (xs : List α) (i : Nat) (h : 2 * i ≤ xs.length) : (turned xs i).length = xs.length := by
  simp [turned]; omega
theorem turned_at {α : Type} (xs : List α) (i k : Nat) (h : 2 * i ≤ xs.length) (hk : k < xs.length) : (turned xs i)[k]? = if i ≤ k ∧ k < xs.length - i then xs[k]? else xs[xs.length - 1 - k]? := by
  unfold turned
  by_cases h1 : k < i
  · rw [if_neg (by omega), List.append_assoc, List.getElem?_append_left (by simp; omega), List.getElem?_take_of_lt h1, List.getElem?_reverse hk]
  · by_cases h2 : k < xs.length - i
    · rw [if_pos (by omega), List.append_assoc, List.getElem?_append_right (by simp; omega), List.getElem?_append_left (by simp; omega), List.getElem?_take_of_lt (by simp; omega), List.getElem?_drop]
      congr 1
      simp
      omega
    · rw [if_neg (by omega), List.getElem?_append_right (by simp; omega), List.getElem?_drop, List.getElem?_reverse (by simp; omega)]
      congr 1
      simp
      omega

theorem turned_step {α : Type} (xs : List α) (i : Nat) (h : 2 * i + 1 < xs.length) (a b : α) (ha : (turned xs i)[i]? = some a) (hb : (turned xs i)[xs.length - 1 - i]? = some b) :
    ((turned xs i).set i b).set (xs.length - 1 - i) a = turned xs (i + 1) := by
  apply List.ext_getElem?
  intro k
  by_cases hk : k < xs.length
  · have ha' := ha
    have hb' := hb
    rw [turned_at xs i i (by omega) (by omega), if_pos (by omega)] at ha'
    rw [turned_at xs i _ (by omega) (by omega), if_pos (by omega)] at hb'
    rw [turned_at xs (i + 1) k (by omega) hk]
    by_cases h1 : k = xs.length - 1 - i
    · subst h1
      rw [List.getElem?_set_self (by simp [turned_len xs i (by omega)]; omega), if_neg (by omega), show xs.length - 1 - (xs.length - 1 - i) = i by omega, ha']
    · rw [List.getElem?_set_ne (by omega)]
      by_cases h2 : k = i
      · subst h2
        rw [List.getElem?_set_self (by rw [turned_len xs k (by omega)]; omega), if_neg (by omega), hb']
      · rw [List.getElem?_set_ne (by omega), turned_at xs i k (by omega) hk]
        by_cases h3 : i ≤ k ∧ k < xs.length - i
        · rw [if_pos h3, if_pos (by omega)]
        · rw [if_neg h3, if_neg (by omega)]
  · rw [List.getElem?_eq_none (by simp [turned_len xs i (by omega)]; omega), List.getElem?_eq_none (by rw [turned_len xs (i + 1) (by omega)]; omega)]

theorem turned_full {α : Type} (xs : List α) (i : Nat) (h : 2 * i ≤ xs.length) (h2 : xs.length ≤ 2 * i + 1) : turned xs i = xs.reverse := by
  apply List.ext_getElem?
  intro k
  by_cases hk : k < xs.length
  · rw [turned_at xs i k h hk, List.getElem?_reverse hk]
    split
    · congr 1
      omega
    · rfl
  · rw [List.getElem?_eq_none (by rw [turned_len xs i h]; omega), List.getElem?_eq_none (by simp; omega)]

end Go.Proofs.YtlljggefbngkeaaGreatDoor

namespace Go.Proofs.YtlljggefbngkeaaGreatDoor
open Go.RowKit

def bytesV (l : List UInt8) : List Value := l.map fun c : UInt8 => .int .u8 (c.toNat : Int)

set_option maxRecDepth 100000 in
set_option maxHeartbeats 3200000 in
theorem brev {w : World} {ao : Option Addr} {cp : Nat} {l : List UInt8} (h : w.ownsRow 0 5 1 (.slice ao l.length cp) l.length (bytesV l)) (hl : l.length ≤ 1000000000000000) :
    Calls Tryz.prog 186 #[.slice ao l.length cp] w fun e w' => e = .returned (.tuple #[]) ∧ w'.ownsRow 0 5 1 (.slice ao l.length cp) l.length (bytesV l.reverse) ∧ w.grownBy w' (Value.slice ao l.length cp).ownBlock := by
  have H0 : Hid (w.ownsRow 0 5 1 (.slice ao l.length cp) l.length (bytesV (turned l 0)) ∧ w.grownBy w (Value.slice ao l.length cp).ownBlock) := hide ⟨by rw [turned_zero]; exact h, World.grownBy.refl _ _⟩
  clear h
  go_enter Tryz.func186, Tryz.ntmps186
  go_wp2_with fail
  go_loopg [2, 3] (l.length + 1) (fun gk v2 v3 wv => ∃ i : Nat, v2 = .int .i64 (i : Int) ∧ v3 = .int .i64 ((l.length : Int) - 1 - (i : Int)) ∧ 2 * i ≤ l.length ∧ l.length - i < gk ∧ wv.ownsRow 0 5 1 (.slice ao l.length cp) l.length (bytesV (turned l i)) ∧ w.grownBy wv (Value.slice ao l.length cp).ownBlock)
  case atStart => exact ⟨0, rfl, by simp, Nat.zero_le _, by omega, (unhide H0).1, (unhide H0).2⟩
  case round =>
    obtain ⟨i, rfl, rfl, hi, hgk, hown, hgr⟩ := hrel
    by_cases hlt : 2 * i + 1 < l.length
    · have hd : (i : Int) < (l.length : Int) - 1 - (i : Int) := by omega
      obtain ⟨vb, cap, hveq, _, hvl⟩ := hown.form (by omega)
      injection hveq with hao _ hcp
      subst hao
      subst hcp
      have htl := turned_len l i hi
      have hia : i < (turned l i).length := by omega
      have hja : l.length - 1 - i < (turned l i).length := by omega
      have ej : ((l.length : Int) - 1 - (i : Int)) = ((l.length - 1 - i : Nat) : Int) := by omega
      have hjl : ((l.length - 1 - i : Nat) : Int) < (l.length : Int) := by omega
      have ci : wr.cell? ⟨vb, i, none⟩ = some (.int .u8 (((turned l i)[i]).toNat : Int)) := by rw [hown.cellAt i (by omega)]; simp [bytesV, hia]
      have cj : wr.cell? ⟨vb, l.length - 1 - i, none⟩ = some (.int .u8 (((turned l i)[l.length - 1 - i]).toNat : Int)) := by rw [hown.cellAt _ (by omega)]; simp [bytesV, hja]
      have fi := hown.frozenAt i
      have fj := hown.frozenAt (l.length - 1 - i)
      have hne : i ≠ l.length - 1 - i := by omega
      have hst := turned_step l i hlt _ _ (List.getElem?_eq_getElem hia) (List.getElem?_eq_getElem hja)
      obtain ⟨ja, hjq⟩ : ∃ ja, l.length - 1 - i = ja := ⟨_, rfl⟩
      simp only [hjq] at *
      rw [ej] at *
      generalize (turned l i)[i] = xa at *
      generalize (turned l i)[ja] = xb at *
      have HO := hide (And.intro hown (And.intro hgr (And.intro hst hjq)))
      have hjn : ¬ ja = i := fun e => hne e.symm
      clear hown hgr hst hjq htl hia hja
      go_wp2_with fail
      go_region
      go_wp2_with fail
      go_roundg (l.length - i)
      case measure => exact hgk
      case rel =>
        obtain ⟨hown, hgr, hst, hjq⟩ := unhide HO
        obtain ⟨s1, g1⟩ := hown.stored i (.int .u8 ((xb).toNat : Int))
        obtain ⟨s2, g2⟩ := s1.stored ja (.int .u8 ((xa).toNat : Int))
        refine ⟨i + 1, by simp, by congr 1; omega, by omega, by omega, ?_, ((hgr.trans g1).trans g2).trans (grown_drew' _ _)⟩
        rw [← hst]
        unfold bytesV at s2 ⊢
        rw [List.map_set, List.map_set]
        exact s2.drew
    · have hd : ¬ ((i : Int) < (l.length : Int) - 1 - (i : Int)) := by omega
      have HO := hide (And.intro hown hgr)
      clear hown hgr
      go_wp2
      go_end0
      rw [← turned_full l i hi (by omega)]
      exact ⟨rfl, (unhide HO).1, (unhide HO).2⟩

set_option maxRecDepth 100000 in
set_option maxHeartbeats 3200000 in
theorem prev {w : World} {ao : Option Addr} {cp : Nat} {l : List Nat} (h : w.ownsRow 0 116 1 (.slice ao l.length cp) l.length (ptrs l)) (hl : l.length ≤ 1000000000000000) :
    Calls Tryz.prog 143 #[.slice ao l.length cp] w fun e w' => e = .returned (.tuple #[]) ∧ w'.ownsRow 0 116 1 (.slice ao l.length cp) l.length (ptrs l.reverse) ∧ w.grownBy w' (Value.slice ao l.length cp).ownBlock := by
  have H0 : Hid (w.ownsRow 0 116 1 (.slice ao l.length cp) l.length (ptrs (turned l 0)) ∧ w.grownBy w (Value.slice ao l.length cp).ownBlock) := hide ⟨by rw [turned_zero]; exact h, World.grownBy.refl _ _⟩
  clear h
  go_enter Tryz.func143, Tryz.ntmps143
  go_wp2_with fail
  go_loopg [2, 3] (l.length + 1) (fun gk v2 v3 wv => ∃ i : Nat, v2 = .int .i64 (i : Int) ∧ v3 = .int .i64 ((l.length : Int) - 1 - (i : Int)) ∧ 2 * i ≤ l.length ∧ l.length - i < gk ∧ wv.ownsRow 0 116 1 (.slice ao l.length cp) l.length (ptrs (turned l i)) ∧ w.grownBy wv (Value.slice ao l.length cp).ownBlock)
  case atStart => exact ⟨0, rfl, by simp, Nat.zero_le _, by omega, (unhide H0).1, (unhide H0).2⟩
  case round =>
    obtain ⟨i, rfl, rfl, hi, hgk, hown, hgr⟩ := hrel
    by_cases hlt : 2 * i + 1 < l.length
    · have hd : (i : Int) < (l.length : Int) - 1 - (i : Int) := by omega
      obtain ⟨vb, cap, hveq, _, hvl⟩ := hown.form (by omega)
      injection hveq with hao _ hcp
      subst hao
      subst hcp
      have htl := turned_len l i hi
      have hia : i < (turned l i).length := by omega
      have hja : l.length - 1 - i < (turned l i).length := by omega
      have ej : ((l.length : Int) - 1 - (i : Int)) = ((l.length - 1 - i : Nat) : Int) := by omega
      have hjl : ((l.length - 1 - i : Nat) : Int) < (l.length : Int) := by omega
      have ci : wr.cell? ⟨vb, i, none⟩ = some (.pointer (some ⟨(turned l i)[i], 0, none⟩)) := by rw [hown.cellAt i (by omega)]; simp [ptrs, hia]
      have cj : wr.cell? ⟨vb, l.length - 1 - i, none⟩ = some (.pointer (some ⟨(turned l i)[l.length - 1 - i], 0, none⟩)) := by rw [hown.cellAt _ (by omega)]; simp [ptrs, hja]
      have fi := hown.frozenAt i
      have fj := hown.frozenAt (l.length - 1 - i)
      have hne : i ≠ l.length - 1 - i := by omega
      have hst := turned_step l i hlt _ _ (List.getElem?_eq_getElem hia) (List.getElem?_eq_getElem hja)
      obtain ⟨ja, hjq⟩ : ∃ ja, l.length - 1 - i = ja := ⟨_, rfl⟩
      simp only [hjq] at *
      rw [ej] at *
      generalize (turned l i)[i] = xa at *
      generalize (turned l i)[ja] = xb at *
      have HO := hide (And.intro hown (And.intro hgr (And.intro hst hjq)))
      have hjn : ¬ ja = i := fun e => hne e.symm
      clear hown hgr hst hjq htl hia hja
      go_wp2_with fail
      go_region
      go_wp2_with fail
      go_roundg (l.length - i)
      case measure => exact hgk
      case rel =>
        obtain ⟨hown, hgr, hst, hjq⟩ := unhide HO
        obtain ⟨s1, g1⟩ := hown.stored i (.pointer (some ⟨xb, 0, none⟩))
        obtain ⟨s2, g2⟩ := s1.stored ja (.pointer (some ⟨xa, 0, none⟩))
        refine ⟨i + 1, by simp, by congr 1; omega, by omega, by omega, ?_, ((hgr.trans g1).trans g2).trans (grown_drew' _ _)⟩
        rw [← hst]
        unfold ptrs at s2 ⊢
        rw [List.map_set, List.map_set]
        exact s2.drew
    · have hd : ¬ ((i : Int) < (l.length : Int) - 1 - (i : Int)) := by omega
      have HO := hide (And.intro hown hgr)
      clear hown hgr
      go_wp2
      go_end0
      rw [← turned_full l i hi (by omega)]
      exact ⟨rfl, (unhide HO).1, (unhide HO).2⟩

end Go.Proofs.YtlljggefbngkeaaGreatDoor

namespace Go.Proofs.YtlljggefbngkeaaGreatDoor
open Go.RowKit

/-- a sign that both take -/
def SgnStep (F : List MSt) (c : UInt8) (pr' pr : P3) : Prop := ∃ p q, F[pr'.2.1]? = some p ∧ F[pr'.2.2]? = some q ∧ c ∈ p.set ∧ c ∈ q.set ∧ pr = (nextPh pr'.1, p.nx, q.nx)

/-- a visit in memory: the pair, and the text that was read on the way to it -/
inductive VR (F : List MSt) (gate beh : Nat) (s0 : P3) (N : Nat) (w : World) : Nat → P3 → List UInt8 → Prop
  | root {g : Nat} : N ≤ g → w.heap[g]? = some (vblk s0 none 0) → VR F gate beh s0 N w g s0 []
  | free {g g' : Nat} {pr pr' : P3} {u : List UInt8} : N ≤ g → g' < g → VR F gate beh s0 N w g' pr' u → pr ∈ frees F gate beh pr' → w.heap[g]? = some (vblk pr (some ⟨g', 0, none⟩) 0) → VR F gate beh s0 N w g pr u
  | sign {g g' : Nat} {pr pr' : P3} {u : List UInt8} {c : UInt8} : N ≤ g → g' < g → VR F gate beh s0 N w g' pr' u → SgnStep F c pr' pr → c ≠ 0 → w.heap[g]? = some (vblk pr (some ⟨g', 0, none⟩) c.toNat) → VR F gate beh s0 N w g pr (u ++ [c])

section
variable {F : List MSt} {gate beh : Nat} {s0 : P3} {N : Nat}

theorem PW.trans {ph a b : Nat} {u : List UInt8} {qh c d : Nat} (h : PW F gate beh ph a b u qh c d) : ∀ {v : List UInt8} {rh e f : Nat}, PW F gate beh qh c d v rh e f → PW F gate beh ph a b (u ++ v) rh e f := by
  induction h with
  | refl ph a b => intro v rh e f h; exact h
  | free1 h1 h2 h3 ih => intro v rh e f h; exact PW.free1 h1 h2 (ih h)
  | free2 h1 h2 h3 ih => intro v rh e f h; exact PW.free2 h1 h2 (ih h)
  | part h1 ih => intro v rh e f h; exact PW.part (ih h)
  | join h1 ih => intro v rh e f h; exact PW.join (ih h)
  | sign h1 h2 h3 h4 h5 ih => intro v rh e f h; exact PW.sign h1 h2 h3 h4 (ih h)

/-- from the pair where the search begins -/
def Way (F : List MSt) (gate beh : Nat) (s0 : P3) (u : List UInt8) (pr : P3) : Prop := PW F gate beh s0.1 s0.2.1 s0.2.2 u pr.1 pr.2.1 pr.2.2

theorem mem_freeOf {x y : Nat} (h : y ∈ freeOf F x) : ∃ p, F[x]? = some p ∧ y ∈ p.free := by
  unfold freeOf at h
  split at h
  · rename_i p hp
    exact ⟨p, hp, h⟩
  · cases h

theorem Way.free {u : List UInt8} {pr' pr : P3} (h : Way F gate beh s0 u pr') (hm : pr ∈ frees F gate beh pr') : Way F gate beh s0 u pr := by
  obtain ⟨ph, a, b⟩ := pr'
  unfold Way at *
  rw [← List.append_nil u]
  refine PW.trans h ?_
  unfold frees at hm
  simp only [List.mem_append] at hm
  rcases hm with ((hm | hm) | hm) | hm
  · obtain ⟨x, hx, rfl⟩ := List.mem_map.1 hm
    obtain ⟨p, hp, hx⟩ := mem_freeOf hx
    exact PW.free1 hp hx (PW.refl _ _ _)
  · obtain ⟨x, hx, rfl⟩ := List.mem_map.1 hm
    obtain ⟨p, hp, hx⟩ := mem_freeOf hx
    exact PW.free2 hp hx (PW.refl _ _ _)
  · unfold frees3 at hm
    split at hm
    · rename_i he
      simp only at he
      obtain ⟨rfl, rfl⟩ := he
      rw [List.mem_singleton] at hm
      subst hm
      exact PW.part (PW.refl _ _ _)
    · cases hm
  · unfold frees4 at hm
    split at hm
    · rename_i he
      simp only at he
      obtain ⟨rfl, rfl⟩ := he
      rw [List.mem_singleton] at hm
      subst hm
      exact PW.join (PW.refl _ _ _)
    · cases hm

theorem Way.sign {u : List UInt8} {c : UInt8} {pr' pr : P3} (h : Way F gate beh s0 u pr') (hm : SgnStep F c pr' pr) : Way F gate beh s0 (u ++ [c]) pr := by
  obtain ⟨p, q, hp, hq, h1, h2, rfl⟩ := hm
  exact PW.trans h (PW.sign hp hq h1 h2 (PW.refl _ _ _))

theorem VR.way {w : World} {g : Nat} {pr : P3} {u : List UInt8} (h : VR F gate beh s0 N w g pr u) : Way F gate beh s0 u pr := by
  induction h with
  | root _ _ => exact PW.refl _ _ _
  | free _ _ _ h2 _ ih => exact ih.free h2
  | sign _ _ _ h2 _ _ ih => exact ih.sign h2

/-- all blocks from N on that are visits are as they were -/
def Kv (N : Nat) (w w' : World) : Prop := ∀ (k : Nat) (pr : P3) (fr : Option Addr) (c : Nat), N ≤ k → w.heap[k]? = some (vblk pr fr c) → w'.heap[k]? = some (vblk pr fr c)
theorem Kv.of_grown {w w' : World} (h : w.grownBy w' none) : Kv N w w' := fun k _ _ _ _ hk => (h.block k (heap_lt hk) (by simp)).trans hk
theorem Grow.kv {w w' : World} {g c : Nat} {tv tv' : Value} {gs ns : List Nat} {prs : List P3} (h : Grow w g c tv gs ns prs tv' w') (ho : w.ownsRow 0 225 1 tv gs.length (ptrs gs)) : Kv N w w' := fun _ _ _ _ _ hk => h.heap hk (own_ptr_ne ho hk)

theorem VR.kv {w w' : World} (hK : Kv N w w') {g : Nat} {pr : P3} {u : List UInt8} (h : VR F gate beh s0 N w g pr u) : VR F gate beh s0 N w' g pr u := by
  induction h with
  | root hn h => exact VR.root hn (hK _ _ _ _ hn h)
  | free hn h0 _ h2 h3 ih => exact VR.free hn h0 ih h2 (hK _ _ _ _ hn h3)
  | sign hn h0 _ h2 h3 h4 ih => exact VR.sign hn h0 ih h2 h3 (hK _ _ _ _ hn h4)

theorem VR.blk {w : World} {g : Nat} {pr : P3} {u : List UInt8} (h : VR F gate beh s0 N w g pr u) : ∃ fr c, w.heap[g]? = some (vblk pr fr c) := by
  cases h with
  | root _ h => exact ⟨_, _, h⟩
  | free _ _ _ _ h => exact ⟨_, _, h⟩
  | sign _ _ _ _ _ h => exact ⟨_, _, h⟩
end

end Go.Proofs.YtlljggefbngkeaaGreatDoor
