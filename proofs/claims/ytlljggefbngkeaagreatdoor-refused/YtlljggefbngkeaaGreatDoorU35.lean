import Derived.Test.YtlljggefbngkeaaGreatDoorU34
import Derived.Test.YtlljggefbngkeaaGreatDoorU29
import Derived.Test.YtlljggefbngkeaaGreatDoorU30
import Derived.Test.YtlljggefbngkeaaGreatDoorU23
import Derived.BigQuiet
namespace Go.Proofs.YtlljggefbngkeaaGreatDoor
open Go.RowKit

/-! The search over pairs in memory: visits, and rows of them. -/

/-- a pair: the phase, the first reader's state, the second's -/
abbrev P3 := Nat × Nat × Nat

def vblk (pr : P3) (fr : Option Addr) (c : Nat) : Obj := .cells #[.int .i64 (pr.1 : Int), .int .i64 (pr.2.1 : Int), .int .i64 (pr.2.2 : Int), .pointer fr, .int .u8 (c : Int)] 227 (0, 0)
def seblk (mb gate beh : Nat) : Obj := .cells #[.pointer (some ⟨mb, 0, none⟩), .int .i64 (gate : Int), .int .i64 (beh : Int)] 209 (0, 0)

def freeOf (F : List MSt) (x : Nat) : List Nat := match F[x]? with | some p => p.free | none => []

/-- one move, without a sign -/
def frees1 (F : List MSt) (pr : P3) : List P3 := (freeOf F pr.2.1).map fun x => (pr.1, x, pr.2.2)
def frees2 (F : List MSt) (pr : P3) : List P3 := (freeOf F pr.2.2).map fun x => (pr.1, pr.2.1, x)
def frees3 (gate beh : Nat) (pr : P3) : List P3 := if pr.1 = 0 ∧ pr.2.1 = gate then [(1, beh, pr.2.2)] else []
def frees4 (gate beh : Nat) (pr : P3) : List P3 := if pr.1 = 2 ∧ pr.2.2 = gate then [(3, pr.2.1, beh)] else []
def frees (F : List MSt) (gate beh : Nat) (pr : P3) : List P3 := frees1 F pr ++ frees2 F pr ++ frees3 gate beh pr ++ frees4 gate beh pr

/-- new visits, come to from g -/
def Vis (w : World) (lo g : Nat) (c : Nat) (ns : List Nat) (prs : List P3) : Prop :=
  ns.length = prs.length ∧ ∀ (i n : Nat) (pr : P3), ns[i]? = some n → prs[i]? = some pr → w.heap[n]? = some (vblk pr (some ⟨g, 0, none⟩) c) ∧ lo ≤ n

/-- a row of visits that has grown -/
structure Grow (w : World) (g c : Nat) (tv : Value) (gs ns : List Nat) (prs : List P3) (tv' : Value) (w' : World) : Prop where
  own : w'.ownsRow 0 225 1 tv' (gs ++ ns).length (ptrs (gs ++ ns))
  at_ : ∀ k, tv'.ownBlock = some k → tv.ownBlock = some k ∨ w.heap.size ≤ k
  vis : Vis w' w.heap.size g c ns prs
  kp : Kp (fun k => tv.ownBlock ≠ some k) w w'

theorem Grow.refl {w : World} {g c : Nat} {tv : Value} {gs : List Nat} (h : w.ownsRow 0 225 1 tv gs.length (ptrs gs)) : Grow w g c tv gs [] [] tv w where
  own := by simpa using h
  at_ := fun k hk => .inl hk
  vis := ⟨rfl, fun i n pr hn => by simp at hn⟩
  kp := Kp.refl _ _

theorem own_ptr_ne {w : World} {v : Value} {n : Nat} {xs : List Value} {k : Nat} {pr : P3} {fr : Option Addr} {c : Nat} (h : w.ownsRow 0 225 1 v n xs) (hk : w.heap[k]? = some (vblk pr fr c)) : v.ownBlock ≠ some k := own_ne hk h (by decide)

theorem Grow.trans {w w1 w2 : World} {g c : Nat} {tv tv1 tv2 : Value} {gs ns ns' : List Nat} {prs prs' : List P3} (h : Grow w g c tv gs ns prs tv1 w1) (h' : Grow w1 g c tv1 (gs ++ ns) ns' prs' tv2 w2) : Grow w g c tv gs (ns ++ ns') (prs ++ prs') tv2 w2 where
  own := by have := h'.own; rwa [List.append_assoc] at this
  at_ := fun k hk => by
    rcases h'.at_ k hk with h1 | h1
    · exact h.at_ k h1
    · exact .inr (Nat.le_trans h.kp.size h1)
  vis := by
    refine ⟨by simp [h.vis.1, h'.vis.1], fun i n pr hn hp => ?_⟩
    by_cases hi : i < ns.length
    · rw [List.getElem?_append_left hi] at hn
      rw [List.getElem?_append_left (by rw [← h.vis.1]; exact hi)] at hp
      obtain ⟨q1, q2⟩ := h.vis.2 i n pr hn hp
      refine ⟨(h'.kp.block n (heap_lt q1) (own_ptr_ne h.own q1)).trans q1, q2⟩
    · rw [List.getElem?_append_right (by omega)] at hn
      rw [List.getElem?_append_right (by rw [← h.vis.1]; omega), ← h.vis.1] at hp
      obtain ⟨q1, q2⟩ := h'.vis.2 _ n pr hn hp
      exact ⟨q1, Nat.le_trans h.kp.size q2⟩
  kp := by
    have hs := h.kp.size
    refine ⟨h'.kp.os.trans h.kp.os, h'.kp.tape.trans h.kp.tape, h'.kp.output.trans h.kp.output, Nat.le_trans hs h'.kp.size, fun k hk hne => (h'.kp.block k (by omega) ?_).trans (h.kp.block k hk hne)⟩
    intro e
    rcases h.at_ k e with h1 | h1
    · exact hne h1
    · omega

/-- what was appended: one visit (laid at lo), and the row -/
theorem Grow.one {w w5 : World} {g c g5 cap5 : Nat} {ao : Option Addr} {cp : Nat} {gs : List Nat} {pr : P3}
    (hown : w5.ownsRow 0 225 1 (.slice (some ⟨g5, 0, none⟩) (gs.length + 1) cap5) (gs.length + 1) (ptrs gs ++ [.pointer (some ⟨w.heap.size, 0, none⟩)]))
    (hg : (w.alloc (vblk pr (some ⟨g, 0, none⟩) c)).grownBy w5 (Value.slice ao gs.length cp).ownBlock) (h0 : w.ownsRow 0 225 1 (.slice ao gs.length cp) gs.length (ptrs gs))
    (hat : (Value.slice ao gs.length cp).ownBlock = some g5 ∨ w.heap.size ≤ g5) :
    Grow w g c (.slice ao gs.length cp) gs [w.heap.size] [pr] (.slice (some ⟨g5, 0, none⟩) (gs.length + 1) cap5) w5 where
  own := by simpa [ptrs] using hown
  at_ := fun k hk => by
    simp [Value.ownBlock] at hk
    subst hk
    exact hat
  vis := by
    refine ⟨rfl, fun i n p hn hp => ?_⟩
    cases i with
    | succ i => simp at hn
    | zero =>
      simp at hn hp
      subst hn hp
      refine ⟨(hg.block _ (by simp) ?_).trans (heap_alloc_new w _), Nat.le_refl _⟩
      intro e
      have := own_lt h0 _ e.symm
      omega
  kp := by
    have := hg.size
    simp at this
    refine ⟨hg.os, hg.tape, hg.output, by omega, fun k hk hne => (hg.block k (by simp; omega) (fun e => hne e.symm)).trans ?_⟩
    rw [Below.heap_alloc _ _ _ hk]

theorem Grow.drewN {w w' : World} {g c : Nat} {tv tv' : Value} {gs ns : List Nat} {prs : List P3} (h : Grow w g c tv gs ns prs tv' w') (n : Nat) : Grow w g c tv gs ns prs tv' (w'.drewN n) where
  own := own_same h.own (fun _ _ => rfl)
  at_ := h.at_
  vis := h.vis
  kp := h.kp.trans (Kp.drewN _ _ n)

theorem Grow.grown {w w' w2 : World} {g c : Nat} {tv tv' : Value} {gs ns : List Nat} {prs : List P3} (h : Grow w g c tv gs ns prs tv' w') (hg : w'.grownBy w2 none) : Grow w g c tv gs ns prs tv' w2 where
  own := own_same h.own (fun k e => hg.block k (own_lt h.own k e) (by simp))
  at_ := h.at_
  vis := ⟨h.vis.1, fun i n pr hn hp => by
    obtain ⟨q1, q2⟩ := h.vis.2 i n pr hn hp
    exact ⟨(hg.block n (heap_lt q1) (by simp)).trans q1, q2⟩⟩
  kp := h.kp.trans (Kp.of_grown hg (fun _ e => by cases e))

/-- what stands apart from the row is as it was -/
theorem Grow.heap {w w' : World} {g c : Nat} {tv tv' : Value} {gs ns : List Nat} {prs : List P3} (h : Grow w g c tv gs ns prs tv' w') {k : Nat} {o : Obj} (hk : w.heap[k]? = some o) (hne : tv.ownBlock ≠ some k) : w'.heap[k]? = some o := (h.kp.block k (heap_lt hk) hne).trans hk

theorem Grow.kpm {wm w w' : World} {Br g c : Nat} {tv tv' : Value} {gs ns : List Nat} {prs : List P3} (h : Grow w g c tv gs ns prs tv' w') (hB : Kp (fun k => k ≠ Br) wm w) (hfar : ∀ k, tv.ownBlock = some k → wm.heap.size ≤ k) : Kp (fun k => k ≠ Br) wm w' :=
  ⟨h.kp.os.trans hB.os, h.kp.tape.trans hB.tape, h.kp.output.trans hB.output, Nat.le_trans hB.size h.kp.size, fun k hk hne => (h.kp.block k (Nat.lt_of_lt_of_le hk hB.size) (fun e => by have := hfar k e; omega)).trans (hB.block k hk hne)⟩

theorem Tryz.infoVP : (Tryz.prog.info? 225).map (fun i => (i.zero, i.size, i.bytes)) = some (some (.pointer none), 1, 8) := by kernel_rfl

end Go.Proofs.YtlljggefbngkeaaGreatDoor

namespace Go.Proofs.YtlljggefbngkeaaGreatDoor
open Go.RowKit

def FreePost (w : World) (F : List MSt) (gate beh g : Nat) (pr : P3) (tv : Value) (gs : List Nat) (e : Ending) (w' : World) : Prop := ∃ tv' ns, e = .returned tv' ∧ Grow w g 0 tv gs ns (frees F gate beh pr) tv' w'
theorem free_done {w w' : World} {F : List MSt} {gate beh g : Nat} {pr : P3} {tv tv' : Value} {gs ns : List Nat} {prs : List P3} (hG : Grow w g 0 tv gs ns prs tv' w') (hp : frees F gate beh pr = prs) : FreePost w F gate beh g pr tv gs (.returned tv') w' := ⟨tv', ns, rfl, by rw [hp]; exact hG⟩

set_option maxRecDepth 100000 in
set_option maxHeartbeats 16000000 in
/-- freely(): the visits that are one move away, without a sign -/
theorem sfreely {wm w : World} {Br mb sb gate beh g c : Nat} {F : List MSt} {st en : Nat} {pr : P3} {fr : Option Addr} {tv : Value} {gs : List Nat}
    (hM : MH wm (fun k => k = Br) mb F st en) (hfl : ∀ x, freeLen F x ≤ 1000) (hB : Kp (fun k => k ≠ Br) wm w) (hs : w.heap[sb]? = some (seblk mb gate beh)) (hv : w.heap[g]? = some (vblk pr fr c))
    (h1 : pr.2.1 < F.length) (h2 : pr.2.2 < F.length) (ht : w.ownsRow 0 225 1 tv gs.length (ptrs gs)) (hn : gs.length ≤ 10000000000000) (hfar : ∀ k, tv.ownBlock = some k → wm.heap.size ≤ k) :
    Calls Tryz.prog 184 #[.pointer (some ⟨sb, 0, none⟩), .pointer (some ⟨g, 0, none⟩), tv] w fun e w' => FreePost w F gate beh g pr tv gs e w' := by
  obtain ⟨i0, hi0, hz0, hz1, hz2⟩ := info_parts Tryz.infoVP
  obtain ⟨ao, cp, rfl⟩ := own_slice ht
  obtain ⟨ph, a, b⟩ := pr
  simp only at h1 h2
  obtain ⟨p, hp⟩ : ∃ p, F[a]? = some p := ⟨_, List.getElem?_eq_getElem h1⟩
  obtain ⟨q, hq⟩ : ∃ q, F[b]? = some q := ⟨_, List.getElem?_eq_getElem h2⟩
  obtain ⟨so, sc, m0, _, mrow⟩ := hM.row hB
  obtain ⟨gs1, v1, rfl, _, _, m1, o1, l1⟩ := mrow a p hp
  have s0 : w.cell? ⟨sb, 0, none⟩ = some (.pointer (some ⟨mb, 0, none⟩)) := by rw [cellOf hs 0]; rfl
  have c1 : w.cell? ⟨g, 1, none⟩ = some (.int .i64 (a : Int)) := by rw [cellOf hv 1]; rfl
  obtain ⟨a1, p1, rfl⟩ := own_slice o1
  have hne := own_ptr_ne ht hv
  have hsn : (Value.slice ao gs.length cp).ownBlock ≠ some sb := own_ne hs ht (by decide)
  have hfa : freeOf F a = p.free := by unfold freeOf; rw [hp]
  have hla : p.free.length ≤ 1000 := by have := hfl a; unfold freeLen at this; rw [hp] at this; exact this
  have HR := hide (And.intro o1 (And.intro l1 (And.intro hfar (And.intro ht (And.intro hv (And.intro hs (And.intro hM hB)))))))
  have H0 := hide (Grow.refl (g := g) (c := 0) ht)
  clear o1 hM hB mrow ht hv hs hfar l1
  go_enter Tryz.func184, Tryz.ntmps184
  go_wp2_with fail
  go_quiet (fail)
  go_wp2_with fail
  clear m0 s0 c1 m1
  go_loopg [2, 27] (p.free.length + 1) (fun gk tv' iv wv => ∃ (k : Nat) (ns : List Nat), iv = .int .i64 (k : Int) ∧ k ≤ p.free.length ∧ p.free.length - k < gk ∧ Grow w g 0 (.slice ao gs.length cp) gs ns ((frees1 F (ph, a, b)).take k) tv' wv)
  case atStart => exact ⟨0, [], rfl, Nat.zero_le _, by omega, by rw [List.take_zero]; exact (unhide H0).drewN _⟩
  case round =>
    obtain ⟨k, ns, rfl, hk, hgk, hG⟩ := hrel
    obtain ⟨o1, l1, hfar, ht, hv, hs, hM, hB⟩ := unhide HR
    obtain ⟨ak, ck, rfl⟩ := own_slice hG.own
    have hgr := hG.heap hv hne
    have c0 : wr.cell? ⟨g, 0, none⟩ = some (.int .i64 (ph : Int)) := by rw [cellOf hgr 0]; rfl
    have c2 : wr.cell? ⟨g, 2, none⟩ = some (.int .i64 (b : Int)) := by rw [cellOf hgr 2]; rfl
    by_cases hlt : k < p.free.length
    · have hd : (k : Int) < (p.free.length : Int) := by omega
      obtain ⟨vb, cap, hveq, _, hvl⟩ := o1.form (by omega)
      injection hveq with hao _ hcp
      subst hao
      subst hcp
      have ck1 : wr.cell? ⟨vb, k, none⟩ = some (.int .i64 (p.free[k] : Int)) := by
        rw [World.cell?_of_block (w := w) (w' := wr) (a := ⟨vb, k, none⟩) (hG.kp.block vb hvl (fun e => by have := l1 vb rfl; have := hfar vb e; omega)), o1.cellAt k (by omega)]
        simp [nums, hlt]
      have hown := hG.own
      have hgl : (gs ++ ns).length ≤ 10000000010000 := by
        have : ns.length ≤ k := by rw [hG.vis.1, List.length_take]; omega
        simp
        omega
      have hel : (frees1 F (ph, a, b))[k]? = some (ph, p.free[k], b) := by simp [frees1, hfa, hlt]
      have HG := hide (And.intro hG hel)
      clear hG o1 ht hv hs hM hB hgr hel
      generalize hgq : gs ++ ns = gl at *
      have Hgq := hide hgq
      clear hgq
      go_wp2_with fail
      go_region_law
        (refine step_append_lies _ (by rfl) _ _ _ (by rfl) 0 225 i0 _ 1 8 Tryz.underlying235 hi0 hz0 hz1 hz2 rfl (by omega) (.slice ak gl.length ck) gl.length (ptrs gl) (by rfl) (((hown.alloc _).alloc _).drew)
          ⟨wr.heap.size + 1, 0, none⟩ 1 1 [.pointer (some ⟨wr.heap.size, 0, none⟩)] (by rfl) (by rfl) (World.news_of_block (cs := #[.pointer (some ⟨wr.heap.size, 0, none⟩)]) (t := 225) (fr := (0, 0)) (alloc2_at wr _ _)) (by simp [Value.oneCell'])
          (by omega) (by unfold maxLen; omega) (by omega) (by simp) (wr.heap.size + 2) (by simp) ?_; intro g5 cap5 w5 hown5 hgrow5 hat5 hlt5)
      all_goals
        have HN := hide (Grow.one (w := wr) (g := g) (c := 0) (pr := (ph, p.free[k], b)) hown5 ((World.grownBy_alloc _ _ _).trans ((grown_drew' _ _).trans hgrow5)) hown (hat5.imp id (fun e => by omega)))
        clear hown5 hgrow5 hat5 hlt5
        go_wp2_with fail
        go_roundg (p.free.length - k)
        case measure => exact hgk
        case rel =>
          obtain ⟨hG, hel⟩ := unhide HG
          obtain rfl := unhide Hgq
          refine ⟨k + 1, ns ++ [wr.heap.size], by simp, by omega, by omega, ?_⟩
          rw [List.take_add_one, hel]
          exact hG.trans (unhide HN)
    · have hke : k = p.free.length := by omega
      subst hke
      have hG1 : Grow w g 0 (.slice ao gs.length cp) gs ns (frees1 F (ph, a, b)) (.slice ak (gs ++ ns).length ck) wr := by
        rw [List.take_of_length_le (by simp [frees1, hfa])] at hG
        exact hG
      have hsr := hG.heap hs hsn
      obtain ⟨so, sc, m0, _, mrow⟩ := hM.row (hG.kpm hB hfar)
      obtain ⟨gs2, v2, rfl, _, _, m2, o2, l2⟩ := mrow b q hq
      have s0 : wr.cell? ⟨sb, 0, none⟩ = some (.pointer (some ⟨mb, 0, none⟩)) := by rw [cellOf hsr 0]; rfl
      obtain ⟨a2, p2, rfl⟩ := own_slice o2
      have hfb : freeOf F b = q.free := by unfold freeOf; rw [hq]
      have hlb : q.free.length ≤ 1000 := by have := hfl b; unfold freeLen at this; rw [hq] at this; exact this
      have HR2 := hide (And.intro o2 (And.intro l2 hG1))
      clear hG hG1 o1 ht hv hs hM hB mrow hgr hsr o2 l2 l1 hfar
      generalize hgq : gs ++ ns = gl at *
      have Hgq := hide hgq
      clear hgq
      go_wp2_with fail
      go_quiet (fail)
      go_wp2_with fail
      clear m0 s0 c0 c2 m2
      rename World => wo
      clear hgk
      go_loopg [2, 66] (q.free.length + 1) (fun gk tv' iv wv => ∃ (k : Nat) (ns : List Nat), iv = .int .i64 (k : Int) ∧ k ≤ q.free.length ∧ q.free.length - k < gk ∧ Grow w g 0 (.slice ao gs.length cp) gs ns (frees1 F (ph, a, b) ++ (frees2 F (ph, a, b)).take k) tv' wv)
      case atStart =>
        obtain ⟨_, _, hG1⟩ := unhide HR2
        exact ⟨0, ns, rfl, Nat.zero_le _, by omega, by rw [List.take_zero, List.append_nil]; exact hG1.drewN _⟩
      case round =>
        obtain ⟨k, nt, rfl, hk, hgk, hG⟩ := hrel
        obtain ⟨_, _, hfar, ht, hv, hs, hM, hB⟩ := unhide HR
        obtain ⟨o2, l2, hG1⟩ := unhide HR2
        obtain ⟨aj, cj, rfl⟩ := own_slice hG.own
        have hgr := hG.heap hv hne
        have c0 : wr.cell? ⟨g, 0, none⟩ = some (.int .i64 (ph : Int)) := by rw [cellOf hgr 0]; rfl
        have c1 : wr.cell? ⟨g, 1, none⟩ = some (.int .i64 (a : Int)) := by rw [cellOf hgr 1]; rfl
        by_cases hlt : k < q.free.length
        · have hd : (k : Int) < (q.free.length : Int) := by omega
          obtain ⟨vb, cap, hveq, _, hvl⟩ := o2.form (by omega)
          injection hveq with hao _ hcp
          subst hao
          subst hcp
          have ck1 : wr.cell? ⟨vb, k, none⟩ = some (.int .i64 (q.free[k] : Int)) := by
            have hw : ∀ e : (Value.slice ao gs.length cp).ownBlock = some vb, False := fun e => by have := l2 vb rfl; have := hfar vb e; omega
            have hvw : vb < w.heap.size := Nat.lt_of_lt_of_le (l2 vb rfl) hB.size
            rw [World.cell?_of_block (w := wo) (w' := wr) (a := ⟨vb, k, none⟩) ((hG.kp.block vb hvw hw).trans (hG1.kp.block vb hvw hw).symm), o2.cellAt k (by omega)]
            simp [nums, hlt]
          have hown := hG.own
          have hgl : (gs ++ nt).length ≤ 10000000010000 := by
            have : nt.length ≤ p.free.length + k := by rw [hG.vis.1, List.length_append, List.length_take, frees1, List.length_map, hfa]; omega
            simp
            omega
          have hel : (frees2 F (ph, a, b))[k]? = some (ph, a, q.free[k]) := by simp [frees2, hfb, hlt]
          have HG := hide (And.intro hG hel)
          clear hG hG1 o2 ht hv hs hM hB hgr hel Hgq
          generalize hgq : gs ++ nt = gm at *
          have Hgq := hide hgq
          clear hgq
          go_wp2_with fail
          go_region_law
            (refine step_append_lies _ (by rfl) _ _ _ (by rfl) 0 225 i0 _ 1 8 Tryz.underlying235 hi0 hz0 hz1 hz2 rfl (by omega) (.slice aj gm.length cj) gm.length (ptrs gm) (by rfl) (((hown.alloc _).alloc _).drew)
              ⟨wr.heap.size + 1, 0, none⟩ 1 1 [.pointer (some ⟨wr.heap.size, 0, none⟩)] (by rfl) (by rfl) (World.news_of_block (cs := #[.pointer (some ⟨wr.heap.size, 0, none⟩)]) (t := 225) (fr := (0, 0)) (alloc2_at wr _ _)) (by simp [Value.oneCell'])
              (by omega) (by unfold maxLen; omega) (by omega) (by simp) (wr.heap.size + 2) (by simp) ?_; intro g5 cap5 w5 hown5 hgrow5 hat5 hlt5)
          all_goals
            have HN := hide (Grow.one (w := wr) (g := g) (c := 0) (pr := (ph, a, q.free[k])) hown5 ((World.grownBy_alloc _ _ _).trans ((grown_drew' _ _).trans hgrow5)) hown (hat5.imp id (fun e => by omega)))
            clear hown5 hgrow5 hat5 hlt5
            go_wp2_with fail
            go_roundg (q.free.length - k)
            case measure => exact hgk
            case rel =>
              obtain ⟨hG, hel⟩ := unhide HG
              obtain rfl := unhide Hgq
              refine ⟨k + 1, nt ++ [wr.heap.size], by simp, by omega, by omega, ?_⟩
              rw [List.take_add_one, hel, ← List.append_assoc]
              exact hG.trans (unhide HN)
        · have hke : k = q.free.length := by omega
          subst hke
          have hG2 : Grow w g 0 (.slice ao gs.length cp) gs nt (frees1 F (ph, a, b) ++ frees2 F (ph, a, b)) (.slice aj (gs ++ nt).length cj) wr := by
            rw [List.take_of_length_le (by simp [frees2, hfb])] at hG
            exact hG
          have hsr := hG.heap hs hsn
          have c2 : wr.cell? ⟨g, 2, none⟩ = some (.int .i64 (b : Int)) := by rw [cellOf hgr 2]; rfl
          have s1 : wr.cell? ⟨sb, 1, none⟩ = some (.int .i64 (gate : Int)) := by rw [cellOf hsr 1]; rfl
          have s2 : wr.cell? ⟨sb, 2, none⟩ = some (.int .i64 (beh : Int)) := by rw [cellOf hsr 2]; rfl
          have hown := hG.own
          have hgl : (gs ++ nt).length ≤ 10000000010000 := by
            have : nt.length ≤ p.free.length + q.free.length := by rw [hG2.vis.1, List.length_append, frees1, frees2, List.length_map, List.length_map, hfa, hfb]; omega
            simp
            omega
          have HG := hide (And.intro hG2 hgr)
          clear hG hG1 hG2 o2 ht hv hs hM hB hgr hsr Hgq
          generalize hgq : gs ++ nt = gm at *
          have Hgq := hide hgq
          clear hgq
          by_cases e0 : ph = 0
          · subst e0
            by_cases ea : a = gate
            · subst ea
              go_wp2_with fail
              go_quiet (fail)
              go_wp2_with fail
              obtain ⟨wq, hwq⟩ : ∃ wq, wr.drewN nq = wq := ⟨_, rfl⟩
              rw [hwq]
              have hqh : wq.heap = wr.heap := by rw [← hwq]; rfl
              have hownq := own_same (w' := wq) hown (fun _ _ => by rw [hqh])
              have hgq := (congrArg (fun (h : Array Obj) => h[g]?) hqh).trans (unhide HG).2
              have d0 : wq.cell? ⟨g, 0, none⟩ = some (.int .i64 ((0 : Nat) : Int)) := by rw [cellOf hgq 0]; rfl
              have d2 : wq.cell? ⟨g, 2, none⟩ = some (.int .i64 (b : Int)) := by rw [← hwq]; exact c2
              have t2 : wq.cell? ⟨sb, 2, none⟩ = some (.int .i64 (beh : Int)) := by rw [← hwq]; exact s2
              have HGq := hide (show Grow w g 0 (.slice ao gs.length cp) gs nt _ _ wq from hwq ▸ (unhide HG).1.drewN nq)
              have Hwq := hide (And.intro hgq hwq)
              clear hwq hqh hgq hown c0 c1 c2 s1 s2
              go_region_law
                (refine step_append_lies _ (by rfl) _ _ _ (by rfl) 0 225 i0 _ 1 8 Tryz.underlying235 hi0 hz0 hz1 hz2 rfl (by omega) (.slice aj gm.length cj) gm.length (ptrs gm) (by rfl) (((hownq.alloc _).alloc _).drew)
                  ⟨wq.heap.size + 1, 0, none⟩ 1 1 [.pointer (some ⟨wq.heap.size, 0, none⟩)] (by rfl) (by rfl) (World.news_of_block (cs := #[.pointer (some ⟨wq.heap.size, 0, none⟩)]) (t := 225) (fr := (0, 0)) (alloc2_at wq _ _)) (by simp [Value.oneCell'])
                  (by omega) (by unfold maxLen; omega) (by omega) (by simp) (wq.heap.size + 2) (by simp) ?_; intro g5 cap5 w5 hown5 hgrow5 hat5 hlt5)
              all_goals
                have HN := hide (Grow.one (w := wq) (g := g) (c := 0) (pr := (1, beh, b)) hown5 ((World.grownBy_alloc _ _ _).trans ((grown_drew' _ _).trans hgrow5)) hownq (hat5.imp id (fun e => by omega)))
                have hg5 := (unhide HN).heap (unhide Hwq).1 (own_ptr_ne hownq (unhide Hwq).1)
                have f0 : w5.cell? ⟨g, 0, none⟩ = some (.int .i64 ((0 : Nat) : Int)) := by rw [cellOf hg5 0]; rfl
                clear hown5 hgrow5 hat5 hlt5 hg5
                go_wp2_with fail
                simp only [List.getElem_toArray, List.getElem_cons_succ, List.getElem_cons_zero, Act.put, List.setIfInBounds_toArray, List.set_cons_succ, List.set_cons_zero]
                go_quiet (fail)
                go_wp2
                go_ret
                obtain rfl := unhide Hgq
                have hfin := (unhide HGq).trans (unhide HN)
                have e3 : frees3 a beh (0, a, b) = [(1, beh, b)] := by simp [frees3]
                have e4 : frees4 a beh (0, a, b) = [] := by simp [frees4]
                exact free_done (hfin.drewN _) (by rw [frees, e3, e4, List.append_nil])
            · have ea' : ¬ ((a : Int) = (gate : Int)) := by omega
              go_wp2_with fail
              go_quiet (fail)
              go_wp2_with fail
              go_quiet (fail)
              go_wp2
              go_ret
              obtain rfl := unhide Hgq
              have e3 : frees3 gate beh (0, a, b) = [] := by simp [frees3, ea]
              have e4 : frees4 gate beh (0, a, b) = [] := by simp [frees4]
              exact free_done (((unhide HG).1.drewN _).drewN _) (by rw [frees, e3, e4, List.append_nil, List.append_nil])
          · have e0' : ¬ ((ph : Int) = 0) := by omega
            by_cases e2 : ph = 2
            · subst e2
              by_cases eb : b = gate
              · subst eb
                go_wp2_with fail
                go_quiet (fail)
                go_wp2_with fail
                go_quiet (fail)
                go_wp2_with fail
                rename_i nq1 _ _
                obtain ⟨wq, hwq⟩ : ∃ wq, (wr.drewN nq1).drewN nq = wq := ⟨_, rfl⟩
                rw [hwq]
                have hqh : wq.heap = wr.heap := by rw [← hwq]; rfl
                have hownq := own_same (w' := wq) hown (fun _ _ => by rw [hqh])
                have hgq := (congrArg (fun (h : Array Obj) => h[g]?) hqh).trans (unhide HG).2
                have d0 : wq.cell? ⟨g, 0, none⟩ = some (.int .i64 ((2 : Nat) : Int)) := by rw [cellOf hgq 0]; rfl
                have d1 : wq.cell? ⟨g, 1, none⟩ = some (.int .i64 (a : Int)) := by rw [← hwq]; exact c1
                have t2 : wq.cell? ⟨sb, 2, none⟩ = some (.int .i64 (beh : Int)) := by rw [← hwq]; exact s2
                have HGq := hide (show Grow w g 0 (.slice ao gs.length cp) gs nt _ _ wq from hwq ▸ ((unhide HG).1.drewN _).drewN _)
                have Hwq := hide (And.intro hgq hwq)
                clear hwq hqh hgq hown c0 c1 c2 s1 s2
                go_region_law
                  (refine step_append_lies _ (by rfl) _ _ _ (by rfl) 0 225 i0 _ 1 8 Tryz.underlying235 hi0 hz0 hz1 hz2 rfl (by omega) (.slice aj gm.length cj) gm.length (ptrs gm) (by rfl) (((hownq.alloc _).alloc _).drew)
                    ⟨wq.heap.size + 1, 0, none⟩ 1 1 [.pointer (some ⟨wq.heap.size, 0, none⟩)] (by rfl) (by rfl) (World.news_of_block (cs := #[.pointer (some ⟨wq.heap.size, 0, none⟩)]) (t := 225) (fr := (0, 0)) (alloc2_at wq _ _)) (by simp [Value.oneCell'])
                    (by omega) (by unfold maxLen; omega) (by omega) (by simp) (wq.heap.size + 2) (by simp) ?_; intro g5 cap5 w5 hown5 hgrow5 hat5 hlt5)
                all_goals
                  have HN := hide (Grow.one (w := wq) (g := g) (c := 0) (pr := (3, a, beh)) hown5 ((World.grownBy_alloc _ _ _).trans ((grown_drew' _ _).trans hgrow5)) hownq (hat5.imp id (fun e => by omega)))
                  have hg5 := (unhide HN).heap (unhide Hwq).1 (own_ptr_ne hownq (unhide Hwq).1)
                  have f0 : w5.cell? ⟨g, 0, none⟩ = some (.int .i64 ((2 : Nat) : Int)) := by rw [cellOf hg5 0]; rfl
                  clear hown5 hgrow5 hat5 hlt5 hg5
                  go_wp2
                  go_ret
                  obtain rfl := unhide Hgq
                  have hfin := (unhide HGq).trans (unhide HN)
                  have e3 : frees3 b beh (2, a, b) = [] := by simp [frees3]
                  have e4 : frees4 b beh (2, a, b) = [(3, a, beh)] := by simp [frees4]
                  exact free_done (hfin) (by rw [frees, e3, e4, List.append_nil])
              · have eb' : ¬ ((b : Int) = (gate : Int)) := by omega
                go_wp2_with fail
                go_quiet (fail)
                go_wp2_with fail
                go_quiet (fail)
                go_wp2
                go_ret
                obtain rfl := unhide Hgq
                have e3 : frees3 gate beh (2, a, b) = [] := by simp [frees3]
                have e4 : frees4 gate beh (2, a, b) = [] := by simp [frees4, eb]
                exact free_done (((unhide HG).1.drewN _).drewN _) (by rw [frees, e3, e4, List.append_nil, List.append_nil])
            · have e2' : ¬ ((ph : Int) = 2) := by omega
              go_wp2_with fail
              go_quiet (fail)
              go_wp2_with fail
              go_quiet (fail)
              go_wp2
              go_ret
              obtain rfl := unhide Hgq
              have e3 : frees3 gate beh (ph, a, b) = [] := by simp [frees3, e0]
              have e4 : frees4 gate beh (ph, a, b) = [] := by simp [frees4, e2]
              exact free_done (((unhide HG).1.drewN _).drewN _) (by rw [frees, e3, e4, List.append_nil, List.append_nil])

end Go.Proofs.YtlljggefbngkeaaGreatDoor
