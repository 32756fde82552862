import Derived.Test.YtlljggefbngkeaaGreatDoorV28
import Derived.WideKeyEntry
namespace Go.Proofs.YtlljggefbngkeaaGreatDoor
open Go.RowKit Go.Shelf Go.Maps
open Go.ChangeMaps (setBlock)

set_option maxRecDepth 1000000 in
theorem pairKL : WideMaps.KeyLaw Tryz.prog 211 := deep_law_laid Tryz.laidOutP (m := 2) (by omega) Tryz.rowPair (by kernel_rfl) Tryz.widePair

theorem ok_world {α : Type} {a b : α} {w w' : World} (h : Result.ok a w = Result.ok b w') : w = w' := by cases h; rfl
theorem ok_val {α : Type} {a b : α} {w w' : World} (h : Result.ok a w = Result.ok b w') : a = b := by cases h; rfl

theorem setBlock_self {w : World} {b : Nat} {o : Obj} (h : w.heap[b]? = some o) : setBlock w b o = w := by
  unfold setBlock
  have : w.heap.setIfInBounds b o = w.heap := by
    apply Array.ext_getElem?
    intro i
    by_cases e : b = i
    · subst e
      rw [h, Array.getElem?_setIfInBounds_self_of_lt (heap_lt h)]
    · rw [Array.getElem?_setIfInBounds_ne e]
  rw [this]

set_option maxRecDepth 1000000 in
set_option maxHeartbeats 800000 in
/-- times[pair]++: the look-up (ahead of the entry or behind it), the entry, the store -/
theorem inc_run {w : World} {b n it : Nat} {D : DataW Unit} {pre : List P3} {pr : P3} (h : TM w b n pre it D) (hn : n ≤ 1000000) (hr : Rng n pr) (hit : it < 1000000000000) :
    ∃ (c : Nat) (v0 : Value) (st : Nat) (w1 w2 : World), (Instr.lookup 234 (.map (some b)) (pval pr) false).run Tryz.prog w = .ok (.int .i64 (c : Int)) w ∧
      (Instr.mapEntry 234 (.map (some b)) (pval pr)).run Tryz.prog w = .ok (.tuple #[v0, goInt st]) w1 ∧
      (Instr.lookup 234 (.map (some b)) (pval pr) false).run Tryz.prog w1 = .ok (.int .i64 (c : Int)) w1 ∧
      (Instr.entryStore 234 (.map (some b)) (goInt st) (.int .i64 ((c : Int) + 1))).run Tryz.prog w1 = .ok () w2 ∧
      c ≤ it ∧ (1 ≤ c ↔ pr ∈ pre) ∧ w.grownBy w2 (some b) ∧ ∃ D', TM w2 b n (if pr ∈ pre then pre else pre ++ [pr]) (it + 1) D' ∧
        (Instr.lookup 234 (.map (some b)) (pval pr) false).run Tryz.prog w2 = .ok (.int .i64 ((c : Int) + 1)) w2 := by
  have ht := Tryz.underlying234
  have hi := Tryz.underlying3
  have hk := pkey hr hn
  obtain ⟨c0, hl0, hat0, hwf0⟩ := h.own.lookup_int pairLaw ht hi (zeroI _) hk
  obtain ⟨c, hc, hcle, hcp⟩ := h.val pr hr
  have hcc : c0 = (c : Int) := by rw [hat0] at hc; simpa using hc
  subst hcc
  obtain ⟨es, clock, hb, F, hsz, hD⟩ := h.own
  obtain ⟨v0, st, es1, clock1, hE2, _, hE4⟩ := WideElems.entry_then_store pairKL ht (z := .int .i64 0) (fun u => zeroI u) hb F hk
  have hb1 : (setBlock w b (.map es1 clock1)).heap[b]? = some (.map es1 clock1) := ChangeMaps.heap_setBlock_same hb _
  obtain ⟨es', clock', hS, hU⟩ := hE4 _ (.int .i64 ((c : Int) + 1)) hb1
  obtain ⟨w2, hrunU, hown2, hg2⟩ := h.own.update pairLaw ht (by unfold maxLen; omega) hk (plainElem_int (H := Unit) hi (a := (c : Int) + 1) (WalkArith.wf_i64 (by omega)))
  have hw2 : setBlock (setBlock w b (.map es1 clock1)) b (.map es' clock') = w2 := by
    rw [hU] at hrunU
    have e2 := ok_world hrunU
    rw [← e2]
    unfold setBlock
    simp
  rw [hw2] at hS
  have hl1 : (Instr.lookup 234 (.map (some b)) (pval pr) false).run Tryz.prog (setBlock w b (.map es1 clock1)) = .ok (.int .i64 (c : Int)) (setBlock w b (.map es1 clock1)) := by
    rcases pairKL.find w hk es.toList F.keys with ⟨h1, h2⟩ | ⟨j, e0, h1, h2, h3⟩
    · have hm : (Instr.mapEntry 234 (.map (some b)) (pval pr)).run Tryz.prog w = .ok (.tuple #[.int .i64 0, goInt clock]) (setBlock w b (.map (es.push ⟨pval pr, .int .i64 0, clock⟩) (clock + 1))) := by
        simp [Instr.mapEntry, run_underlying ht, MapKept.run_getObj_map hb, pairKL.check w false hk, h1, MapKept.run_setObj_map _ hb, Result.andThen, setBlock]
      have hu0 : (Instr.mapUpdate 234 (.map (some b)) (pval pr) (.int .i64 0)).run Tryz.prog w = .ok () (setBlock w b (.map (es.push ⟨pval pr, .int .i64 0, clock⟩) (clock + 1))) := by
        simp [Instr.mapUpdate, run_underlying ht, MapKept.run_getObj_map hb, pairKL.check w false hk, h1, MapKept.run_setObj_map _ hb, Result.andThen, setBlock]
      have hl00 : (Instr.lookup 234 (.map (some b)) (pval pr) false).run Tryz.prog w = .ok (.int .i64 0) w := by
        rcases Maps.fit_look false pairLaw ht (zeroI w) hb F hk with ⟨hrun, _, _⟩ | ⟨e0, y, hm1, hm2, _, _, _, _⟩
        · exact hrun
        · exact absurd hm2 (h2 e0 hm1)
      have hc0 : (c : Int) = 0 := by
        rw [hl00] at hl0
        have e1 := ok_val hl0
        injection e1 with _ e1
        exact e1.symm
      have hw1 : setBlock w b (.map es1 clock1) = setBlock w b (.map (es.push ⟨pval pr, .int .i64 0, clock⟩) (clock + 1)) := by
        rw [hm] at hE2
        exact (ok_world hE2).symm
      rw [hw1]
      obtain ⟨wu, hru, hownu, _⟩ := h.own.update pairLaw ht (by unfold maxLen; omega) hk (plainElem_int (H := Unit) hi (a := 0) (by decide))
      rw [hu0] at hru
      rw [ok_world hru]
      obtain ⟨c1, hl1, hat1, _⟩ := hownu.lookup_int pairLaw ht hi (zeroI _) hk
      have htd : Tidy D := h.own.tidy pairLaw
      rw [atKey_put_same htd.isMap (pairLaw.key hk)] at hat1
      have : c1 = 0 := by simpa using hat1.symm
      rw [hl1, this, hc0]
    · have hj : es[j]? = some e0 := by simpa using h2
      have hsame : es.modify j (fun e => { e with key := pval pr }) = es := by
        apply Array.ext'
        rw [Array.toList_modify, ChangeMaps.modify_eq_set _ _ _ _ h2]
        have : ({ e0 with key := pval pr } : MapEntry) = e0 := by rw [← h3]
        rw [this]
        exact WideElems.set_self _ _ _ h2
      have hm : (Instr.mapEntry 234 (.map (some b)) (pval pr)).run Tryz.prog w = .ok (.tuple #[e0.val, goInt e0.born]) (setBlock w b (.map es clock)) := by
        simp [Instr.mapEntry, run_underlying ht, MapKept.run_getObj_map hb, pairKL.check w false hk, h1, hj, h3, pairKL.stays w hk, hsame, MapKept.run_setObj_map _ hb, Result.andThen, setBlock]
      have hw1 : setBlock w b (.map es1 clock1) = w := by
        rw [hm] at hE2
        rw [← ok_world hE2, setBlock_self hb]
      rw [hw1]
      exact hl0
  have hTM := h.step hn hr hat0 hown2
  refine ⟨c, v0, st, _, w2, hl0, hE2, hl1, hS, hcle, hcp, hg2, _, hTM, ?_⟩
  obtain ⟨c2, hl2, hat2, _⟩ := hown2.lookup_int pairLaw ht hi (zeroI _) hk
  have htd : Tidy D := h.own.tidy pairLaw
  rw [atKey_put_same htd.isMap (pairLaw.key hk)] at hat2
  have : c2 = (c : Int) + 1 := by simpa using hat2.symm
  rw [hl2, this]

end Go.Proofs.YtlljggefbngkeaaGreatDoor

namespace Go.Proofs.YtlljggefbngkeaaGreatDoor
open Go.RowKit Go.Shelf Go.Maps
attribute [local go_sem] Oper.semAt_some

def encV (x : Nat × P3) : Array Value := #[.pointer (some ⟨x.1, 0, none⟩)]
def OkV (F : List MSt) (gate beh : Nat) (s0 : P3) (_ : List (Nat × P3)) (x : Nat × P3) (A : World) : Prop := ∃ N u, VR F gate beh s0 N A x.1 x.2 u ∧ u.length ≤ 100000000
def AllV (F : List MSt) (gate beh : Nat) (s0 : P3) (xs : List (Nat × P3)) : Prop := ∀ u pr, Way F gate beh s0 u pr → pr ∈ prsOf xs

/-- ahead of a level -/
def VOut (wm : World) (Br mb sb gate beh Bs N : Nat) (F : List MSt) (s0 : P3) (J : List (Nat × P3) → World → Prop) (v5 : Value) (A : World) : Prop :=
  ∃ pre it D gs prs, VB wm Br mb sb gate beh Bs N F J pre it D A ∧ VW N F gate beh s0 (prsOf pre).length A v5 gs prs ∧ VC F gate beh s0 (prsOf pre) prs [] ∧ VD F.length it 0 gs.length 0 (prsOf pre).length
/-- within a level -/
def VIn (wm : World) (Br mb sb gate beh Bs N : Nat) (F : List MSt) (s0 : P3) (J : List (Nat × P3) → World → Prop) (m0 : Nat) (v5 v6 : Value) (k : Nat) (A : World) : Prop :=
  ∃ pre it D gs hs prs qrs, k ≤ gs.length ∧ VB wm Br mb sb gate beh Bs N F J pre it D A ∧ VW N F gate beh s0 (prsOf pre).length A v5 gs prs ∧ VW N F gate beh s0 (prsOf pre).length A v6 hs qrs ∧ (∀ j, v5.ownBlock = some j → v6.ownBlock ≠ some j) ∧
    VC F gate beh s0 (prsOf pre) (prs.drop k) qrs ∧ VD F.length it k gs.length hs.length (prsOf pre).length ∧ m0 ≤ (prsOf pre).length ∧ (hs ≠ [] → m0 < (prsOf pre).length)

theorem map_ne_row {A : World} {N it : Nat} {D : DataW Unit} {v : Value} {n : Nat} {xs : List Value} {e : TypeId} {sz : Nat} (hm : A.ownsMap Tryz.prog 211 (plainElem Tryz.prog 3) N it D) (ho : A.ownsRow 0 e sz v n xs) : v.ownBlock ≠ some N := by
  intro h
  obtain ⟨es, ck, h9, _⟩ := hm
  rcases ho.2 with ⟨h1, _⟩ | ⟨g, cap, cur, h1, _, h2, _⟩
  · subst h1; cases h
  · subst h1
    simp [Value.ownBlock] at h
    subst h
    rw [h9] at h2
    cases h2

theorem Kv.of_map {N M : Nat} {A A' : World} {es : Array MapEntry} {ck : Nat} (h9 : A.heap[N]? = some (.map es ck)) (hg : A.grownBy A' (some N)) : Kv M A A' := fun k pr fr c _ hk =>
  (hg.block k (heap_lt hk) (fun e => by injection e with e; subst e; rw [h9] at hk; cases hk)).trans hk

theorem drop_cons {α : Type} {l : List α} {k : Nat} {x : α} (h : l[k]? = some x) : l.drop k = x :: l.drop (k + 1) := by
  obtain ⟨hk, he⟩ := List.getElem?_eq_some_iff.1 h
  rw [List.drop_eq_getElem_cons hk, he]

/-- a pair that was given out before -/
theorem VIn.old {wm : World} {Br mb sb gate beh Bs N : Nat} {F : List MSt} {s0 : P3} {J : List (Nat × P3) → World → Prop} {m0 k it : Nat} {v5 v6 : Value} {wr w2 : World} {pre : List (Nat × P3)} {D D' : DataW Unit} {gs hs : List Nat} {prs qrs : List P3} {pr : P3}
    (hVB : VB wm Br mb sb gate beh Bs N F J pre it D wr) (hVW : VW N F gate beh s0 (prsOf pre).length wr v5 gs prs) (hVN : VW N F gate beh s0 (prsOf pre).length wr v6 hs qrs) (hap : ∀ j, v5.ownBlock = some j → v6.ownBlock ≠ some j)
    (hVC : VC F gate beh s0 (prsOf pre) (prs.drop k) qrs) (hVD : VD F.length it k gs.length hs.length (prsOf pre).length) (hm1 : m0 ≤ (prsOf pre).length) (hm2 : hs ≠ [] → m0 < (prsOf pre).length) (hlt : k < gs.length) (hp : prs[k]? = some pr)
    (hTM : TM w2 N F.length (if pr ∈ prsOf pre then prsOf pre else prsOf pre ++ [pr]) (it + 1) D') (hsn : pr ∈ prsOf pre) (hg : wr.grownBy w2 (some N)) (hj : J pre w2) (hne : ∀ k, ((k < wm.heap.size ∧ k ≠ Br) ∨ k = sb ∨ k = Bs ∨ k = 1) → k ≠ N) :
    VIn wm Br mb sb gate beh Bs N F s0 J m0 v5 v6 (k + 1) w2 := by
  rw [if_pos hsn] at hTM
  obtain ⟨es, ck, h9, _⟩ := hVB.tm.own
  have hkv : Kv N wr w2 := Kv.of_map h9 hg
  refine ⟨pre, it + 1, D', gs, hs, prs, qrs, hlt, ⟨hj, hTM, hVB.nd, hVB.rg, hVB.ve.move hg.os hg.tape hg.output hg.size (fun k hk hz => hg.block k hk (fun e => hne k hz (by injection e)))⟩,
    hVW.kept (Nat.le_refl _) hkv (fun k e => hg.block k (own_lt hVW.own k e) (fun e2 => map_ne_row hVB.tm.own hVW.own (by rw [e, e2]))),
    hVN.kept (Nat.le_refl _) hkv (fun k e => hg.block k (own_lt hVN.own k e) (fun e2 => map_ne_row hVB.tm.own hVN.own (by rw [e, e2]))), hap, ?_, ⟨by have := hVD.ki; omega, hVD.pl, by have := hVD.bd; omega⟩, hm1, hm2⟩
  rw [drop_cons hp] at hVC
  exact hVC.old hsn

/-- between the count and the end of a round -/
structure VS (wm : World) (Br mb sb gate beh Bs N : Nat) (F : List MSt) (s0 : P3) (A : World) (m : Nat) (v5 v6 : Value) (gs hs : List Nat) (prs qrs : List P3) (P : List P3) (it : Nat) (D : DataW Unit) (g : Nat) (pr : P3) (u : List UInt8) : Prop where
  ve : VE wm Br mb sb gate beh Bs A
  tm : TM A N F.length P it D
  lv : VW N F gate beh s0 m A v5 gs prs
  nx : VW N F gate beh s0 m A v6 hs qrs
  ap : ∀ j, v5.ownBlock = some j → v6.ownBlock ≠ some j
  vr : VR F gate beh s0 N A g pr u

section
variable {wm : World} {Br mb sb gate beh Bs N : Nat} {F : List MSt} {s0 : P3} {A A' : World} {m : Nat} {v5 v6 : Value} {gs hs : List Nat} {prs qrs : List P3} {P : List P3} {it : Nat} {D : DataW Unit} {g : Nat} {pr : P3} {u : List UInt8}

theorem VS.count {P' : List P3} {it' : Nat} {D' : DataW Unit} (hve : VE wm Br mb sb gate beh Bs A) (htm : TM A N F.length P it D) (hlv : VW N F gate beh s0 m A v5 gs prs) (hnx : VW N F gate beh s0 m A v6 hs qrs) (hap : ∀ j, v5.ownBlock = some j → v6.ownBlock ≠ some j) (hvr : VR F gate beh s0 N A g pr u)
    (hTM : TM A' N F.length P' it' D') (hg : A.grownBy A' (some N)) (hne : ∀ k, ((k < wm.heap.size ∧ k ≠ Br) ∨ k = sb ∨ k = Bs ∨ k = 1) → k ≠ N) : VS wm Br mb sb gate beh Bs N F s0 A' m v5 v6 gs hs prs qrs P' it' D' g pr u := by
  obtain ⟨es, ck, h9, _⟩ := htm.own
  have hkv : Kv N A A' := Kv.of_map h9 hg
  exact ⟨hve.move hg.os hg.tape hg.output hg.size (fun k hk hz => hg.block k hk (fun e => hne k hz (by injection e))), hTM,
    hlv.kept (Nat.le_refl _) hkv (fun k e => hg.block k (own_lt hlv.own k e) (fun e2 => map_ne_row htm.own hlv.own (by rw [e, e2]))),
    hnx.kept (Nat.le_refl _) hkv (fun k e => hg.block k (own_lt hnx.own k e) (fun e2 => map_ne_row htm.own hnx.own (by rw [e, e2]))), hap, hvr.kv hkv⟩

/-- a round of the caller's -/
theorem VS.round {fp : World → Nat → Prop} (h : VS wm Br mb sb gate beh Bs N F s0 A m v5 v6 gs hs prs qrs P it D g pr u) (hk : Kf fp A A') (hfN : ∀ k, fp A k → k < N) (hfe : ∀ k, fp A k → ¬ ((k < wm.heap.size ∧ k ≠ Br) ∨ k = sb ∨ k = Bs ∨ k = 1)) :
    VS wm Br mb sb gate beh Bs N F s0 A' m v5 v6 gs hs prs qrs P it D g pr u := by
  have hN : ∀ k, k < A.heap.size → N ≤ k → A'.heap[k]? = A.heap[k]? := fun k hl hn => hk.block k hl (fun hf => by have := hfN k hf; omega)
  have hkv : Kv N A A' := fun k pr fr c hn hb => (hN k (heap_lt hb) hn).trans hb
  obtain ⟨es, ck, h9, _⟩ := h.tm.own
  exact ⟨h.ve.move hk.os hk.tape hk.output hk.size (fun k hl hz => hk.block k hl (fun hf => hfe k hf hz)), h.tm.kept (hN N (heap_lt h9) (Nat.le_refl _)),
    h.lv.kept (Nat.le_refl _) hkv (fun k e => hN k (own_lt h.lv.own k e) (h.lv.far k e)), h.nx.kept (Nat.le_refl _) hkv (fun k e => hN k (own_lt h.nx.own k e) (h.nx.far k e)), h.ap, h.vr.kv hkv⟩

theorem VS.nlt (h : VS wm Br mb sb gate beh Bs N F s0 A m v5 v6 gs hs prs qrs P it D g pr u) : N < A.heap.size := by
  obtain ⟨es, ck, h9, _⟩ := h.tm.own
  exact heap_lt h9

theorem VS.free {ns : List Nat} {v5' : Value} (h : VS wm Br mb sb gate beh Bs N F s0 A m v5 v6 gs hs prs qrs P it D g pr u) (hNw : wm.heap.size ≤ N) (hne : ∀ k, (k = sb ∨ k = Bs ∨ k = 1) → k < N) (hu : u.length ≤ m) (hc : Cl F F.length) (hb : beh < F.length) (hr : Rng F.length pr)
    (hG : Grow A g 0 v5 gs ns (frees F gate beh pr) v5' A') : VS wm Br mb sb gate beh Bs N F s0 A' (m + 1) v5' v6 (gs ++ ns) hs (prs ++ frees F gate beh pr) qrs P it D g pr u := by
  have hkv : Kv N A A' := hG.kv h.lv.own
  refine ⟨h.ve.move hG.kp.os hG.kp.tape hG.kp.output hG.kp.size (fun k hl hz => hG.kp.block k hl (fun e => ?_)), h.tm.kept (hG.kp.block N h.nlt (map_ne_row h.tm.own h.lv.own)),
    h.lv.freely (Nat.le_of_lt h.nlt) (Nat.le_succ _) h.vr (Nat.le_succ_of_le hu) hc hb hr hG, h.nx.kept (Nat.le_succ _) hkv (fun k e => hG.kp.block k (own_lt h.nx.own k e) (fun e2 => h.ap k e2 e)), fun j hj e => ?_, h.vr.kv hkv⟩
  · have := h.lv.far k e
    rcases hz with ⟨hz, _⟩ | hz
    · omega
    · have := hne k hz; omega
  · rcases hG.at_ j hj with h1 | h1
    · exact h.ap j h1 e
    · have := own_lt h.nx.own j e; omega

theorem VS.tog {ns : List Nat} {v6' : Value} {c : Nat} (h : VS wm Br mb sb gate beh Bs N F s0 A m v5 v6 gs hs prs qrs P it D g pr u) (hNw : wm.heap.size ≤ N) (hne : ∀ k, (k = sb ∨ k = Bs ∨ k = 1) → k < N) (hu : u.length < m) (hc : Cl F F.length) (hr : Rng F.length pr)
    (hG : Grow A g c v6 hs ns (signs2 F pr) v6' A') (hcc : signs2 F pr ≠ [] → ∃ p q, F[pr.2.1]? = some p ∧ F[pr.2.2]? = some q ∧ (UInt8.ofNat c) ∈ p.set ∧ (UInt8.ofNat c) ∈ q.set ∧ c < 256 ∧ c ≠ 0) : VS wm Br mb sb gate beh Bs N F s0 A' m v5 v6' gs (hs ++ ns) prs (qrs ++ signs2 F pr) P it D g pr u := by
  have hkv : Kv N A A' := hG.kv h.nx.own
  refine ⟨h.ve.move hG.kp.os hG.kp.tape hG.kp.output hG.kp.size (fun k hl hz => hG.kp.block k hl (fun e => ?_)), h.tm.kept (hG.kp.block N h.nlt (map_ne_row h.tm.own h.nx.own)),
    h.lv.kept (Nat.le_refl _) hkv (fun k e => hG.kp.block k (own_lt h.lv.own k e) (fun e2 => h.ap k e e2)), h.nx.together (Nat.le_of_lt h.nlt) (Nat.le_refl _) h.vr hu hc hr hG hcc, fun j hj e => ?_, h.vr.kv hkv⟩
  · have := h.nx.far k e
    rcases hz with ⟨hz, _⟩ | hz
    · omega
    · have := hne k hz; omega
  · rcases hG.at_ j e with h1 | h1
    · exact h.ap j hj h1
    · have := own_lt h.lv.own j hj; omega

/-- the end of a round in which a pair was given out -/
theorem VS.done {J : List (Nat × P3) → World → Prop} {pre : List (Nat × P3)} {m0 k : Nat} {gs0 hs0 : List Nat} {ns ns2 : List Nat} {prs0 qrs0 : List P3} (h : VS wm Br mb sb gate beh Bs N F s0 A ((prsOf pre).length + 1) v5 v6 (gs0 ++ ns) (hs0 ++ ns2) (prs0 ++ frees F gate beh pr) (qrs0 ++ signs2 F pr) (prsOf pre ++ [pr]) (it + 1) D g pr u)
    (hj : J (pre ++ [(g, pr)]) A) (hnd : (prsOf pre).Nodup) (hrg : ∀ q, q ∈ prsOf pre → Rng F.length q) (hsn : pr ∉ prsOf pre) (hr : Rng F.length pr) (hfl : ∀ x, freeLen F x ≤ 1000) (hVC : VC F gate beh s0 (prsOf pre) (prs0.drop k) qrs0) (hVD : VD F.length it k gs0.length hs0.length (prsOf pre).length) (hl0 : gs0.length = prs0.length) (hl1 : hs0.length = qrs0.length)
    (hm1 : m0 ≤ (prsOf pre).length) (hlt : k < gs0.length) (hp : prs0[k]? = some pr) : VIn wm Br mb sb gate beh Bs N F s0 J m0 v5 v6 (k + 1) A := by
  have hpo : prsOf (pre ++ [(g, pr)]) = prsOf pre ++ [pr] := prsOf_snoc _ _
  have hlen : (prsOf (pre ++ [(g, pr)])).length = (prsOf pre).length + 1 := by rw [hpo]; simp
  have hnd' : (prsOf pre ++ [pr]).Nodup := by
    rw [List.nodup_append]
    exact ⟨hnd, by simp, fun a ha b hb e => hsn (by rw [List.mem_singleton] at hb; rw [← hb, ← e]; exact ha)⟩
  have hrg' : ∀ q, q ∈ prsOf pre ++ [pr] → Rng F.length q := fun q hq => by
    rcases List.mem_append.1 hq with hq | hq
    · exact hrg q hq
    · rw [List.mem_singleton] at hq
      subst hq
      exact hr
  have hpb := pre_bound hnd' hrg'
  have h1 := frees_len (gate := gate) (beh := beh) hfl pr
  have h2 := signs2_len (F := F) pr
  have h3 := h.lv.len
  have h4 := h.nx.len
  simp at h3 h4 hpb
  rw [drop_cons hp] at hVC
  refine ⟨pre ++ [(g, pr)], it + 1, D, gs0 ++ ns, hs0 ++ ns2, prs0 ++ frees F gate beh pr, qrs0 ++ signs2 F pr, by simp; omega, ⟨hj, by rw [hpo]; exact h.tm, by rw [hpo]; exact hnd', by rw [hpo]; exact hrg', h.ve⟩, by rw [hlen]; exact h.lv, by rw [hlen]; exact h.nx, h.ap, ?_, ?_, by rw [hlen]; omega, fun _ => by rw [hlen]; omega⟩
  · rw [hpo, List.drop_append_of_le_length (by omega)]
    exact hVC.new
  · rw [hlen]
    have h5 := hVD.bd
    have h6 := hVD.ki
    refine ⟨by omega, by omega, ?_⟩
    simp only [List.length_append]
    generalize F.length * F.length = T at *
    omega
end

set_option maxRecDepth 100000 in
set_option maxHeartbeats 6400000 in
theorem visits_seq {wm w : World} {n Br mb sb gate beh Bp Bs : Nat} {F : List MSt} {st en : Nat} {s0 : P3} {fp : World → Nat → Prop} (hM : MH wm (fun k => k = Br) mb F st en) (hcl : Cl F F.length) (hfl : ∀ x, freeLen F x ≤ 1000) (hS : F.length ≤ 4000) (hbeh : beh < F.length) (hr0 : Rng F.length s0) (hB : Kp (fun k => k ≠ Br) wm w)
    (hsb : w.heap[sb]? = some (seblk mb gate beh)) (hbs : w.heap[Bs]? = some (.cells #[.pointer (some ⟨sb, 0, none⟩)] 204 (0, 0))) (hbp : w.heap[Bp]? = some (.cells (pcells s0) 211 (0, 0))) (hT : Tab w)
    (hfp : ∀ A k, fp A k → k < w.heap.size ∧ (wm.heap.size ≤ k ∨ k = Br) ∧ k ≠ sb ∧ k ≠ Bs ∧ k ≠ Bp ∧ k ≠ 1) :
    SeqW Fence.wide n Tryz.prog 183 #[.pointer (some ⟨Bp, 0, none⟩), .pointer (some ⟨Bs, 0, none⟩)] encV fp true (OkV F gate beh s0) (AllV F gate beh s0) (fun _ => True) w := by
  intro l J Jx W hW hJs hJx hfr hY h0
  have hmm := @run_makeMap Tryz.prog
  have hbpW := (hW.block Bp (heap_lt hbp) (by simp)).trans hbp
  have p0 := cellOf hbpW 0
  have p1 := cellOf hbpW 1
  have p2 := cellOf hbpW 2
  simp [pcells] at p0 p1 p2
  have hbl := heap_lt hbpW
  have a0 : ∀ o, (W.alloc o).cell? ⟨Bp, 0, none⟩ = some (.int .i64 (s0.1 : Int)) := fun o => by rw [World.cell?_alloc_past _ _ _ hbl]; exact p0
  have a1 : ∀ o, (W.alloc o).cell? ⟨Bp, 1, none⟩ = some (.int .i64 (s0.2.1 : Int)) := fun o => by rw [World.cell?_alloc_past _ _ _ hbl]; exact p1
  have a2 : ∀ o, (W.alloc o).cell? ⟨Bp, 2, none⟩ = some (.int .i64 (s0.2.2 : Int)) := fun o => by rw [World.cell?_alloc_past _ _ _ hbl]; exact p2
  have HE := hide (And.intro hM (And.intro hcl (And.intro hfl (And.intro hB (And.intro hsb (And.intro hbs (And.intro hT (And.intro hfp (And.intro hW (And.intro hJs (And.intro hJx (And.intro hfr (And.intro hY h0)))))))))))))
  clear hM hcl hfl hB hsb hbs hbp hT hfp hW hJs hJx hfr hY h0 hbpW
  refine callsIn_of_wp Tryz.func183 rfl trivial ?_ rfl
  simp only [Tryz.ntmps183, List.size_toArray, List.length_cons, List.length_nil, Nat.reduceAdd, Nat.reduceSub, Array.replicate_succ, Array.replicate_zero, List.push_toArray, List.append_toArray, List.nil_append, List.cons_append]
  gi_wp2_with fail
  have hN : wm.heap.size ≤ W.heap.size := by have := (unhide HE).2.2.2.1.size; have := (unhide HE).2.2.2.2.2.2.2.2.1.size; omega
  obtain ⟨w3, hw3⟩ : ∃ w3, ((W.alloc (.map #[] 0)).alloc (.cells #[.int .i64 (s0.1 : Int), .int .i64 (s0.2.1 : Int), .int .i64 (s0.2.2 : Int), .pointer none, .int .u8 0] 227)).alloc (.cells #[.pointer (some ⟨W.heap.size + 1, 0, none⟩)] 225) = w3 := ⟨_, rfl⟩
  have H0 : Hid (VB wm Br mb sb gate beh Bs W.heap.size F J [] 0 (.map []) w3 ∧ VW W.heap.size F gate beh s0 0 w3 (.slice (some ⟨W.heap.size + 2, 0, none⟩) 1 1) [W.heap.size + 1] [s0]) := by
    obtain ⟨hM, hcl, hfl, hB, hsb, hbs, hT, hfp, hW, hJs, hJx, hfr, hY, h0⟩ := unhide HE
    have hg3 : W.grownBy w3 none := by rw [← hw3]; exact ((World.grownBy_alloc W _ none).trans (World.grownBy_alloc _ _ none)).trans (World.grownBy_alloc _ _ none)
    have hg := hW.trans hg3
    have hv3 : w3.heap[W.heap.size + 1]? = some (vblk s0 none 0) := by rw [← hw3]; exact heap_alloc_old _ (alloc2_at W _ _)
    have hm3 : w3.heap[W.heap.size]? = (W.alloc (.map #[] 0)).heap[W.heap.size]? := by
      rw [← hw3, Below.heap_alloc _ _ _ (by simp; omega), Below.heap_alloc _ _ _ (by simp)]
    refine ⟨⟨(hJs [] W w3 h0 (Fz.of_grown hg3 (fun k e => by cases e))).1, (TM.start W F.length).kept hm3, List.nodup_nil, fun pr hpr => (by cases hpr), ?_⟩, ⟨?_, fun k hk => (by simp [Value.ownBlock] at hk; omega), rfl, ?_, fun pr hpr => (by rw [List.mem_singleton] at hpr; subst hpr; exact hr0)⟩⟩
    · exact (VE.mk hB hsb hbs hT).move hg.os hg.tape hg.output hg.size (fun k hk _ => hg.block k hk (by simp))
    · rw [← hw3]
      have := World.ownsRow_lit (base := 0) (e := 225) (size := 1) ((W.alloc (.map #[] 0)).alloc (.cells #[.int .i64 (s0.1 : Int), .int .i64 (s0.2.1 : Int), .int .i64 (s0.2.2 : Int), .pointer none, .int .u8 0] 227)) #[.pointer (some ⟨W.heap.size + 1, 0, none⟩)] 1 (Nat.zero_le _) (by unfold maxLen; omega) rfl
      simpa [ptrs] using this
    · intro i g pr hg1 hp1
      cases i with
      | succ i => simp at hg1
      | zero =>
        simp at hg1 hp1
        subst hg1 hp1
        exact ⟨[], VR.root (by omega) hv3, by simp⟩
  rw [hw3]
  clear hw3 a0 a1 a2 p0 p1 p2 hmm hbl
  gi_loopw [5] (fun v5 wr => VOut wm Br mb sb gate beh Bs W.heap.size F s0 J v5 wr) (fun v5 wr => 2 * (4 * (F.length * F.length) - mapN wr W.heap.size) + (if slLen v5 = 0 then 0 else 1))
  case atStart =>
    obtain ⟨h1, h2⟩ := unhide H0
    exact ⟨[], 0, _, _, _, h1, h2, ⟨.inr (by simp), fun pr hpr => (by cases hpr), fun pr hpr => (by cases hpr)⟩, ⟨Nat.zero_le _, Nat.zero_le _, by simp [TOT, prsOf]⟩⟩
  case round =>
    clear H0
    obtain ⟨pre, it, D, gs, prs, hVB, hVW, hVC, hVD⟩ := hrel
    obtain ⟨ao, cp, rfl⟩ := own_slice hVW.own
    rcases Nat.eq_zero_or_pos gs.length with hg0 | hg0
    · obtain rfl := List.eq_nil_of_length_eq_zero hg0
      have hp0 : prs = [] := List.eq_nil_of_length_eq_zero (by rw [← hVW.len]; rfl)
      subst hp0
      have HI := hide (And.intro hVB hVC)
      clear hVB hVW hVC hVD hg0
      gi_wp2_with fail
      go_end0
      exact ⟨⟨_, rfl⟩, .inl ⟨pre, fun u pr hw => (unhide HI).2.all hw, (unhide HI).1.j⟩⟩
    · have hpos : (0 : Int) < (gs.length : Int) := by omega
      have HI : Hid (VIn wm Br mb sb gate beh Bs W.heap.size F s0 J (prsOf pre).length (.slice ao gs.length cp) (.slice none 0 0) 0 wr) := hide ⟨pre, it, D, gs, [], prs, [], Nat.zero_le _, hVB, hVW, VW.nil _ _, fun k hk e => (by cases e), by rw [List.drop_zero]; exact hVC, hVD, Nat.le_refl _, fun h => absurd rfl h⟩
      have hcnt := hVB.tm.count
      have hpb := pre_bound hVB.nd hVB.rg
      have Hcnt := hide (And.intro hcnt (And.intro hpb (show slLen (Value.slice ao gs.length cp) ≠ 0 from fun e => absurd (show gs.length = 0 from e) (by omega))))
      clear hVB hVW hVC hVD hcnt hpb
      gi_wp2_with fail
      rename World => wo
      gi_loopw [5, 6, 7] (fun v5 v6 v7 wr => ∃ k : Nat, v7 = .int .i64 (k : Int) ∧ VIn wm Br mb sb gate beh Bs W.heap.size F s0 J (prsOf pre).length v5 v6 k wr) (fun v5 _ v7 wr => 2003 * (4 * (F.length * F.length) - mapN wr W.heap.size) + (slLen v5 - (Lib.intOf v7).toNat))
      case atStart => exact ⟨0, rfl, unhide HI⟩
      case round =>
        clear HI
        obtain ⟨k, rfl, qre, it, D, gs, hs, prs, qrs, hk, hVB, hVW, hVN, hap, hVC, hVD, hm1, hm2⟩ := hrel
        obtain ⟨ao, cp, rfl⟩ := own_slice hVW.own
        obtain ⟨an, cn, rfl⟩ := own_slice hVN.own
        have hcnt := hVB.tm.count
        have hpb := pre_bound hVB.nd hVB.rg
        by_cases hlt : k < gs.length
        · have hd : (k : Int) < (gs.length : Int) := by omega
          obtain ⟨vb, cap, hveq, _, hvl⟩ := hVW.own.form (by omega)
          injection hveq with hao _ hcp
          subst hao
          subst hcp
          obtain ⟨g, hg⟩ : ∃ g, gs[k]? = some g := ⟨_, List.getElem?_eq_getElem hlt⟩
          obtain ⟨⟨ph, a, b⟩, hp⟩ : ∃ pr, prs[k]? = some pr := ⟨_, List.getElem?_eq_getElem (by rw [← hVW.len]; exact hlt)⟩
          obtain ⟨u, hV, hu⟩ := hVW.vr k g _ hg hp
          have hrp := hVW.rng _ (List.mem_of_getElem? hp)
          obtain ⟨fr, c4, hbk⟩ := hV.blk
          have ck : wr.cell? ⟨vb, k, none⟩ = some (.pointer (some ⟨g, 0, none⟩)) := by
            rw [hVW.own.cellAt k (by omega)]
            simp [ptrs, hg]
          have e0 : wr.cell? ⟨g, 0, none⟩ = some (.int .i64 (ph : Int)) := by rw [cellOf hbk 0]; rfl
          have e1 : wr.cell? ⟨g, 1, none⟩ = some (.int .i64 (a : Int)) := by rw [cellOf hbk 1]; rfl
          have e2 : wr.cell? ⟨g, 2, none⟩ = some (.int .i64 (b : Int)) := by rw [cellOf hbk 2]; rfl
          have hit : it < 1000000000000 := by
            have h1 := hVD.bd
            have h2 : F.length * F.length ≤ 4000 * 4000 := Nat.mul_le_mul hS hS
            unfold TOT at h1
            omega
          have hgl : gs.length ≤ 1000000000000 := by
            have h1 := hVD.bd
            have h3 := hVD.ki
            have h2 : F.length * F.length ≤ 4000 * 4000 := Nat.mul_le_mul hS hS
            unfold TOT at h1
            omega
          have hkw : IntKind.i64.wrap ((k : Int) + 1) = (k : Int) + 1 := IntWalk.i64_in _ (by omega)
          obtain ⟨c, v0, st, w1, w2, E1, E2, E3, E4, hcle, hcp', hg2, D', hTM, E5⟩ := inc_run (w := wr.drew) (hVB.tm.kept rfl) (by omega) hrp hit
          have hwr : IntKind.i64.wrap ((c : Int) + 1) = (c : Int) + 1 := IntWalk.i64_in _ (by omega)
          simp only [pval, goInt] at E1 E2 E3 E4 E5
          have hgN : g ≠ W.heap.size := fun e => by
            obtain ⟨es9, ck9, h9, _⟩ := hVB.tm.own
            rw [e, h9] at hbk
            cases hbk
          have hbk2 : w2.heap[g]? = some (vblk (ph, a, b) fr c4) := (hg2.block g (heap_lt hbk) (fun e => hgN (by injection e))).trans hbk
          have f0 : w2.cell? ⟨g, 0, none⟩ = some (.int .i64 (ph : Int)) := by rw [cellOf hbk2 0]; rfl
          have f1 : w2.cell? ⟨g, 1, none⟩ = some (.int .i64 (a : Int)) := by rw [cellOf hbk2 1]; rfl
          have f2 : w2.cell? ⟨g, 2, none⟩ = some (.int .i64 (b : Int)) := by rw [cellOf hbk2 2]; rfl
          have Hb2 := hide (And.intro hbk2 hgN)
          clear hbk2 hgN
          have HI := hide (And.intro hVB (And.intro hVW (And.intro hVN (And.intro hap (And.intro hVC (And.intro hVD (And.intro hm1 (And.intro hm2 (And.intro hcnt (And.intro hpb (And.intro hg (And.intro hp (And.intro hV (And.intro hu (And.intro hrp (And.intro hbk (And.intro hTM (And.intro hg2 (And.intro hcle hcp')))))))))))))))))))
          clear hVB hVW hVN hap hVC hVD hm1 hm2 hcnt hpb hg hp hV hu hrp hbk hTM hg2 hcle hcp' hit
          gi_wp2_with fail
          gi_region_with fail
          all_goals
            by_cases hsn : (ph, a, b) ∈ prsOf qre
            · have hc1 : (1 : Int) < (c : Int) + 1 := by
                have := (unhide HI).2.2.2.2.2.2.2.2.2.2.2.2.2.2.2.2.2.2.2.2 hsn
                omega
              gi_wp2_with fail
              go_roundw
              case rel =>
                obtain ⟨hVB, hVW, hVN, hap, hVC, hVD, hm1, hm2, hcnt, hpb, hg, hp, hV, hu, hrp, hbk, hTM, hg2, hcle, hcp'⟩ := unhide HI
                obtain ⟨hM, hcl, hfl, hB, hsb, hbs, hT, hfp, hW, hJs, hJx, hfr, hY, h0⟩ := unhide HE
                exact ⟨k + 1, by simp, VIn.old hVB hVW hVN hap hVC hVD hm1 hm2 hlt hp hTM hsn ((grown_drew' wr (some W.heap.size)).trans hg2) (hJs qre wr w2 hVB.j (Fz.of_grown ((grown_drew' wr (some W.heap.size)).trans hg2) (fun k e => by cases e; exact ⟨Nat.le_refl _, fun h => by have := (hfp _ _ h).1; have := hW.size; omega⟩))).1 (fun k hk => by
                  intro e
                  subst e
                  rcases hk with ⟨hk, _⟩ | hk | hk | hk
                  · omega
                  · have := heap_lt hsb; have := hW.size; omega
                  · have := heap_lt hbs; have := hW.size; omega
                  · have := hT.lt; have := hW.size; omega)⟩
              case measure =>
                obtain ⟨hVB, hVW, hVN, hap, hVC, hVD, hm1, hm2, hcnt, hpb, hg, hp, hV, hu, hrp, hbk, hTM, hg2, hcle, hcp'⟩ := unhide HI
                rw [if_pos hsn] at hTM
                rw [hTM.count, hcnt]
                simp [slLen, Lib.intOf]
                omega
            · obtain ⟨hVB, hVW, hVN, hap, hVC, hVD, hm1, hm2, hcnt, hpb, hg, hp, hV, hu, hrp, hbk, hTM, hg2, hcle, hcp'⟩ := unhide HI
              obtain ⟨hM, hcl, hfl, hB, hsb, hbs, hT, hfp, hW, hJs, hJx, hfr, hY, h0⟩ := unhide HE
              have hc0 : c = 0 := by
                have : ¬ 1 ≤ c := fun h => hsn (hcp'.1 h)
                omega
              subst hc0
              rw [if_neg hsn] at hTM
              have hgr := (grown_drew' wr (some W.heap.size)).trans hg2
              have hz2 : Fz W.heap.size fp wr w2 := Fz.of_grown hgr (fun k e => by cases e; exact ⟨Nat.le_refl _, fun h => by have := (hfp _ _ h).1; have := hW.size; omega⟩)
              have hj2 := hJs qre wr w2 hVB.j hz2
              have hlo : ∀ k, (k = sb ∨ k = Bs ∨ k = 1) → k < W.heap.size := fun k hk => by
                rcases hk with hk | hk | hk
                · have := heap_lt hsb; have := hW.size; omega
                · have := heap_lt hbs; have := hW.size; omega
                · have := hT.lt; have := hW.size; omega
              have hS2 := VS.count (hVB.ve) hVB.tm hVW hVN hap hV hTM hgr (fun k hk e => by
                rcases hk with ⟨hk, _⟩ | hk
                · omega
                · have := hlo k hk; omega)
              have hpl : (prsOf qre).length ≤ 100000000 := by
                have h2 : F.length * F.length ≤ 4000 * 4000 := Nat.mul_le_mul hS hS
                omega
              obtain ⟨fn, tmps, assign, body, hy, hRd⟩ := hY qre (g, (ph, a, b)) w2 hj2.1 ⟨_, u, hS2.vr, by omega⟩
              dsimp only [encV] at hy
              have HS := hide (And.intro hS2 (And.intro hRd (And.intro hj2 hlo)))
              have h10 : ¬ ((1 : Int) < ((0 : Nat) : Int) + 1) := by simp
              clear hVB hVW hVN hap hVC hVD hm1 hm2 hcnt hpb hg hp hV hu hrp hbk hTM hg2 hcle hcp' hM hcl hfl hB hsb hbs hT hfp hW hJs hJx hfr hY h0 hgr hz2 hj2 hlo hS2 hRd
              gi_wp2_with fail
              refine ⟨depth_any, ?_⟩
              refine (unhide HS).2.1.mono ?_
              rintro e W3 (⟨rfl, hJ3, hk3⟩ | ⟨rfl, hx3⟩)
              · obtain ⟨hVB, hVW, hVN, hap, hVC, hVD, hm1, hm2, hcnt, hpb, hg, hp, hV, hu, hrp, hbk, hTM, hg2, hcle, hcp'⟩ := unhide HI
                obtain ⟨hM, hcl, hfl, hB, hsb, hbs, hT, hfp, hW, hJs, hJx, hfr, hY, h0⟩ := unhide HE
                obtain ⟨hS2, _, hj2, hlo⟩ := unhide HS
                have hS3 := hS2.round hk3 (fun k hf => by have := (hfp _ _ hf).1; have := hW.size; omega) (fun k hf hz => by
                  have h1 := hfp _ _ hf
                  rcases hz with ⟨hz1, hz2⟩ | hz | hz | hz
                  · rcases h1.2.1 with h | h
                    · omega
                    · exact hz2 h
                  · exact h1.2.2.1 hz
                  · exact h1.2.2.2.1 hz
                  · exact h1.2.2.2.2.2 hz)
                obtain ⟨fr3, c3, hb3⟩ := hS3.vr.blk
                have HF := hide (sfreely hM hfl hS3.ve.bel hS3.ve.sbk hb3 hrp.2.1 hrp.2.2 hS3.lv.own (by omega) (fun k hk => Nat.le_trans hN (hS3.lv.far k hk)))
                have x3 : W3.cell? ⟨Bs, 0, none⟩ = some (.pointer (some ⟨sb, 0, none⟩)) := by rw [cellOf hS3.ve.bxs 0]; rfl
                have H3 := hide (And.intro hS3 (And.intro hJ3 hk3))
                clear hVB hVW hVN hap hVC hVD hm1 hm2 hcnt hpb hg hp hV hu hrp hbk hTM hg2 hcle hcp' hM hcl hfl hB hsb hbs hT hfp hW hJs hJx hfr hY h0 hj2 hlo hS2 hS3 hJ3 hk3 hb3
                gi_wp2_with fail
                refine ⟨trivial, depth_any, (callsIn_wide.2 (unhide HF)).mono ?_⟩
                rintro e W4 ⟨tv4, ns4, rfl, hG4⟩
                obtain ⟨hVB, hVW, hVN, hap, hVC, hVD, hm1, hm2, hcnt, hpb, hg, hp, hV, hu, hrp, hbk, hTM, hg2, hcle, hcp'⟩ := unhide HI
                obtain ⟨hM, hcl, hfl, hB, hsb, hbs, hT, hfp, hW, hJs, hJx, hfr, hY, h0⟩ := unhide HE
                obtain ⟨hS3, hJ3, hk3⟩ := unhide H3
                have hS4 := hS3.free hN (unhide HS).2.2.2 hu hcl hbeh hrp hG4
                obtain ⟨fr4, c5, hb4⟩ := hS4.vr.blk
                have hhl : hs.length ≤ 1000000000000 := by
                  have h1 := hVD.bd
                  have h2 : F.length * F.length ≤ 4000 * 4000 := Nat.mul_le_mul hS hS
                  unfold TOT at h1
                  omega
                have HT := hide (stogether hM hS4.ve.bel hS4.ve.sbk hb4 hS4.ve.tab hrp.2.1 hrp.2.2 hS4.nx.own (by omega))
                have x4 : W4.cell? ⟨Bs, 0, none⟩ = some (.pointer (some ⟨sb, 0, none⟩)) := by rw [cellOf hS4.ve.bxs 0]; rfl
                obtain ⟨a4, p4, rfl⟩ := own_slice hG4.own
                have H4 := hide (And.intro hS4 hG4)
                clear hVB hVW hVN hap hVC hVD hm1 hm2 hcnt hpb hg hp hV hu hrp hbk hTM hg2 hcle hcp' hM hcl hfl hB hsb hbs hT hfp hW hJs hJx hfr hY h0 hS3 hJ3 hk3 hS4 hG4 hb4 HF x3
                gi_wp2_with fail
                refine ⟨trivial, depth_any, (callsIn_wide.2 (unhide HT)).mono ?_⟩
                rintro e W5 ⟨tv5, ns5, c6, rfl, hG5, hcc⟩
                obtain ⟨a5, p5, rfl⟩ := own_slice hG5.own
                have H5 := hide (And.intro hG5 hcc)
                clear hG5 hcc HT x4
                have HL := hide (And.intro (show gs.length + ns4.length = (gs ++ ns4).length by simp) (show hs.length + ns5.length = (hs ++ ns5).length by simp))
                gi_wp2_with fail
                go_roundw
                case rel =>
                  rw [(unhide HL).1, (unhide HL).2]
                  obtain ⟨hVB, hVW, hVN, hap, hVC, hVD, hm1, hm2, hcnt, hpb, hg, hp, hV, hu, hrp, hbk, hTM, hg2, hcle, hcp'⟩ := unhide HI
                  obtain ⟨hM, hcl, hfl, hB, hsb, hbs, hT, hfp, hW, hJs, hJx, hfr, hY, h0⟩ := unhide HE
                  obtain ⟨hS3, hJ3, hk3⟩ := unhide H3
                  obtain ⟨hS4, hG4⟩ := unhide H4
                  obtain ⟨hG5, hcc⟩ := unhide H5
                  have hS5 := hS4.tog hN (unhide HS).2.2.2 (by omega) hcl hrp hG5 hcc
                  have hfz : ∀ {A A' : World} {tv : Value} (_ : ∀ k, tv.ownBlock = some k → W.heap.size ≤ k) (_ : Kp (fun k => tv.ownBlock ≠ some k) A A'), Fz W.heap.size fp A A' := fun hf hk => ⟨hk.os, hk.tape, hk.output, hk.size, fun k hl hz => hk.block k hl (fun e => by
                    have h1 := hf k e
                    rcases hz with hz | hz
                    · omega
                    · have := (hfp _ _ hz).1; have := hW.size; omega)⟩
                  have hJ4 := (hJs _ _ _ hJ3 (hfz hS3.lv.far hG4.kp)).1
                  have hJ5 := (hJs _ _ _ hJ4 (hfz hS4.nx.far hG5.kp)).1
                  exact ⟨k + 1, by simp, hS5.done hJ5 hVB.nd hVB.rg hsn hrp hfl hVC hVD hVW.len hVN.len hm1 hlt hp⟩
                case measure =>
                  obtain ⟨hVB, hVW, hVN, hap, hVC, hVD, hm1, hm2, hcnt, hpb, hg, hp, hV, hu, hrp, hbk, hTM, hg2, hcle, hcp'⟩ := unhide HI
                  obtain ⟨hS4, hG4⟩ := unhide H4
                  obtain ⟨hG5, hcc⟩ := unhide H5
                  have hS5 := hS4.tog hN (unhide HS).2.2.2 (by omega) (unhide HE).2.1 hrp hG5 hcc
                  have h1 := frees_len (gate := gate) (beh := beh) (unhide HE).2.2.1 (ph, a, b)
                  have h2 := hG4.vis.1
                  have h3 : (prsOf qre ++ [(ph, a, b)]).length ≤ 4 * (F.length * F.length) := pre_bound (List.nodup_append.2 ⟨hVB.nd, by simp, fun x hx y hy e => hsn (by rw [List.mem_singleton] at hy; rw [← hy, ← e]; exact hx)⟩) (fun q hq => by
                    rcases List.mem_append.1 hq with hq | hq
                    · exact hVB.rg q hq
                    · rw [List.mem_singleton] at hq; subst hq; exact hrp)
                  rw [hS5.tm.count, hcnt]
                  simp [slLen, Lib.intOf] at h3 ⊢
                  omega
              · gi_wp2
                refine bodyPost_ret (results_none rfl _ _ _) rfl ?_
                exact ⟨⟨_, rfl⟩, .inr ⟨_, trivial, hx3⟩⟩
        · have hke : k = gs.length := by omega
          subst hke
          have HI := hide (And.intro hVB (And.intro hVN (And.intro hVC (And.intro hVD (And.intro hm1 (And.intro hm2 (And.intro hcnt hpb)))))))
          have hVl := hide hVW.len
          clear hVB hVW hVN hap hVC hVD hm1 hm2 hcnt hpb
          gi_wp2_with fail
          go_roundw
          case rel =>
            obtain ⟨hVB, hVN, hVC, hVD, hm1, hm2, hcnt, hpb⟩ := unhide HI
            rw [List.drop_of_length_le (by rw [← unhide hVl]; exact Nat.le_refl _)] at hVC
            exact ⟨qre, it, D, hs, qrs, hVB, hVN, hVC.turn, ⟨Nat.zero_le _, hVD.pl, by have := hVD.bd; omega⟩⟩
          case measure =>
            obtain ⟨hVB, hVN, hVC, hVD, hm1, hm2, hcnt, hpb⟩ := unhide HI
            obtain ⟨hc0, hp0, hs0⟩ := unhide Hcnt
            rw [hcnt, hc0, if_neg hs0]
            have e1 : slLen (Value.slice an hs.length cn) = hs.length := rfl
            split
            · omega
            · have := hm2 (fun e => by subst e; simp at e1; contradiction)
              omega

end Go.Proofs.YtlljggefbngkeaaGreatDoor
