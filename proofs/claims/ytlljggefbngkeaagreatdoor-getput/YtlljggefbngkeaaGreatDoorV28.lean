import Derived.Test.YtlljggefbngkeaaGreatDoorV14
import Derived.Test.YtlljggefbngkeaaGreatDoorV27
namespace Go.Proofs.YtlljggefbngkeaaGreatDoor
open Go.RowKit Go.Shelf Go.Maps
attribute [local go_sem] Oper.semAt_some

section
variable {F : List MSt} {gate beh : Nat} {s0 : P3}

theorem freeOf_mem {a x : Nat} {p : MSt} (hp : F[a]? = some p) (hx : x ∈ p.free) : x ∈ freeOf F a := by unfold freeOf; rw [hp]; exact hx

theorem closed_pw {X : List P3} (hf : ∀ pr, pr ∈ X → ∀ q, q ∈ frees F gate beh pr → q ∈ X) (hs : ∀ pr, pr ∈ X → ∀ q, q ∈ signs2 F pr → q ∈ X) {ph a b : Nat} {u : List UInt8} {qh c d : Nat} (h : PW F gate beh ph a b u qh c d) : (ph, a, b) ∈ X → (qh, c, d) ∈ X := by
  induction h with
  | refl ph a b => exact fun h => h
  | @free1 ph a b x p u qh c d h1 h2 h3 ih =>
    intro hm
    refine ih (hf _ hm _ ?_)
    unfold frees frees1
    simp only [List.mem_append, List.mem_map]
    exact .inl (.inl (.inl ⟨x, freeOf_mem h1 h2, rfl⟩))
  | @free2 ph a b x p u qh c d h1 h2 h3 ih =>
    intro hm
    refine ih (hf _ hm _ ?_)
    unfold frees frees2
    simp only [List.mem_append, List.mem_map]
    exact .inl (.inl (.inr ⟨x, freeOf_mem h1 h2, rfl⟩))
  | part h1 ih =>
    intro hm
    refine ih (hf _ hm _ ?_)
    unfold frees frees3
    simp
  | join h1 ih =>
    intro hm
    refine ih (hf _ hm _ ?_)
    unfold frees frees4
    simp
  | @sign ph a b p q s u qh c d h1 h2 h3 h4 h5 ih =>
    intro hm
    refine ih (hs _ hm _ ?_)
    unfold signs2
    simp only [h1, h2]
    rw [if_neg (fun e => by
      have : s ∈ p.set.filter q.set.contains := List.mem_filter.2 ⟨h3, List.contains_iff_mem.2 h4⟩
      rw [e] at this
      cases this)]
    simp

theorem closed_way {X : List P3} (h0 : s0 ∈ X) (hf : ∀ pr, pr ∈ X → ∀ q, q ∈ frees F gate beh pr → q ∈ X) (hs : ∀ pr, pr ∈ X → ∀ q, q ∈ signs2 F pr → q ∈ X) {u : List UInt8} {pr : P3} (h : Way F gate beh s0 u pr) : pr ∈ X := closed_pw hf hs h h0

theorem Cl.free_lt {N : Nat} (h : Cl F N) {x y : Nat} (hy : y ∈ freeOf F x) : y < N := by
  obtain ⟨p, hp, hy⟩ := mem_freeOf hy
  exact (h x p hp).2 y hy

theorem Rng.free {n : Nat} (hc : Cl F n) (hb : beh < n) {pr q : P3} (h : Rng n pr) (hq : q ∈ frees F gate beh pr) : Rng n q := by
  obtain ⟨ph, a, b⟩ := pr
  obtain ⟨h1, h2, h3⟩ := h
  simp only at h1 h2 h3
  unfold frees at hq
  simp only [List.mem_append] at hq
  rcases hq with ((hq | hq) | hq) | hq
  · obtain ⟨x, hx, rfl⟩ := List.mem_map.1 hq
    exact ⟨h1, hc.free_lt hx, h3⟩
  · obtain ⟨x, hx, rfl⟩ := List.mem_map.1 hq
    exact ⟨h1, h2, hc.free_lt hx⟩
  · unfold frees3 at hq
    split at hq
    · rw [List.mem_singleton] at hq
      subst hq
      exact ⟨by show 1 < 4; decide, hb, h3⟩
    · cases hq
  · unfold frees4 at hq
    split at hq
    · rw [List.mem_singleton] at hq
      subst hq
      exact ⟨by show 3 < 4; decide, h2, hb⟩
    · cases hq

theorem Rng.sign {n : Nat} (hc : Cl F n) {pr q : P3} (h : Rng n pr) (hq : q ∈ signs2 F pr) : Rng n q := by
  obtain ⟨ph, a, b⟩ := pr
  obtain ⟨h1, h2, h3⟩ := h
  unfold signs2 at hq
  split at hq
  · rename_i p r hp hr
    split at hq
    · cases hq
    · rw [List.mem_singleton] at hq
      subst hq
      refine ⟨?_, (hc _ _ hp).1, (hc _ _ hr).1⟩
      show nextPh ph < 4
      unfold nextPh
      simp only at h1
      split <;> omega
  · cases hq

theorem frees_len (hfl : ∀ x, freeLen F x ≤ 1000) (pr : P3) : (frees F gate beh pr).length ≤ 2002 := by
  have h1 : (freeOf F pr.2.1).length ≤ 1000 := by have := hfl pr.2.1; unfold freeLen at this; unfold freeOf; split at this <;> simp_all
  have h2 : (freeOf F pr.2.2).length ≤ 1000 := by have := hfl pr.2.2; unfold freeLen at this; unfold freeOf; split at this <;> simp_all
  have h3 : (frees3 gate beh pr).length ≤ 1 := by unfold frees3; split <;> simp
  have h4 : (frees4 gate beh pr).length ≤ 1 := by unfold frees4; split <;> simp
  unfold frees frees1 frees2
  simp only [List.length_append, List.length_map]
  omega
theorem signs2_len (pr : P3) : (signs2 F pr).length ≤ 1 := by
  unfold signs2
  split
  · split <;> simp
  · simp
end

def pcells (pr : P3) : Array Value := #[.int .i64 (pr.1 : Int), .int .i64 (pr.2.1 : Int), .int .i64 (pr.2.2 : Int)]

set_option maxRecDepth 100000 in
set_option maxHeartbeats 1600000 in
theorem svisits (n sb : Nat) (pr : P3) (w : World) : CallsIn Fence.wide n Tryz.prog 169 #[.pointer (some ⟨sb, 0, none⟩), pval pr] w fun e w' =>
    e = .returned (.func (.func 183) #[] #[.pointer (some ⟨w.heap.size + 1, 0, none⟩), .pointer (some ⟨w.heap.size, 0, none⟩)]) ∧ w' = (w.alloc (.cells #[.pointer (some ⟨sb, 0, none⟩)] 204)).alloc (.cells (pcells pr) 211) := by
  unfold pval
  refine callsIn_of_wp Tryz.func169 rfl trivial ?_ rfl
  simp only [Tryz.ntmps169, List.size_toArray, List.length_cons, List.length_nil, Nat.reduceAdd, Nat.reduceSub, Array.replicate_succ, Array.replicate_zero, List.push_toArray, List.append_toArray, List.nil_append, List.cons_append]
  gi_wp2
  go_ret
  exact ⟨rfl, rfl⟩

end Go.Proofs.YtlljggefbngkeaaGreatDoor

namespace Go.Proofs.YtlljggefbngkeaaGreatDoor
open Go.RowKit Go.Shelf Go.Maps

/-- the pairs that were given out -/
def prsOf (pre : List (Nat × P3)) : List P3 := pre.map Prod.snd
theorem prsOf_snoc (pre : List (Nat × P3)) (x : Nat × P3) : prsOf (pre ++ [x]) = prsOf pre ++ [x.2] := by simp [prsOf]

/-- a row of visits -/
structure VW (N : Nat) (F : List MSt) (gate beh : Nat) (s0 : P3) (m : Nat) (A : World) (v : Value) (gs : List Nat) (prs : List P3) : Prop where
  own : A.ownsRow 0 225 1 v gs.length (ptrs gs)
  far : ∀ k, v.ownBlock = some k → N ≤ k
  len : gs.length = prs.length
  vr : ∀ (i g : Nat) (pr : P3), gs[i]? = some g → prs[i]? = some pr → ∃ u, VR F gate beh s0 N A g pr u ∧ u.length ≤ m
  rng : ∀ pr, pr ∈ prs → Rng F.length pr

section
variable {N : Nat} {F : List MSt} {gate beh : Nat} {s0 : P3}

theorem VW.nil (m : Nat) (A : World) : VW N F gate beh s0 m A (.slice none 0 0) [] [] where
  own := World.ownsRow_nil _ _ _ _
  far := fun k hk => by cases hk
  len := rfl
  vr := fun i g pr hg => by simp at hg
  rng := fun pr hpr => by cases hpr

theorem VW.kept {m m' : Nat} {A A' : World} {v : Value} {gs : List Nat} {prs : List P3} (h : VW N F gate beh s0 m A v gs prs) (hm : m ≤ m') (hK : Kv N A A') (ho : ∀ k, v.ownBlock = some k → A'.heap[k]? = A.heap[k]?) : VW N F gate beh s0 m' A' v gs prs where
  own := own_same h.own ho
  far := h.far
  len := h.len
  vr := fun i g pr hg hp => by
    obtain ⟨u, h1, h2⟩ := h.vr i g pr hg hp
    exact ⟨u, h1.kv hK, Nat.le_trans h2 hm⟩
  rng := h.rng

/-- behind freely -/
theorem VW.freely {m m' : Nat} {A A' : World} {v v' : Value} {gs ns : List Nat} {prs : List P3} {g : Nat} {pr : P3} {u : List UInt8} (h : VW N F gate beh s0 m A v gs prs) (hN : N ≤ A.heap.size) (hm : m ≤ m') (hV : VR F gate beh s0 N A g pr u) (hu : u.length ≤ m') (hc : Cl F F.length) (hb : beh < F.length) (hr : Rng F.length pr)
    (hG : Grow A g 0 v gs ns (frees F gate beh pr) v' A') : VW N F gate beh s0 m' A' v' (gs ++ ns) (prs ++ frees F gate beh pr) where
  own := hG.own
  far := fun k hk => by
    rcases hG.at_ k hk with h1 | h1
    · exact h.far k h1
    · omega
  len := by simp [h.len, hG.vis.1]
  vr := fun i x q hx hq => by
    by_cases hi : i < gs.length
    · rw [List.getElem?_append_left hi] at hx
      rw [List.getElem?_append_left (by rw [← h.len]; exact hi)] at hq
      obtain ⟨u', h1, h2⟩ := h.vr i x q hx hq
      exact ⟨u', h1.kv (hG.kv h.own), Nat.le_trans h2 hm⟩
    · rw [List.getElem?_append_right (by omega)] at hx
      rw [List.getElem?_append_right (by rw [← h.len]; omega), ← h.len] at hq
      obtain ⟨q1, q2⟩ := hG.vis.2 _ x q hx hq
      obtain ⟨fr, c, hb0⟩ := hV.blk
      exact ⟨u, VR.free (by omega) (by have := heap_lt hb0; omega) (hV.kv (hG.kv h.own)) (List.mem_of_getElem? hq) q1, hu⟩
  rng := fun q hq => by
    rcases List.mem_append.1 hq with hq | hq
    · exact h.rng q hq
    · exact hr.free hc hb hq

/-- behind together -/
theorem VW.together {m m' c : Nat} {A A' : World} {v v' : Value} {gs ns : List Nat} {prs : List P3} {g : Nat} {pr : P3} {u : List UInt8} (h : VW N F gate beh s0 m A v gs prs) (hN : N ≤ A.heap.size) (hm : m ≤ m') (hV : VR F gate beh s0 N A g pr u) (hu : u.length < m') (hc : Cl F F.length) (hr : Rng F.length pr)
    (hG : Grow A g c v gs ns (signs2 F pr) v' A') (hcc : signs2 F pr ≠ [] → ∃ p q, F[pr.2.1]? = some p ∧ F[pr.2.2]? = some q ∧ (UInt8.ofNat c) ∈ p.set ∧ (UInt8.ofNat c) ∈ q.set ∧ c < 256 ∧ c ≠ 0) : VW N F gate beh s0 m' A' v' (gs ++ ns) (prs ++ signs2 F pr) where
  own := hG.own
  far := fun k hk => by
    rcases hG.at_ k hk with h1 | h1
    · exact h.far k h1
    · omega
  len := by simp [h.len, hG.vis.1]
  vr := fun i x q hx hq => by
    by_cases hi : i < gs.length
    · rw [List.getElem?_append_left hi] at hx
      rw [List.getElem?_append_left (by rw [← h.len]; exact hi)] at hq
      obtain ⟨u', h1, h2⟩ := h.vr i x q hx hq
      exact ⟨u', h1.kv (hG.kv h.own), Nat.le_trans h2 hm⟩
    · rw [List.getElem?_append_right (by omega)] at hx
      rw [List.getElem?_append_right (by rw [← h.len]; omega), ← h.len] at hq
      obtain ⟨q1, q2⟩ := hG.vis.2 _ x q hx hq
      obtain ⟨fr, c0, hb0⟩ := hV.blk
      have hmem := List.mem_of_getElem? hq
      obtain ⟨p, r, hp, hr', hc1, hc2, hc3, hc4⟩ := hcc (List.ne_nil_of_mem hmem)
      have hto : (UInt8.ofNat c).toNat = c := by rw [UInt8.toNat_ofNat']; omega
      have hst : SgnStep F (UInt8.ofNat c) pr q := by
        refine ⟨p, r, hp, hr', hc1, hc2, ?_⟩
        unfold signs2 at hmem
        simp only [hp, hr'] at hmem
        split at hmem
        · cases hmem
        · exact List.mem_singleton.1 hmem
      refine ⟨u ++ [UInt8.ofNat c], VR.sign (by omega) (by have := heap_lt hb0; omega) (hV.kv (hG.kv h.own)) hst (fun e => hc4 (by have := congrArg UInt8.toNat e; rw [hto] at this; exact this)) (by rw [hto]; exact q1), by simp; omega⟩
  rng := fun q hq => by
    rcases List.mem_append.1 hq with hq | hq
    · exact h.rng q hq
    · exact hr.sign hc hq
end

/-- what stands throughout -/
structure VE (wm : World) (Br mb sb gate beh Bs : Nat) (A : World) : Prop where
  bel : Kp (fun k => k ≠ Br) wm A
  sbk : A.heap[sb]? = some (seblk mb gate beh)
  bxs : A.heap[Bs]? = some (.cells #[.pointer (some ⟨sb, 0, none⟩)] 204 (0, 0))
  tab : Tab A

theorem Tab.lt {A : World} (h : Tab A) : 1 < A.heap.size := by
  have h0 := h 0 (by decide)
  unfold World.cell? at h0
  split at h0
  · rename_i o ho
    exact heap_lt ho
  all_goals cases h0

theorem VE.move {wm : World} {Br mb sb gate beh Bs : Nat} {A A' : World} (h : VE wm Br mb sb gate beh Bs A) (ho : A'.os = A.os) (ht : A'.tape = A.tape) (hu : A'.output = A.output) (hs : A.heap.size ≤ A'.heap.size)
    (key : ∀ k, k < A.heap.size → ((k < wm.heap.size ∧ k ≠ Br) ∨ k = sb ∨ k = Bs ∨ k = 1) → A'.heap[k]? = A.heap[k]?) : VE wm Br mb sb gate beh Bs A' where
  bel := ⟨ho.trans h.bel.os, ht.trans h.bel.tape, hu.trans h.bel.output, Nat.le_trans h.bel.size hs, fun k hk hne => (key k (Nat.lt_of_lt_of_le hk h.bel.size) (.inl ⟨hk, hne⟩)).trans (h.bel.block k hk hne)⟩
  sbk := (key sb (heap_lt h.sbk) (.inr (.inl rfl))).trans h.sbk
  bxs := (key Bs (heap_lt h.bxs) (.inr (.inr (.inl rfl)))).trans h.bxs
  tab := fun j hj => by rw [World.cell?_of_block (a := ⟨1, j, none⟩) (key _ h.tab.lt (.inr (.inr (.inr rfl))))]; exact h.tab j hj

theorem TM.kept {A A' : World} {B n : Nat} {pre : List P3} {it : Nat} {D : DataW Unit} (h : TM A B n pre it D) (hb : A'.heap[B]? = A.heap[B]?) : TM A' B n pre it D where
  own := by
    obtain ⟨es, clock, h1, h2⟩ := h.own
    exact ⟨es, clock, hb.trans h1, h2⟩
  val := h.val
  has_ := h.has_
  siz := h.siz

structure VB (wm : World) (Br mb sb gate beh Bs N : Nat) (F : List MSt) (J : List (Nat × P3) → World → Prop) (pre : List (Nat × P3)) (it : Nat) (D : DataW Unit) (A : World) : Prop where
  j : J pre A
  tm : TM A N F.length (prsOf pre) it D
  nd : (prsOf pre).Nodup
  rg : ∀ pr, pr ∈ prsOf pre → Rng F.length pr
  ve : VE wm Br mb sb gate beh Bs A

/-- the pairs that are known: given out, or waiting -/
structure VC (F : List MSt) (gate beh : Nat) (s0 : P3) (P rest qrs : List P3) : Prop where
  c0 : s0 ∈ P ∨ s0 ∈ rest
  cf : ∀ pr, pr ∈ P → ∀ q, q ∈ frees F gate beh pr → q ∈ P ∨ q ∈ rest
  cs : ∀ pr, pr ∈ P → ∀ q, q ∈ signs2 F pr → q ∈ P ∨ q ∈ rest ∨ q ∈ qrs

/-- a pair that was given out before -/
theorem VC.old {F : List MSt} {gate beh : Nat} {s0 : P3} {P rest qrs : List P3} {pr : P3} (h : VC F gate beh s0 P (pr :: rest) qrs) (hp : pr ∈ P) : VC F gate beh s0 P rest qrs where
  c0 := by
    rcases h.c0 with h1 | h1
    · exact .inl h1
    · rcases List.mem_cons.1 h1 with rfl | h1
      · exact .inl hp
      · exact .inr h1
  cf := fun x hx q hq => by
    rcases h.cf x hx q hq with h1 | h1
    · exact .inl h1
    · rcases List.mem_cons.1 h1 with rfl | h1
      · exact .inl hp
      · exact .inr h1
  cs := fun x hx q hq => by
    rcases h.cs x hx q hq with h1 | h1 | h1
    · exact .inl h1
    · rcases List.mem_cons.1 h1 with rfl | h1
      · exact .inl hp
      · exact .inr (.inl h1)
    · exact .inr (.inr h1)

/-- a new one -/
theorem VC.new {F : List MSt} {gate beh : Nat} {s0 : P3} {P rest qrs : List P3} {pr : P3} (h : VC F gate beh s0 P (pr :: rest) qrs) : VC F gate beh s0 (P ++ [pr]) (rest ++ frees F gate beh pr) (qrs ++ signs2 F pr) := by
  have t : ∀ q, q ∈ P ∨ q ∈ pr :: rest → q ∈ P ++ [pr] ∨ q ∈ rest ++ frees F gate beh pr := fun q hq => by
    rcases hq with hq | hq
    · exact .inl (List.mem_append_left _ hq)
    · rcases List.mem_cons.1 hq with rfl | hq
      · exact .inl (by simp)
      · exact .inr (List.mem_append_left _ hq)
  refine ⟨t _ h.c0, fun x hx q hq => ?_, fun x hx q hq => ?_⟩
  · rcases List.mem_append.1 hx with hx | hx
    · exact t q (h.cf x hx q hq)
    · rw [List.mem_singleton] at hx
      subst hx
      exact .inr (List.mem_append_right _ hq)
  · rcases List.mem_append.1 hx with hx | hx
    · rcases h.cs x hx q hq with h1 | h1 | h1
      · exact (t q (.inl h1)).imp id .inl
      · exact (t q (.inr h1)).imp id .inl
      · exact .inr (.inr (List.mem_append_left _ h1))
    · rw [List.mem_singleton] at hx
      subst hx
      exact .inr (.inr (List.mem_append_right _ hq))

theorem VC.turn {F : List MSt} {gate beh : Nat} {s0 : P3} {P qrs : List P3} (h : VC F gate beh s0 P [] qrs) : VC F gate beh s0 P qrs [] where
  c0 := h.c0.imp id (fun e => by cases e)
  cf := fun x hx q hq => .inl ((h.cf x hx q hq).resolve_right (by simp))
  cs := fun x hx q hq => by
    rcases h.cs x hx q hq with h1 | h1 | h1
    · exact .inl h1
    · cases h1
    · exact .inr (.inl h1)

theorem VC.all {F : List MSt} {gate beh : Nat} {s0 : P3} {P : List P3} (h : VC F gate beh s0 P [] []) {u : List UInt8} {pr : P3} (hw : Way F gate beh s0 u pr) : pr ∈ P :=
  closed_way (h.c0.resolve_right (by simp)) (fun x hx q hq => (h.cf x hx q hq).resolve_right (by simp)) (fun x hx q hq => (h.cs x hx q hq).resolve_right (by simp)) hw

/-- how much work is left at most -/
def TOT (n : Nat) : Nat := 2 + 2003 * (4 * (n * n))
structure VD (n it k len hlen plen : Nat) : Prop where
  ki : k ≤ it
  pl : plen ≤ 4 * (n * n)
  bd : it + (len - k) + hlen + 2003 * (4 * (n * n) - plen) ≤ TOT n

end Go.Proofs.YtlljggefbngkeaaGreatDoor
