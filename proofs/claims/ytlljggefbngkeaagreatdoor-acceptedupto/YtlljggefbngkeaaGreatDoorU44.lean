import Derived.Test.YtlljggefbngkeaaGreatDoorU43
import Derived.Test.YtlljggefbngkeaaGreatDoorU33
namespace Go.Proofs.YtlljggefbngkeaaGreatDoor
open Go.RowKit Go.Shelf
attribute [local go_sem] Oper.semAt_some

set_option maxRecDepth 100000 in
set_option maxHeartbeats 1600000 in
/-- joints(): the lens is boxed, the function value captures the box -/
theorem jjoints (n g : Nat) (w : World) : CallsIn Fence.wide n Tryz.prog 64 #[.pointer (some ⟨g, 0, none⟩)] w fun e w' =>
    e = .returned (.func (.func 89) #[] #[.pointer (some ⟨w.heap.size, 0, none⟩)]) ∧ w' = w.alloc (.cells #[.pointer (some ⟨g, 0, none⟩)] 54) := by
  refine callsIn_of_wp Tryz.func64 rfl trivial ?_ rfl
  simp only [Tryz.ntmps64, List.size_toArray, List.length_cons, List.length_nil, Nat.reduceAdd, Nat.reduceSub, Array.replicate_succ, Array.replicate_zero, List.push_toArray, List.append_toArray, List.nil_append, List.cons_append]
  gi_wp2
  go_ret
  exact ⟨rfl, rfl⟩

set_option maxRecDepth 100000 in
set_option maxHeartbeats 1600000 in
theorem joints_seq {G : LT → Prop} (hG : ∀ t u, G t → u ∈ parts t → G u) {s : ByteArray} {w0 w : World} {Y : Nat → Prop} {t : LT} {g Bl n : Nat} {fp : World → Nat → Prop} (hfp : ∀ A k, fp A k → w0.heap.size ≤ k) (hR : LR s w0 Y t g) (hfl : G t) (hB : Below w0.heap.size w0 w) (hc : w.heap[Bl]? = some (.cells #[.pointer (some ⟨g, 0, none⟩)] 54 (0, 0))) :
    SeqF Fence.wide n Tryz.prog 89 #[.pointer (some ⟨Bl, 0, none⟩)] encJ fp false (fun _ x => LR s w0 Y x.2.1 x.1 ∧ G x.2.1 ∧ nbOf x.2.1 x.2.2) (fun xs => xs.map Prod.snd = joints_ t) (fun pre => ∃ r, pre.map Prod.snd ++ r = joints_ t) w := by
  intro l J Jx W hW hJs hJx _ hY h0
  have hBW : Below w0.heap.size w0 W := ⟨hW.os.trans hB.os, hW.tape.trans hB.tape, hW.output.trans hB.output, Nat.le_trans hB.size hW.size, fun k hk => (hW.block k (Nat.lt_of_lt_of_le hk hB.size) (by simp)).trans (hB.block k hk)⟩
  have hcW := (hW.block Bl (heap_lt hc) (by simp)).trans hc
  have c0 := cellOf hcW 0
  simp at c0
  have HW := hide (jwalk hG (s := s) (w0 := w0) (Y := Y) (l := l) (J := fun pre A => J pre A ∧ w0.heap.size ≤ A.heap.size) (Jx := Jx) (fun m pre x A hj hx => YieldAt.anyD m (YieldAt.mono (hY pre x A hj.1 hx) (fun e A' h => h.imp (fun ⟨h1, h2, h3⟩ => ⟨h1, ⟨h2, Nat.le_trans hj.2 h3.size⟩, Below.of_kf h3 hj.2 (hfp A)⟩) id))) t (n - 1) g [] W hR hfl hBW ⟨h0, hBW.size⟩)
  clear hJs hJx hY h0 hW hR hB hc hcW
  refine callsIn_of_wp Tryz.func89 rfl trivial ?_ rfl
  simp only [Tryz.ntmps89, List.size_toArray, List.length_cons, List.length_nil, Nat.reduceAdd, Nat.reduceSub, Array.replicate_succ, Array.replicate_zero, List.push_toArray, List.append_toArray, List.nil_append, List.cons_append]
  gi_wp2_with fail
  refine ⟨trivial, depth_any, ?_⟩
  refine (unhide HW).mono ?_
  rintro e W1 (⟨xs, rfl, hx, hJ, _⟩ | ⟨q, r, rfl, hq, hx⟩)
  · gi_wp2
    go_end0
    exact ⟨⟨_, rfl⟩, .inl ⟨xs, hx, by simpa using hJ.1⟩⟩
  · gi_wp2
    go_end0
    exact ⟨⟨_, rfl⟩, .inr ⟨q, ⟨r, hq⟩, by simpa using hx⟩⟩

end Go.Proofs.YtlljggefbngkeaaGreatDoor

namespace Go.Proofs.YtlljggefbngkeaaGreatDoor
open Go.RowKit

/-! As P1's law: what a round is given is laid into memory of its own first. -/
variable {F : Fence} {n : Nat} {P : Program}

theorem wpIn_rangeG {α : Type} {g : Operand} {ps : Array Tmp} {assign body : Code} {Q : Exit → Act → World → Prop} {a : Act} {w : World}
    (hro : F.round = none) (h1 : 1 ≤ n) {gf : Nat} {lb : Array Value} (hg : a.eval g = .func (.func gf) #[] lb) (hFg : F.fn gf) (eg : ∀ args w, (callFunc gf args).run P w = .ok (.enter gf args) w)
    {encs : α → Array Value} {fp : World → Nat → Prop} {fresh : Bool} {Ok : List α → α → Prop} {S Sp : List α → Prop} (hseq : SeqF F (n - 1) P gf lb encs fp fresh Ok S Sp w) (hps : ∀ x, (encs x).size = ps.size)
    (I Ix : List α → World → Prop) (hI : ∀ pre A A', I pre A → Fz w.heap.size fp A A' → I pre A' ∧ ∀ k, fp A' k ↔ fp A k) (hIx : ∀ pre A A', Ix pre A → (∀ k, k < A.heap.size → (k < w.heap.size ∨ w.heap.size + 2 ≤ k) → A'.heap[k]? = A.heap[k]?) → A'.heap.size = A.heap.size → A'.os = A.os → A'.tape = A.tape → A'.output = A.output → Ix pre A')
    (hIy : ∀ pre A A', Ix pre A → Fz w.heap.size fp A A' → Ix pre A')
    (hfl : ∀ pre A k, I pre A → fp A k → k < w.heap.size ∨ w.heap.size + 2 ≤ k) (hf0 : fresh = true → ∀ pre A, I pre A → ∀ k, fp A k → k < A.heap.size)
    (h0 : I [] w) (a₁ : α → Nat → Act) (At : α → Nat → World → Prop) (hAt : ∀ x b A A', At x b A → (∀ (k : Nat) (c : Array Value) (t : TypeId) (f : Nat × Nat), A.heap[k]? = some (.cells c t f) → A'.heap[k]? = some (.cells c t f)) → At x b A')
    (hassign : ∀ (l : Nat) (x : α) (W : World) (K : Act → World → Prop), (∀ W', W.grownBy W' none → At x W.heap.size W' → K (a₁ x W.heap.size) W') →
      assign.wpIn (F.inRound l) (n - 1 - 1) P (Exit.then K (fun _ _ _ => False)) { tmps := (ps.zip (encs x)).foldl (fun t (p, v) => t.setIfInBounds p v) a.tmps, defers := [] } W)
    (hbody : ∀ (l : Nat) (pre : List α) (x : α) (b : Nat) (W : World), I pre W → Ok pre x → w.heap.size + 2 ≤ b → At x b W → body.wpIn (F.inRound l) (n - 1 - 1) P (ownPostF fp I Ix (pre ++ [x]) W) (a₁ x b) W)
    (hdone : ∀ (D : Nat) (xs : List α) (W : World), D = w.heap.size → S xs → I xs W → W.heap[D]? = some (.deferred (some [])) → Q .normal { a with defers := { target := .collected D, args := #[] } :: a.defers } W)
    (hstop : ∀ (D : Nat) (pre : List α) (W : World), D = w.heap.size → Sp pre → Ix pre W → W.heap[D]? = some (.deferred (some [])) → Code.ret.wpIn F n P Q { a with defers := { target := .collected D, args := #[] } :: a.defers } W) :
    (Code.rangeFunc g ps assign body).wpIn F n P Q a w := by
  refine wpIn_rangeFunc ?_
  intro fn hfn
  rw [hro]
  obtain ⟨rec, hrec⟩ : ∃ rec : LoopState → Option Code → Loop, rec = fun st pe => { state := st, pending := pe, fn, tmps := a.tmps, params := ps, assign, body, defers := w.heap.size } := ⟨_, rfl⟩
  obtain ⟨W1, hW1⟩ : ∃ W1, (w.alloc (.deferred (some []))).alloc (.loop (rec .ready none)) = W1 := ⟨_, rfl⟩
  have hL1 : W1.heap[w.heap.size + 1]? = some (.loop (rec .ready none)) := by
    rw [← hW1]; have := World.alloc_heap_new (w.alloc (.deferred (some []))) (.loop (rec .ready none)); rwa [World.size_alloc] at this
  have hK1 : W1.heap[w.heap.size]? = some (.deferred (some [])) := by
    rw [← hW1]; exact (Below.heap_alloc _ _ _ (by simp)).trans (World.alloc_heap_new w _)
  have hs1 : W1.heap.size = w.heap.size + 2 := by rw [← hW1]; simp
  have hg1 : w.grownBy W1 none := by rw [← hW1]; exact (World.grownBy_alloc w _ none).trans (World.grownBy_alloc _ _ _)
  have hz1 : Fz w.heap.size fp w W1 := Fz.of_grown hg1 (fun k e => by cases e)
  have hI1 := hI [] w W1 h0 hz1
  refine ⟨w.heap.size + 1, [{ target := .collected w.heap.size, args := #[] }], W1, { target := .fn (.func gf) lb, args := #[.func (.yield (w.heap.size + 1)) #[] #[]] }, W1, gf,
    #[.func (.yield (w.heap.size + 1)) #[] #[]] ++ lb, W1, ?_, ?_, ?_, ?_, fun _ => h1, ?_⟩
  · rw [← hW1, hrec]; exact run_enterLoop_outer _ _ _ _ _
  · simp only [resolve, hg]
    simp [go_sem]
  · intro f' hf'; simp [Target.leads] at hf'; subst hf'; exact hFg
  · simp [invoke, go_sem, eg]
  · refine (hseq (w.heap.size + 1)
      (fun pre W => I pre W ∧ W.heap[w.heap.size + 1]? = some (.loop (rec .ready none)) ∧ W.heap[w.heap.size]? = some (.deferred (some [])))
      (fun pre W => Ix pre W ∧ W.heap[w.heap.size + 1]? = some (.loop (rec .done (some .ret))) ∧ W.heap[w.heap.size]? = some (.deferred (some [])))
      W1 hg1
      (fun pre A A' hs hz => ?_) (fun pre A A' hs hz => ?_) (fun hfr pre A hs k hk => hf0 hfr pre A hs.1 k hk) ?_ ⟨hI1.1, hL1, hK1⟩).mono ?_
    · obtain ⟨q1, q2⟩ := hI pre A A' hs.1 (hz.mono (by omega))
      exact ⟨⟨q1, (hz.block _ (Array.getElem?_eq_some_iff.1 hs.2.1).1 (.inl (by omega))).trans hs.2.1, (hz.block _ (Array.getElem?_eq_some_iff.1 hs.2.2).1 (.inl (by omega))).trans hs.2.2⟩, q2⟩
    · exact ⟨hIy pre A A' hs.1 (hz.mono (by omega)), (hz.block _ (Array.getElem?_eq_some_iff.1 hs.2.1).1 (.inl (by omega))).trans hs.2.1, (hz.block _ (Array.getElem?_eq_some_iff.1 hs.2.2).1 (.inl (by omega))).trans hs.2.2⟩
    · -- one round
      rintro pre x W0 ⟨hi0, hl0, hk0⟩ hok
      have hy := run_yield (P := P) (args := encs x) hl0 (by rw [hrec]; exact hps x)
      rw [hrec] at hy
      refine ⟨fn, _, assign, body, hy, roundIn_of_wpIn hfn (hassign _ x W0 _ (fun W hgW hA => ?_))⟩
      obtain ⟨hi, hfW⟩ := hI pre _ _ hi0 (Fz.of_grown hgW (fun k e => by cases e))
      have hl := (hgW.block _ (Array.getElem?_eq_some_iff.1 hl0).1 (by simp)).trans hl0
      have hk := (hgW.block _ (Array.getElem?_eq_some_iff.1 hk0).1 (by simp)).trans hk0
      have hlt0 : w.heap.size + 1 < W0.heap.size := (Array.getElem?_eq_some_iff.1 hl0).1
      have hlt : w.heap.size + 1 < W.heap.size := (Array.getElem?_eq_some_iff.1 hl).1
      have hnl : ¬ fp W (w.heap.size + 1) := fun h => by have := hfl pre W _ hi h; omega
      have hnk : ¬ fp W w.heap.size := fun h => by have := hfl pre W _ hi h; omega
      refine ⟨_, run_beginRound hl (by rw [hrec]), ?_⟩
      have hl2 : (W.putObj (w.heap.size + 1) (.loop { rec .ready none with state := .busy })).heap[w.heap.size + 1]? = some (.loop { rec .ready none with state := .busy }) := World.putObj_heap_same hlt
      have hk2 : (W.putObj (w.heap.size + 1) (.loop { rec .ready none with state := .busy })).heap[w.heap.size]? = some (.deferred (some [])) := (World.putObj_heap_other (by omega)).trans hk
      have hg2 := grownBy_putObj' W (w.heap.size + 1) (.loop { rec .ready none with state := .busy })
      obtain ⟨hi2, hf2⟩ := hI pre _ _ hi (Fz.of_grown hg2 (fun k e => by cases e; exact ⟨by omega, hnl⟩))
      have hsz2 : (W.putObj (w.heap.size + 1) (.loop { rec .ready none with state := .busy })).heap.size = W.heap.size := by simp [World.putObj]
      have hA2 := hAt x _ _ (W.putObj (w.heap.size + 1) (.loop { rec .ready none with state := .busy })) hA (fun k c t f hc => by
        have hkne : k ≠ w.heap.size + 1 := fun e => by rw [e, hl] at hc; cases hc
        exact (World.putObj_heap_other hkne).trans hc)
      generalize W.putObj (w.heap.size + 1) (.loop { rec .ready none with state := .busy }) = W2 at *
      refine wpIn_mono (hbody _ pre x _ _ hi2 hok (by omega) hA2) ?_
      have fin : ∀ (jump : Option Code) (W3 : World), Kf fp W2 W3 →
          (Instr.endRound (w.heap.size + 1) jump).run P W3 = .ok (.bool jump.isNone) (W3.putObj (w.heap.size + 1) (.loop (rec (if jump.isNone then .ready else .done) jump))) ∧
          W3.heap[w.heap.size + 1]? = some (.loop { rec .ready none with state := .busy }) ∧
          (W3.putObj (w.heap.size + 1) (.loop (rec (if jump.isNone then .ready else .done) jump))).heap[w.heap.size + 1]? = some (.loop (rec (if jump.isNone then .ready else .done) jump)) ∧
          (W3.putObj (w.heap.size + 1) (.loop (rec (if jump.isNone then .ready else .done) jump))).heap[w.heap.size]? = some (.deferred (some [])) := fun jump W3 hk3 => by
        have hl3 := (hk3.block _ (by omega) (fun h => hnl ((hf2 _).1 h))).trans hl2
        have hd3 := (hk3.block _ (by omega) (fun h => hnk ((hf2 _).1 h))).trans hk2
        have := run_endRound (P := P) jump hl3
        rw [hrec] at this ⊢
        exact ⟨this, by rw [hrec] at hl3; exact hl3, World.putObj_heap_same (Array.getElem?_eq_some_iff.1 hl3).1, (World.putObj_heap_other (by omega)).trans hd3⟩
      rintro e a3 W3 hp
      cases e with
      | normal =>
        obtain ⟨hk3, hi3⟩ := hp
        obtain ⟨hr, hl3, hl4, hk4⟩ := fin none W3 hk3
        have hn3 : ¬ fp W3 (w.heap.size + 1) := fun h => by have := hfl _ W3 _ hi3 h; omega
        have hg4 := grownBy_putObj' W3 (w.heap.size + 1) (.loop (rec .ready none))
        obtain ⟨hi4, hf4⟩ := hI _ _ _ hi3 (Fz.of_grown hg4 (fun k e => by cases e; exact ⟨by omega, hn3⟩))
        refine ⟨_, _, hr, .inl ⟨rfl, ⟨hi4, hl4, hk4⟩, ?_⟩⟩
        refine ⟨(hg4.os.trans (hk3.os.trans hg2.os)).trans hgW.os, (hg4.tape.trans (hk3.tape.trans hg2.tape)).trans hgW.tape, (hg4.output.trans (hk3.output.trans hg2.output)).trans hgW.output, Nat.le_trans hgW.size (Nat.le_trans hg2.size (Nat.le_trans hk3.size hg4.size)), fun k hk' hnf => ?_, fun k hf => ?_⟩
        · by_cases e : k = w.heap.size + 1
          · subst e
            exact hl4.trans hl0.symm
          · have hsW := hgW.size
            exact ((hg4.block k (by have := hk3.size; omega) (by simpa using e)).trans ((hk3.block k (by omega) (fun h => hnf ((hfW k).1 ((hf2 k).1 h)))).trans (hg2.block k (by omega) (by simpa using e)))).trans (hgW.block k hk' (by simp))
        · rcases hk3.new k ((hf4 k).1 hf) with h | h
          · exact .inl ((hfW k).1 ((hf2 k).1 h))
          · exact .inr (by have := hgW.size; omega)
      | ret =>
        obtain ⟨hk3, hi3⟩ := hp
        obtain ⟨hr, hl3, hl4, hk4⟩ := fin (some .ret) W3 hk3
        refine ⟨_, _, hr, .inr ⟨rfl, hIx _ W3 _ hi3 (fun k _ hz => World.putObj_heap_other (by omega)) (by simp [World.putObj]) rfl rfl rfl, hl4, hk4⟩⟩
      | exit id => exact hp.elim
      | goto t => exact hp.elim
      | panic ch => exact hp.elim
      | outgrown => exact hp.elim
    · -- behind the iterator
      rintro e W2 ⟨⟨v, rfl⟩, (⟨xs, hS, hi, hl, hk⟩ | ⟨pre, hSp, hi, hl, hk⟩)⟩
      · have hn2 : ¬ fp W2 (w.heap.size + 1) := fun h => by have := hfl _ W2 _ hi h; omega
        exact ⟨none, _, by have := run_endLoop (P := P) hl (by rw [hrec]; simp); rw [hrec] at this; exact this, hdone _ xs _ rfl hS (hI _ _ _ hi (Fz.of_grown (grownBy_putObj' W2 (w.heap.size + 1) _) (fun k e => by cases e; exact ⟨by omega, hn2⟩))).1 ((World.putObj_heap_other (by omega)).trans hk)⟩
      · exact ⟨some .ret, _, by have := run_endLoop (P := P) hl (by rw [hrec]; simp); rw [hrec] at this; exact this, hstop _ pre _ rfl hSp (hIx _ W2 _ hi (fun k _ hz => World.putObj_heap_other (by omega)) (by simp [World.putObj]) rfl rfl rfl) ((World.putObj_heap_other (by omega)).trans hk)⟩


end Go.Proofs.YtlljggefbngkeaaGreatDoor

namespace Go.Proofs.YtlljggefbngkeaaGreatDoor
open Go.RowKit Go.Shelf
attribute [local go_sem] Oper.semAt_some

/-- what FirstWrong asks of a lens -/
def FG (t : LT) : Prop := VOk t ∧ ∀ u, u ∈ subs t → ∀ n, nbOf u n → JOk u n ∧ n < (placesOf u).length
theorem FG.part (t u : LT) (h : FG t) (hu : u ∈ parts t) : FG u := ⟨h.1.part hu, fun x hx => h.2 x (by rw [subs_eq]; exact List.mem_cons_of_mem _ (subsL_mem _ u x hu hx))⟩

def FwPost (w : World) (t : LT) (e : Ending) (w' : World) : Prop :=
  ((∃ t' n p u, (t', n) ∈ joints_ t ∧ (placesOf t')[n]? = some p ∧ JWit t' n u ∧ u.length ≤ 100000000 ∧ e = .returned (.tuple #[.int .i64 (p : Int), .string (txt u), .bool true])) ∨
   (e = .returned (.tuple #[.int .i64 0, .string ⟨#[]⟩, .bool false]) ∧ ∀ x, x ∈ joints_ t → ∀ u, ¬ JWit x.1 x.2 u)) ∧ w.grownBy w' none

def FwI (W : World) (pre : List (Nat × LT × Nat)) (A : World) : Prop := (∀ x, x ∈ pre → ∀ u, ¬ JWit x.2.1 x.2.2 u) ∧ A.heap[W.heap.size]? = some (.cells #[.int .i64 0] 3 (0, 0)) ∧ A.heap[W.heap.size + 1]? = some (.cells #[.string ⟨#[]⟩] 9 (0, 0)) ∧ A.heap[W.heap.size + 2]? = some (.cells #[.bool false] 4 (0, 0)) ∧ Below W.heap.size W A
def FwX (W : World) (pre : List (Nat × LT × Nat)) (A : World) : Prop := ∃ g t' n p u, (g, t', n) ∈ pre ∧ (placesOf t')[n]? = some p ∧ JWit t' n u ∧ u.length ≤ 100000000 ∧ A.heap[W.heap.size]? = some (.cells #[.int .i64 (p : Int)] 3 (0, 0)) ∧ A.heap[W.heap.size + 1]? = some (.cells #[.string (txt u)] 9 (0, 0)) ∧ A.heap[W.heap.size + 2]? = some (.cells #[.bool true] 4 (0, 0)) ∧ Below W.heap.size W A
def fpFw (W : World) (_ : World) (k : Nat) : Prop := k = W.heap.size ∨ k = W.heap.size + 1 ∨ k = W.heap.size + 2

theorem Tab.below {w A : World} (h : Tab w) (hB : Below w.heap.size w A) : Tab A := fun j hj => by
  have hh : A.heap[1]? = w.heap[1]? := hB.block _ h.lt
  rw [World.cell?_of_block (a := ⟨1, j, none⟩) hh]
  exact h j hj

/-- a joint in memory -/
def JAt (x : Nat × LT × Nat) (b : Nat) (A : World) : Prop := A.heap[b]? = some (.cells #[.pointer (some ⟨x.1, 0, none⟩), .int .i64 (x.2.2 : Int)] 109 (0, 0))

theorem below_fz {w A A' : World} {N : Nat} {fp : World → Nat → Prop} (h : Below w.heap.size w A) (hN : w.heap.size ≤ N) (hz : Fz N fp A A') : Below w.heap.size w A' :=
  ⟨hz.os.trans h.os, hz.tape.trans h.tape, hz.output.trans h.output, Nat.le_trans h.size hz.size, fun k hk => (hz.block k (Nat.lt_of_lt_of_le hk h.size) (.inl (by omega))).trans (h.block k hk)⟩

/-- three boxes, one behind the other, are written -/
theorem three_set {A : World} {N : Nat} {x1 x2 x3 : Value} {t1 t2 t3 : TypeId} (h1 : A.heap[N]? = some (.cells #[x1] t1 (0, 0))) (h2 : A.heap[N + 1]? = some (.cells #[x2] t2 (0, 0))) (h3 : A.heap[N + 2]? = some (.cells #[x3] t3 (0, 0))) (v1 v2 v3 : Value) :
    ∃ A3, ((A.setCell ⟨N, 0, none⟩ v1).setCell ⟨N + 1, 0, none⟩ v2).setCell ⟨N + 2, 0, none⟩ v3 = A3 ∧ A3.heap.size = A.heap.size ∧ A3.os = A.os ∧ A3.tape = A.tape ∧ A3.output = A.output ∧
      A3.heap[N]? = some (.cells #[v1] t1 (0, 0)) ∧ A3.heap[N + 1]? = some (.cells #[v2] t2 (0, 0)) ∧ A3.heap[N + 2]? = some (.cells #[v3] t3 (0, 0)) ∧ ∀ k, k ≠ N → k ≠ N + 1 → k ≠ N + 2 → A3.heap[k]? = A.heap[k]? := by
  refine ⟨_, rfl, by simp [World.setCell], rfl, rfl, rfl, ?_, ?_, ?_, fun k q1 q2 q3 => ?_⟩
  · have g := heap_set h1 0 v1
    exact (Below.heap_setCell _ _ _ _ (by simp)).trans ((Below.heap_setCell _ _ _ _ (by simp)).trans (by simpa using g))
  · have g := heap_set ((Below.heap_setCell A ⟨N, 0, none⟩ v1 (N + 1) (by simp)).trans h2) 0 v2
    exact (Below.heap_setCell _ _ _ _ (by simp)).trans (by simpa using g)
  · have g := heap_set ((Below.heap_setCell (A.setCell ⟨N, 0, none⟩ v1) ⟨N + 1, 0, none⟩ v2 (N + 2) (by simp)).trans ((Below.heap_setCell A ⟨N, 0, none⟩ v1 (N + 2) (by simp)).trans h3)) 0 v3
    simpa using g
  · exact (Below.heap_setCell _ _ _ _ q3).trans ((Below.heap_setCell _ _ _ _ q2).trans (Below.heap_setCell _ _ _ _ q1))

set_option maxRecDepth 100000 in
set_option maxHeartbeats 6400000 in
theorem firstWrong {s : ByteArray} {t : LT} {W : World} {Y : Nat → Prop} {g : Nat} (hR : LR s W Y t g) (hG : FG t) (hYl : ∀ k, Y k → k < W.heap.size) (hT : Tab W) :
    Calls Tryz.prog 46 #[.pointer (some ⟨g, 0, none⟩)] W fun e w' => FwPost W t e w' := by
  refine (callsIn_wide (n := 3)).1 ?_
  refine callsIn_of_wp_marks Tryz.func46 rfl trivial ?_ rfl
  simp only [Tryz.ntmps46, List.size_toArray, List.length_cons, List.length_nil, Nat.reduceAdd, Nat.reduceSub, Array.replicate_succ, Array.replicate_zero, List.push_toArray, List.append_toArray, List.nil_append, List.cons_append]
  gi_wp2_with fail
  refine ⟨trivial, (jjoints 2 g _).mono ?_⟩
  rintro e w' ⟨rfl, rfl⟩
  gi_wp2_with fail
  obtain ⟨w5, hw5, hs5, h51, h52, h53, h54, hg5⟩ := four_at W (.cells #[.int .i64 0] 3) (.cells #[.string ⟨#[]⟩] 9) (.cells #[.bool false] 4) (.cells #[.pointer (some ⟨g, 0, none⟩)] 54)
  rw [hw5]
  simp only [Nat.add_assoc, Nat.reduceAdd]
  have hB5 : Below W.heap.size W w5 := ⟨hg5.os, hg5.tape, hg5.output, hg5.size, fun k hk => hg5.block k hk (by simp)⟩
  clear hw5
  refine wpIn_rangeG (α := Nat × LT × Nat) rfl (by decide) (gf := 89) (lb := #[.pointer (some ⟨W.heap.size + 3, 0, none⟩)]) rfl trivial (enters_of Tryz.func89 (by kernel_rfl) rfl)
    (joints_seq (G := FG) FG.part (fp := fpFw W) (fun A k h => by rcases h with h | h | h <;> omega) hR hG hB5 h54) (fun _ => rfl)
    (FwI W) (FwX W)
    (fun pre A A' h hz => ⟨⟨h.1, (hz.block _ (heap_lt h.2.1) (.inr (.inl rfl))).trans h.2.1, (hz.block _ (heap_lt h.2.2.1) (.inr (.inr (.inl rfl)))).trans h.2.2.1, (hz.block _ (heap_lt h.2.2.2.1) (.inr (.inr (.inr rfl)))).trans h.2.2.2.1, below_fz h.2.2.2.2 (by omega) hz⟩, fun _ => Iff.rfl⟩)
    (fun pre A A' h hb hs ho ht hu => ?sx)
    (fun pre A A' h hz => ?sy)
    (fun pre A k h hk => .inl (by rcases hk with hk | hk | hk <;> omega)) (fun h => by cases h)
    ⟨fun x hx => (by cases hx), h51, h52, h53, hB5⟩
    (fun x b => { tmps := #[.pointer (some ⟨g, 0, none⟩), undef, .pointer (some ⟨W.heap.size, 0, none⟩), .pointer (some ⟨W.heap.size + 1, 0, none⟩), .pointer (some ⟨W.heap.size + 2, 0, none⟩), .pointer (some ⟨b, 0, none⟩), undef, undef, .pointer (some ⟨g, 0, none⟩), .func (.func 89) #[] #[.pointer (some ⟨W.heap.size + 3, 0, none⟩)], .agg #[.pointer (some ⟨x.1, 0, none⟩), .int .i64 (x.2.2 : Int)], undef, undef, undef, undef, undef, undef, undef, undef, undef], defers := [] }) JAt (fun x b A A' h hc => hc _ _ _ _ h) ?assign ?body ?done ?stop
  case sx =>
    obtain ⟨g', t', n, p, u, h1, h2, h3, h4, h5, h6, h7, h8⟩ := h
    exact ⟨g', t', n, p, u, h1, h2, h3, h4, (hb _ (heap_lt h5) (.inl (by omega))).trans h5, (hb _ (heap_lt h6) (.inl (by omega))).trans h6, (hb _ (heap_lt h7) (.inl (by omega))).trans h7, ho.trans h8.os, ht.trans h8.tape, hu.trans h8.output, by rw [hs]; exact h8.size, fun k hk => (hb k (Nat.lt_of_lt_of_le hk h8.size) (.inl (by omega))).trans (h8.block k hk)⟩
  case sy =>
    obtain ⟨g', t', n, p, u, h1, h2, h3, h4, h5, h6, h7, h8⟩ := h
    exact ⟨g', t', n, p, u, h1, h2, h3, h4, (hz.block _ (heap_lt h5) (.inr (.inl rfl))).trans h5, (hz.block _ (heap_lt h6) (.inr (.inr (.inl rfl)))).trans h6, (hz.block _ (heap_lt h7) (.inr (.inr (.inr rfl)))).trans h7, below_fz h8 (by omega) hz⟩
  case assign =>
    intro l' x W' K hK
    simp only [encJ, jagg]
    gi_wp2
    exact hK _ (World.grownBy_alloc _ _ _) (heap_alloc_new _ _)
  case body =>
    rintro l' pre ⟨gx, tx, nx⟩ b A ⟨hI1, hI2, hI3, hI4, hIB⟩ ⟨hX, hXG, hXn⟩ hb hA
    simp only [JAt] at *
    have HI := hide (And.intro hI1 (And.intro hI2 (And.intro hI3 (And.intro hI4 hIB))))
    have c0 := cellOf hA 0
    have c1 := cellOf hA 1
    simp at c0 c1
    obtain ⟨hjo, hjl⟩ := hXG.2 tx (by rw [subs_eq]; exact List.mem_cons_self ..) nx hXn
    have hXA := LR.kept (w' := A) (fun k hk _ => hIB.block k hk) hX
    have HW := hide (jwitness hXA hXG.1 (fun k hk => by have := hYl k hk; have := hIB.size; omega) (hT.below hIB) hjo)
    have HA := hide (And.intro hA hXA)
    unfold jagg at HW
    clear hI1 hI2 hI3 hI4 hIB hA hXA
    gi_wp2_with fail
    refine ⟨trivial, CallsIn.inRound l' (callsIn_wide.2 ((unhide HW).mono ?_))⟩
    rintro e A1 ⟨u, f, rfl, h1, h2, hg1⟩
    obtain ⟨hA, hXA⟩ := unhide HA
    have hA1 := (hg1.block b (heap_lt hA) (by simp)).trans hA
    have e0 := cellOf hA1 0
    have e1 := cellOf hA1 1
    simp at e0 e1
    have H1 := hide (And.intro h1 (And.intro h2 hg1))
    obtain ⟨p, hp⟩ : ∃ p, (placesOf tx)[nx]? = some p := ⟨_, List.getElem?_eq_getElem hjl⟩
    have HP := hide hp
    have HJ := hide (jat (w := A1) (LR.kept (w' := A1) (fun k hk _ => hg1.block k hk (by simp)) hXA) hp)
    unfold jagg at HJ
    clear h1 h2 hg1 HW HA hA hXA hA1 hp
    cases f with
    | false =>
      gi_wp2_with fail
      obtain ⟨hI1, hI2, hI3, hI4, hIB⟩ := unhide HI
      obtain ⟨_, h2, hg1⟩ := unhide H1
      have kk : ∀ k y, A.heap[k]? = some y → A1.heap[k]? = some y := fun k y hy => (hg1.block k (heap_lt hy) (by simp)).trans hy
      refine ⟨⟨hg1.os, hg1.tape, hg1.output, hg1.size, fun k hk _ => hg1.block k hk (by simp), fun k hk => .inl hk⟩, ?_, kk _ _ hI2, kk _ _ hI3, kk _ _ hI4, hg1.os.trans hIB.os, hg1.tape.trans hIB.tape, hg1.output.trans hIB.output, Nat.le_trans hIB.size hg1.size, fun k hk => (hg1.block k (Nat.lt_of_lt_of_le hk hIB.size) (by simp)).trans (hIB.block k hk)⟩
      intro x hx
      rcases List.mem_append.1 hx with h | h
      · exact hI1 x h
      · rw [List.mem_singleton] at h
        subst h
        exact (h2 (by first | rfl | trivial)).2
    | true =>
      gi_wp2_with fail
      refine ⟨trivial, CallsIn.inRound l' (callsIn_wide.2 ((unhide HJ).mono ?_))⟩
      rintro e A2 ⟨rfl, hg2⟩
      obtain ⟨hI1, hI2, hI3, hI4, hIB⟩ := unhide HI
      obtain ⟨h1, _, hg1⟩ := unhide H1
      have hg := hg1.trans hg2
      have kk : ∀ k y, A.heap[k]? = some y → A2.heap[k]? = some y := fun k y hy => (hg.block k (heap_lt hy) (by simp)).trans hy
      have q1 := kk _ _ hI2
      have q2 := kk _ _ hI3
      have q3 := kk _ _ hI4
      have d1 := cellOf q1 0
      have d2 := cellOf q2 0
      have d3 := cellOf q3 0
      have f1 := frozenOf q1 0
      have f2 := frozenOf q2 0
      have f3 := frozenOf q3 0
      simp at d1 d2 d3
      obtain ⟨A3, e3, s3, o3, t3, u3, b1, b2, b3, far⟩ := three_set q1 q2 q3 (.int .i64 (p : Int)) (.string (txt u)) (.bool true)
      have H3 := hide e3
      have HL := hide (And.intro h1 (And.intro hg (And.intro hIB (And.intro s3 (And.intro o3 (And.intro t3 (And.intro u3 (And.intro b1 (And.intro b2 (And.intro b3 far))))))))))
      clear hI1 hI2 hI3 hI4 hIB hg1 hg2 hg kk q1 q2 q3 e3 s3 o3 t3 u3 b1 b2 b3 far h1
      gi_wp2_with fail
      rw [unhide H3]
      obtain ⟨h1, hg, hIB, s3, o3, t3, u3, b1, b2, b3, far⟩ := unhide HL
      refine ⟨⟨o3.trans hg.os, t3.trans hg.tape, u3.trans hg.output, by rw [s3]; exact hg.size, fun k hk hn => (far k (fun e => hn (.inl e)) (fun e => hn (.inr (.inl e))) (fun e => hn (.inr (.inr e)))).trans (hg.block k hk (by simp)), fun k hk => .inl hk⟩, gx, tx, nx, p, u, by simp, unhide HP, (h1 (by first | rfl | trivial)).1, (h1 (by first | rfl | trivial)).2, b1, b2, b3, o3.trans (hg.os.trans hIB.os), t3.trans (hg.tape.trans hIB.tape), u3.trans (hg.output.trans hIB.output), by rw [s3]; exact Nat.le_trans hIB.size hg.size, fun k hk => (far k (by omega) (by omega) (by omega)).trans ((hg.block k (Nat.lt_of_lt_of_le hk hIB.size) (by simp)).trans (hIB.block k hk))⟩
  case done =>
    rintro D xs A hD hS ⟨hF, h1, h2, h3, hB⟩ hK
    have e1 := cellOf h1 0
    have e2 := cellOf h2 0
    have e3 := cellOf h3 0
    have f1 := frozenOf h1 0
    have f2 := frozenOf h2 0
    have f3 := frozenOf h3 0
    simp at e1 e2 e3
    obtain ⟨A3, ea, s3, o3, t3, u3, b1, b2, b3, far⟩ := three_set h1 h2 h3 (.int .i64 0) (.string ⟨#[]⟩) (.bool false)
    have HA := hide ea
    have HI := hide (And.intro hF (And.intro hB (And.intro hS (And.intro hK (And.intro s3 (And.intro o3 (And.intro t3 (And.intro u3 (And.intro b1 (And.intro b2 (And.intro b3 far)))))))))))
    clear hF h1 h2 h3 hB hS s3 o3 t3 u3 b1 b2 b3 far ea
    gi_wp2_with fail
    rw [unhide HA]
    obtain ⟨hF, hB, hS, hK, s3, o3, t3, u3, b1, b2, b3, far⟩ := unhide HI
    refine ⟨by simp, .inl ⟨_, _, rfl, run_takeDeferred ((far D (by omega) (by omega) (by omega)).trans hK), ?_⟩⟩
    have hp1 := (World.putObj_heap_other (w := A3) (r := D) (o := .deferred none) (k := W.heap.size) (by omega)).trans b1
    have hp2 := (World.putObj_heap_other (w := A3) (r := D) (o := .deferred none) (k := W.heap.size + 1) (by omega)).trans b2
    have hp3 := (World.putObj_heap_other (w := A3) (r := D) (o := .deferred none) (k := W.heap.size + 2) (by omega)).trans b3
    have q1 := cellOf hp1 0
    have q2 := cellOf hp2 0
    have q3 := cellOf hp3 0
    simp at q1 q2 q3
    refine ⟨.tuple #[.int .i64 0, .string ⟨#[]⟩, .bool false], ?_, ?_⟩
    · simp [results, Tryz.f46, go_sem, q1, q2, q3]
    · refine ⟨.inr ⟨rfl, fun x hx => ?_⟩, o3.trans hB.os, t3.trans hB.tape, u3.trans hB.output, by simp [World.putObj, s3]; exact hB.size, fun k hk _ => (World.putObj_heap_other (by omega)).trans ((far k (by omega) (by omega) (by omega)).trans (hB.block k hk))⟩
      rw [← hS] at hx
      obtain ⟨y, hy, rfl⟩ := List.mem_map.1 hx
      exact hF y hy
  case stop =>
    rintro D pre A hD ⟨r, hr⟩ ⟨g', t', n, p, u, h1, h2, h3, h4, b1, b2, b3, hB⟩ hK
    have HI := hide (And.intro h1 (And.intro h2 (And.intro h3 (And.intro h4 (And.intro b1 (And.intro b2 (And.intro b3 (And.intro hB (And.intro hr hK)))))))))
    clear h1 h2 h3 h4 b1 b2 b3 hB hr
    gi_wp2_with fail
    refine ⟨by simp, .inl ⟨_, _, rfl, run_takeDeferred hK, ?_⟩⟩
    obtain ⟨h1, h2, h3, h4, b1, b2, b3, hB, hr, hK⟩ := unhide HI
    have hp1 := (World.putObj_heap_other (w := A) (r := D) (o := .deferred none) (k := W.heap.size) (by omega)).trans b1
    have hp2 := (World.putObj_heap_other (w := A) (r := D) (o := .deferred none) (k := W.heap.size + 1) (by omega)).trans b2
    have hp3 := (World.putObj_heap_other (w := A) (r := D) (o := .deferred none) (k := W.heap.size + 2) (by omega)).trans b3
    have q1 := cellOf hp1 0
    have q2 := cellOf hp2 0
    have q3 := cellOf hp3 0
    simp at q1 q2 q3
    refine ⟨.tuple #[.int .i64 (p : Int), .string (txt u), .bool true], ?_, ?_⟩
    · simp [results, Tryz.f46, go_sem, q1, q2, q3]
    · refine ⟨.inl ⟨t', n, p, u, ?_, h2, h3, h4, rfl⟩, hB.os, hB.tape, hB.output, by simp [World.putObj]; exact hB.size, fun k hk _ => (World.putObj_heap_other (by omega)).trans (hB.block k hk)⟩
      rw [← hr]
      exact List.mem_append_left _ (List.mem_map.2 ⟨_, h1, rfl⟩)

end Go.Proofs.YtlljggefbngkeaaGreatDoor

namespace Go.Proofs.YtlljggefbngkeaaGreatDoor
open Go.RowKit Go.Shelf

/-- the error of a lens that cannot be read, and its place -/
def ErrOut (s : ByteArray) (c : Int) (p : Nat) : Prop :=
  (120 < s.size ∧ c = 1 ∧ p = 0) ∨ (s.size ≤ 120 ∧ match gRows s (6 * s.size + 5) 0 with
    | .err q => c = 2 ∧ p = q
    | .ok x j => (j < s.size ∧ c = 2 ∧ p = j) ∨ (j = s.size ∧ FirstW (dfltsL x.1) (some p) ∧ c = 3))
/-- the tree of a lens that can be read -/
def TreeOf (s : ByteArray) (t : LT) : Prop := s.size ≤ 120 ∧ ∃ x, gRows s (6 * s.size + 5) 0 = .ok x s.size ∧ FirstW (dfltsL x.1) none ∧ t = joinAlt x.1 x.2

/-- what the program's read answers, in these words -/
def GR2 (s : ByteArray) (w : World) (e : Ending) (w' : World) : Prop :=
  w.grownBy w' none ∧ ((∃ c p, ErrOut s c p ∧ (c = 1 ∨ c = 2 ∨ c = 3) ∧ e = .returned (.tuple #[.pointer none, .int .i64 c, .int .i64 (p : Int)])) ∨
    (∃ t g, TreeOf s t ∧ LR s w' (fun k => k < w.heap.size) t g ∧ e = .returned (.tuple #[.pointer (some ⟨g, 0, none⟩), .int .i64 0, .int .i64 0])))

theorem gread2 (hH : HoldsSaid) (s : ByteArray) (w : World) (hm : s.size ≤ maxLen) :
    Calls Tryz.prog 41 #[.string s] w fun e w' => GR2 s w e w' := by
  rcases Nat.lt_or_ge 120 s.size with hs | hs
  · refine (gread_long s w hs hm).mono ?_
    rintro e w1 ⟨rfl, rfl⟩
    exact ⟨World.grownBy.refl _ _, .inl ⟨1, 0, .inl ⟨hs, rfl, rfl⟩, .inl rfl, rfl⟩⟩
  · refine (gread_short hH s w hs).mono ?_
    rintro e w1 ⟨hg, hP⟩
    refine ⟨hg, ?_⟩
    have hE : ∀ (c : Int) (p : Nat), (match gRows s (6 * s.size + 5) 0 with
      | .err q => c = 2 ∧ p = q
      | .ok x j => (j < s.size ∧ c = 2 ∧ p = j) ∨ (j = s.size ∧ FirstW (dfltsL x.1) (some p) ∧ c = 3)) → ErrOut s c p := fun c p h => .inr ⟨hs, h⟩
    have hT : ∀ t, (∃ x, gRows s (6 * s.size + 5) 0 = .ok x s.size ∧ FirstW (dfltsL x.1) none ∧ t = joinAlt x.1 x.2) → TreeOf s t := fun t h => ⟨hs, h⟩
    generalize gRows s (6 * s.size + 5) 0 = r at *
    cases r with
    | err p => exact .inl ⟨2, p, hE _ _ ⟨rfl, rfl⟩, .inr (.inl rfl), hP⟩
    | ok x j =>
      rcases hP with ⟨h1, h2⟩ | ⟨rfl, o, hF, h2⟩
      · exact .inl ⟨2, j, hE _ _ (.inl ⟨h1, rfl, rfl⟩), .inr (.inl rfl), h2⟩
      · cases o with
        | some a => exact .inl ⟨3, a, hE _ _ (.inr ⟨rfl, hF, rfl⟩), .inr (.inr rfl), h2⟩
        | none =>
          obtain ⟨g, h3, h4⟩ := h2
          exact .inr ⟨_, g, hT _ ⟨x, rfl, hF, rfl⟩, h4, h3⟩

/-- what examine answers -/
def ExPost (s : ByteArray) (w : World) (e : Ending) (w' : World) : Prop :=
  w.grownBy w' none ∧ ((∃ c p, ErrOut s c p ∧ (c = 1 ∨ c = 2 ∨ c = 3) ∧ e = .returned (.tuple #[.pointer none, .int .i64 c, .int .i64 (p : Int), .string ⟨#[]⟩])) ∨
    (∃ t, TreeOf s t ∧ ((∃ t' n p u, (t', n) ∈ joints_ t ∧ (placesOf t')[n]? = some p ∧ JWit t' n u ∧ u.length ≤ 100000000 ∧ e = .returned (.tuple #[.pointer none, .int .i64 4, .int .i64 (p : Int), .string (txt u)])) ∨
      ((∀ x, x ∈ joints_ t → ∀ u, ¬ JWit x.1 x.2 u) ∧ ∃ g, LR s w' (fun k => k < w.heap.size) t g ∧ e = .returned (.tuple #[.pointer (some ⟨g, 0, none⟩), .int .i64 0, .int .i64 0, .string ⟨#[]⟩])))))

theorem results_tmp4 {fn : Func} {t u v x : Tmp} (h : fn.results = #[.tmp t, .tmp u, .tmp v, .tmp x]) (tmps : Array Value) (P : Program) (w : World) :
    (results fn tmps).run P w = .ok (.tuple #[tmps.getD t undef, tmps.getD u undef, tmps.getD v undef, tmps.getD x undef]) w := by
  simp [results, h, go_sem]

set_option maxRecDepth 100000 in
set_option maxHeartbeats 1600000 in
theorem gexamine (hH : HoldsSaid) (hFG : ∀ s t, TreeOf s t → FG t) (s : ByteArray) (w : World) (hm : s.size ≤ maxLen) (hTab : Tab w) :
    Calls Tryz.prog 32 #[.string s] w fun e w' => ExPost s w e w' := by
  have HR := hide (gread2 hH s w hm)
  go_enter Tryz.func32, Tryz.ntmps32
  go_wp2_with fail
  refine (unhide HR).mono ?_
  rintro e w1 ⟨hg1, (⟨c, p, h1, hc, rfl⟩ | ⟨t, g, h1, h2, rfl⟩)⟩
  · have H1 := hide (And.intro h1 (And.intro hc hg1))
    have hd : (c == 0) = false := by rcases hc with rfl | rfl | rfl <;> rfl
    clear h1 hg1 hc
    go_wp2
    ((try simp only [Exit.inBlock, Exit.then]); refine bodyPost_ret (results_tmp4 rfl _ _ _) rfl ?_)
    exact ⟨(unhide H1).2.2, .inl ⟨c, p, (unhide H1).1, (unhide H1).2.1, rfl⟩⟩
  · have HF := hide (firstWrong h2 (hFG s t h1) (fun k hk => by have := hg1.size; omega) (hTab.grown hg1))
    have H1 := hide (And.intro h1 (And.intro h2 hg1))
    clear h1 h2 hg1
    go_wp2_with fail
    refine (unhide HF).mono ?_
    rintro e w2 ⟨(⟨t', n, p, u, q1, q2, q3, q4, rfl⟩ | ⟨rfl, q⟩), hg2⟩
    · have H2 := hide (And.intro q1 (And.intro q2 (And.intro q3 (And.intro q4 hg2))))
      clear q1 q2 q3 q4 hg2
      go_wp2
      ((try simp only [Exit.inBlock, Exit.then]); refine bodyPost_ret (results_tmp4 rfl _ _ _) rfl ?_)
      obtain ⟨h1, h2, hg1⟩ := unhide H1
      obtain ⟨q1, q2, q3, q4, hg2⟩ := unhide H2
      exact ⟨hg1.trans hg2, .inr ⟨t, h1, .inl ⟨t', n, p, u, q1, q2, q3, q4, rfl⟩⟩⟩
    · have H2 := hide (And.intro q hg2)
      clear q hg2
      go_wp2
      ((try simp only [Exit.inBlock, Exit.then]); refine bodyPost_ret (results_tmp4 rfl _ _ _) rfl ?_)
      obtain ⟨h1, h2, hg1⟩ := unhide H1
      obtain ⟨q, hg2⟩ := unhide H2
      exact ⟨hg1.trans hg2, .inr ⟨t, h1, .inr ⟨q, g, LR.kept (fun k hk _ => hg2.block k hk (by simp)) h2, rfl⟩⟩⟩

/-- what Check answers -/
def ChPost (s : ByteArray) (w : World) (e : Ending) (w' : World) : Prop :=
  w.grownBy w' none ∧ ((∃ c p, ErrOut s c p ∧ (c = 1 ∨ c = 2 ∨ c = 3) ∧ e = .returned (.tuple #[.int .i64 c, .int .i64 (p : Int), .string ⟨#[]⟩])) ∨
    (∃ t, TreeOf s t ∧ ((∃ t' n p u, (t', n) ∈ joints_ t ∧ (placesOf t')[n]? = some p ∧ JWit t' n u ∧ u.length ≤ 100000000 ∧ e = .returned (.tuple #[.int .i64 4, .int .i64 (p : Int), .string (txt u)])) ∨
      ((∀ x, x ∈ joints_ t → ∀ u, ¬ JWit x.1 x.2 u) ∧ e = .returned (.tuple #[.int .i64 0, .int .i64 0, .string ⟨#[]⟩])))))

set_option maxRecDepth 100000 in
set_option maxHeartbeats 1600000 in
theorem gcheck (hH : HoldsSaid) (hFG : ∀ s t, TreeOf s t → FG t) (s : ByteArray) (w : World) (hm : s.size ≤ maxLen) (hTab : Tab w) :
    Calls Tryz.prog 14 #[.string s] w fun e w' => ChPost s w e w' := by
  have HR := hide (gexamine hH hFG s w hm hTab)
  go_enter Tryz.func14, Tryz.ntmps14
  go_wp2_with fail
  refine (unhide HR).mono ?_
  rintro e w1 ⟨hg1, (⟨c, p, h1, hc, rfl⟩ | ⟨t, h1, (⟨t', n, p, u, q1, q2, q3, q4, rfl⟩ | ⟨q, g, _, rfl⟩)⟩)⟩
  · have H1 := hide (And.intro h1 (And.intro hc hg1))
    clear h1 hg1 hc
    go_wp2
    go_ret3
    exact ⟨(unhide H1).2.2, .inl ⟨c, p, (unhide H1).1, (unhide H1).2.1, rfl⟩⟩
  · have H1 := hide (And.intro h1 (And.intro q1 (And.intro q2 (And.intro q3 (And.intro q4 hg1)))))
    clear h1 q1 q2 q3 q4 hg1
    go_wp2
    go_ret3
    obtain ⟨h1, q1, q2, q3, q4, hg1⟩ := unhide H1
    exact ⟨hg1, .inr ⟨t, h1, .inl ⟨t', n, p, u, q1, q2, q3, q4, rfl⟩⟩⟩
  · have H1 := hide (And.intro h1 (And.intro q hg1))
    clear h1 q hg1
    go_wp2
    go_ret3
    exact ⟨(unhide H1).2.2, .inr ⟨t, (unhide H1).1, .inr ⟨(unhide H1).2.1, rfl⟩⟩⟩

end Go.Proofs.YtlljggefbngkeaaGreatDoor
