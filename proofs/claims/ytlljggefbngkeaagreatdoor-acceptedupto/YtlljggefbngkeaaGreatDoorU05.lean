import Derived.Test.YtlljggefbngkeaaGreatDoorU04
import Derived.Deep.RegionLaw
import Derived.Deep.AppendLies
import Derived.KernelRfl
namespace Go.Proofs.YtlljggefbngkeaaGreatDoor
open Go.RowKit

/-- outside the blocks of X the world is as it was -/
structure Fr (X : Nat → Prop) (w w' : World) : Prop where
  os : w'.os = w.os
  tape : w'.tape = w.tape
  output : w'.output = w.output
  size : w.heap.size ≤ w'.heap.size
  block : ∀ k, k < w.heap.size → ¬ X k → w'.heap[k]? = w.heap[k]?

theorem Fr.refl (X : Nat → Prop) (w : World) : Fr X w w := ⟨rfl, rfl, rfl, Nat.le_refl _, fun _ _ _ => rfl⟩
theorem Fr.trans {X : Nat → Prop} {a b c : World} (h : Fr X a b) (k : Fr X b c) : Fr X a c :=
  ⟨k.os.trans h.os, k.tape.trans h.tape, k.output.trans h.output, Nat.le_trans h.size k.size, fun i hi hx => (k.block i (Nat.lt_of_lt_of_le hi h.size) hx).trans (h.block i hi hx)⟩
theorem Fr.mono {X Y : Nat → Prop} {w w' : World} (h : Fr X w w') (hXY : ∀ k, k < w.heap.size → X k → Y k) : Fr Y w w' :=
  ⟨h.os, h.tape, h.output, h.size, fun k hk hy => h.block k hk (fun hx => hy (hXY k hk hx))⟩
theorem Fr.of_grown {X : Nat → Prop} {w w' : World} {r : Option Nat} (h : w.grownBy w' r) (hX : ∀ k, r = some k → k < w.heap.size → X k) : Fr X w w' :=
  ⟨h.os, h.tape, h.output, h.size, fun k hk hx => h.block k hk (fun e => hx (hX k e.symm hk))⟩
theorem Fr.alloc (X : Nat → Prop) (w : World) (o : Obj) : Fr X w (w.alloc o) := Fr.of_grown (World.grownBy_alloc w o none) (fun _ h => by cases h)
theorem Fr.drewN (X : Nat → Prop) (w : World) (n : Nat) : Fr X w (w.drewN n) := ⟨rfl, rfl, rfl, Nat.le_refl _, fun _ _ _ => rfl⟩
theorem Fr.drew (X : Nat → Prop) (w : World) : Fr X w w.drew := ⟨rfl, rfl, rfl, Nat.le_refl _, fun _ _ _ => rfl⟩
theorem Fr.set {X : Nat → Prop} (w : World) (b o : Nat) (v : Value) (h : X b) : Fr X w (w.setCell ⟨b, o, none⟩ v) :=
  Fr.of_grown (grown_set w b o v) (fun k e _ => by cases e; exact h)
theorem Fr.trans' {X Y : Nat → Prop} {a b c : World} (h : Fr X a b) (k : Fr Y b c) (hY : ∀ i, i < a.heap.size → Y i → X i) : Fr X a c :=
  ⟨k.os.trans h.os, k.tape.trans h.tape, k.output.trans h.output, Nat.le_trans h.size k.size, fun i hi hx => (k.block i (Nat.lt_of_lt_of_le hi h.size) (fun hy => hx (hY i hi hy))).trans (h.block i hi hx)⟩

theorem Tryz.infoPattern : (Tryz.prog.info? 90).map (fun i => (i.zero, i.size, i.bytes)) = some (some (.agg #[.int .u8 0, .string ByteArray.empty, .slice none 0 0]), 3, 48) := by kernel_rfl

theorem rblk_pv {w : World} {b : Nat} {s : ByteArray} {i : Nat} {bad : Bool} {wn : Int} {out : ByteArray} {pv lv : Value} (h : w.heap[b]? = some (rblk s i bad wn out pv lv)) (v : Value) :
    (w.setCell ⟨b, 5, none⟩ v).heap[b]? = some (rblk s i bad wn out v lv) := by
  have := heap_set h 5 v
  simpa [rblk] using this
theorem rblk_lv {w : World} {b : Nat} {s : ByteArray} {i : Nat} {bad : Bool} {wn : Int} {out : ByteArray} {pv lv : Value} (h : w.heap[b]? = some (rblk s i bad wn out pv lv)) (v : Value) :
    (w.setCell ⟨b, 6, none⟩ v).heap[b]? = some (rblk s i bad wn out pv v) := by
  have := heap_set h 6 v
  simpa [rblk] using this

theorem own_ne {w : World} {b base : Nat} {c : Array Value} {T e : TypeId} {f : Nat × Nat} {size n : Nat} {v : Value} {xs : List Value} (h : w.heap[b]? = some (.cells c T f)) (ho : w.ownsRow base e size v n xs) (hne : T ≠ e) : v.ownBlock ≠ some b := by
  intro hv
  rcases ho.2 with ⟨h1, _⟩ | ⟨g, cap, cur, h1, _, h2, _⟩
  · subst h1; cases hv
  · subst h1
    simp [Value.ownBlock] at hv
    subst hv
    rw [h] at h2
    cases h2
    exact hne rfl

theorem alloc2_at (w : World) (o1 o2 : Obj) : ((w.alloc o1).alloc o2).heap[w.heap.size + 1]? = some o2 := by
  have := heap_alloc_new (w.alloc o1) o2
  simpa using this

set_option maxRecDepth 100000 in
set_option maxHeartbeats 1600000 in
theorem lay_low {w : World} {b : Nat} {s : ByteArray} {i : Nat} {bad : Bool} {wn : Int} {out : ByteArray} {pv lv : Value} {n : Nat} {xs : List Value} (kind : Int) (set : ByteArray) (sv : Value) (h : w.heap[b]? = some (rblk s i bad wn out pv lv))
    (hown : w.ownsRow 0 90 3 pv n xs) (hn : n ≤ 100000) (h1 : sv.oneCell' = true) :
    Calls Tryz.prog 132 #[.pointer (some ⟨b, 0, none⟩), .agg #[.int .u8 kind, .string set, sv]] w fun e w' => ∃ g cap, e = .returned (.int .i64 n) ∧
      w'.heap[b]? = some (rblk s i bad wn out (.slice (some ⟨g, 0, none⟩) (n + 1) cap) lv) ∧ w'.ownsRow 0 90 3 (.slice (some ⟨g, 0, none⟩) (n + 1) cap) (n + 1) (xs ++ [.int .u8 kind, .string set, sv]) ∧
      (pv.ownBlock = some g ∨ w.heap.size ≤ g) ∧ Fr (fun k => k = b ∨ pv.ownBlock = some k) w w' := by
  obtain ⟨i0, hi0, hz0, hz1, hz2⟩ := info_parts Tryz.infoPattern
  have c5 := cellOf h 5
  have fz := frozenOf h 5
  have hbl := heap_lt h
  have hne := own_ne h hown (by decide)
  have hne2 : pv.ownBlock ≠ some w.heap.size := fun e => Nat.lt_irrefl _ (hown.lt _ e).2
  have HB := hide h
  clear h
  simp at c5
  have hone : ∀ u ∈ [Value.int .u8 kind, .string set, sv], u.oneCell' = true := by
    intro u hu
    simp at hu
    rcases hu with rfl | rfl | rfl
    · rfl
    · rfl
    · exact h1
  clear h1
  have cz2 : ∀ o o', ((w.alloc o).alloc o').cell? ⟨b, 5, none⟩ = some pv := fun o o' => by rw [World.cell?_alloc_past _ _ _ (by simp; omega), World.cell?_alloc_past _ _ _ hbl]; exact c5
  have fz1 : ∀ o, (w.alloc o).frozen? ⟨b, 5, none⟩ = false := fun o => by rw [World.frozen?_alloc_past _ _ _ hbl]; exact fz
  have fz2 : ∀ o o', ((w.alloc o).alloc o').frozen? ⟨b, 5, none⟩ = false := fun o o' => by rw [World.frozen?_alloc_past _ _ _ (by simp; omega)]; exact fz1 o
  go_enter Tryz.func132, Tryz.ntmps132
  go_wp2_with fail
  go_region_law
    (refine step_append_lies _ (by rfl) _ _ _ (by rfl) 0 90 i0 _ 3 48 Tryz.underlying25 hi0 hz0 hz1 hz2 rfl (by omega) pv n xs (by rfl) (((hown.alloc _).alloc _).drew)
        ⟨w.heap.size + 1, 0, none⟩ 1 1 [.int .u8 kind, .string set, sv] (by rfl) (by rfl) (World.news_of_block (cs := #[.int .u8 kind, .string set, sv]) (t := 90) (fr := (0, 0)) (alloc2_at w _ _)) hone
        (by omega) (by unfold maxLen; omega) (by omega) (by simp) (w.heap.size + 2) (by simp) ?_; intro g cap w1 hown1 hgrow hat hlt; have k1 : w1.cell? ⟨b, 5, none⟩ = some pv := (by rw [hgrow.cell_far _ (by simp; omega) (Ne.symm hne)]; exact cz2 _ _); have k2 : w1.frozen? ⟨b, 5, none⟩ = false := (by rw [hgrow.frozen_far _ (by simp; omega) (Ne.symm hne)]; exact fz2 _ _))
  all_goals
    go_wp2
    go_ret
    have hb1 : w1.heap[b]? = some (rblk s i bad wn out pv lv) := (hgrow.block b (by simp [drew_heap]; omega) (Ne.symm hne)).trans (heap_alloc_old _ (heap_alloc_old _ (unhide HB)))
    refine ⟨g, cap, rfl, rblk_pv hb1 _, hown1.kept (grown_set w1 b 5 _) (Or.inr (own_ne hb1 hown1 (by decide))), ?_, ?_⟩
    · rcases hat with hat | hat
      · exact Or.inl hat
      · exact Or.inr (by omega)
    · exact ((((Fr.alloc _ w _).trans (Fr.alloc _ _ _)).trans (Fr.drew _ _)).trans (Fr.of_grown hgrow (fun k e _ => Or.inr e))).trans (Fr.set w1 b 5 _ (Or.inl rfl))

end Go.Proofs.YtlljggefbngkeaaGreatDoor

namespace Go.Proofs.YtlljggefbngkeaaGreatDoor
open Go.RowKit

theorem Tryz.infoLens : (Tryz.prog.info? 35).map (fun i => (i.zero, i.size, i.bytes)) = some (some (.agg #[.int .u8 0, .int .i64 0, .int .i64 0, .int .i64 0, .string ByteArray.empty, .string ByteArray.empty, .int .i64 0, .int .i64 0]), 8, 80) := by kernel_rfl

set_option maxRecDepth 100000 in
set_option maxHeartbeats 1600000 in
theorem node_low {w : World} {b : Nat} {s : ByteArray} {i : Nat} {bad : Bool} {wn : Int} {out : ByteArray} {pv lv : Value} {n : Nat} {xs : List Value} (kind la lb lat ls lq : Int) (view dflt : ByteArray) (h : w.heap[b]? = some (rblk s i bad wn out pv lv))
    (hown : w.ownsRow 0 35 8 lv n xs) (hn : n ≤ 100000) :
    Calls Tryz.prog 88 #[.pointer (some ⟨b, 0, none⟩), .agg #[.int .u8 kind, .int .i64 la, .int .i64 lb, .int .i64 lat, .string view, .string dflt, .int .i64 ls, .int .i64 lq]] w fun e w' => ∃ g cap, e = .returned (.int .i64 n) ∧
      w'.heap[b]? = some (rblk s i bad wn out pv (.slice (some ⟨g, 0, none⟩) (n + 1) cap)) ∧ w'.ownsRow 0 35 8 (.slice (some ⟨g, 0, none⟩) (n + 1) cap) (n + 1) (xs ++ [.int .u8 kind, .int .i64 la, .int .i64 lb, .int .i64 lat, .string view, .string dflt, .int .i64 ls, .int .i64 lq]) ∧
      (lv.ownBlock = some g ∨ w.heap.size ≤ g) ∧ Fr (fun k => k = b ∨ lv.ownBlock = some k) w w' := by
  obtain ⟨i0, hi0, hz0, hz1, hz2⟩ := info_parts Tryz.infoLens
  have c6 := cellOf h 6
  have fz := frozenOf h 6
  have hbl := heap_lt h
  have hne := own_ne h hown (by decide)
  have hne2 : lv.ownBlock ≠ some w.heap.size := fun e => Nat.lt_irrefl _ (hown.lt _ e).2
  have HB := hide h
  clear h
  simp at c6
  have hone : ∀ u ∈ [Value.int .u8 kind, .int .i64 la, .int .i64 lb, .int .i64 lat, .string view, .string dflt, .int .i64 ls, .int .i64 lq], u.oneCell' = true := by
    intro u hu
    simp at hu
    rcases hu with rfl | rfl | rfl | rfl | rfl | rfl | rfl | rfl <;> rfl
  have cz2 : ∀ o o', ((w.alloc o).alloc o').cell? ⟨b, 6, none⟩ = some lv := fun o o' => by rw [World.cell?_alloc_past _ _ _ (by simp; omega), World.cell?_alloc_past _ _ _ hbl]; exact c6
  have fz1 : ∀ o, (w.alloc o).frozen? ⟨b, 6, none⟩ = false := fun o => by rw [World.frozen?_alloc_past _ _ _ hbl]; exact fz
  have fz2 : ∀ o o', ((w.alloc o).alloc o').frozen? ⟨b, 6, none⟩ = false := fun o o' => by rw [World.frozen?_alloc_past _ _ _ (by simp; omega)]; exact fz1 o
  go_enter Tryz.func88, Tryz.ntmps88
  go_wp2_with fail
  go_region_law
    (refine step_append_lies _ (by rfl) _ _ _ (by rfl) 0 35 i0 _ 8 80 Tryz.underlying26 hi0 hz0 hz1 hz2 rfl (by omega) lv n xs (by rfl) (((hown.alloc _).alloc _).drew)
        ⟨w.heap.size + 1, 0, none⟩ 1 1 [.int .u8 kind, .int .i64 la, .int .i64 lb, .int .i64 lat, .string view, .string dflt, .int .i64 ls, .int .i64 lq] (by rfl) (by rfl) (World.news_of_block (cs := #[.int .u8 kind, .int .i64 la, .int .i64 lb, .int .i64 lat, .string view, .string dflt, .int .i64 ls, .int .i64 lq]) (t := 35) (fr := (0, 0)) (alloc2_at w _ _)) hone
        (by omega) (by unfold maxLen; omega) (by omega) (by simp) (w.heap.size + 2) (by simp) ?_; intro g cap w1 hown1 hgrow hat hlt; have k1 : w1.cell? ⟨b, 6, none⟩ = some lv := (by rw [hgrow.cell_far _ (by simp; omega) (Ne.symm hne)]; exact cz2 _ _); have k2 : w1.frozen? ⟨b, 6, none⟩ = false := (by rw [hgrow.frozen_far _ (by simp; omega) (Ne.symm hne)]; exact fz2 _ _))
  all_goals
    go_wp2
    go_ret
    have hb1 : w1.heap[b]? = some (rblk s i bad wn out pv lv) := (hgrow.block b (by simp [drew_heap]; omega) (Ne.symm hne)).trans (heap_alloc_old _ (heap_alloc_old _ (unhide HB)))
    refine ⟨g, cap, rfl, rblk_lv hb1 _, hown1.kept (grown_set w1 b 6 _) (Or.inr (own_ne hb1 hown1 (by decide))), ?_, ?_⟩
    · rcases hat with hat | hat
      · exact Or.inl hat
      · exact Or.inr (by omega)
    · exact ((((Fr.alloc _ w _).trans (Fr.alloc _ _ _)).trans (Fr.drew _ _)).trans (Fr.of_grown hgrow (fun k e _ => Or.inr e))).trans (Fr.set w1 b 6 _ (Or.inl rfl))

end Go.Proofs.YtlljggefbngkeaaGreatDoor

namespace Go.Proofs.YtlljggefbngkeaaGreatDoor
open Go.RowKit

/-- the blocks of Y are as they were -/
structure Kp (Y : Nat → Prop) (w w' : World) : Prop where
  os : w'.os = w.os
  tape : w'.tape = w.tape
  output : w'.output = w.output
  size : w.heap.size ≤ w'.heap.size
  block : ∀ k, k < w.heap.size → Y k → w'.heap[k]? = w.heap[k]?

theorem Kp.refl (Y : Nat → Prop) (w : World) : Kp Y w w := ⟨rfl, rfl, rfl, Nat.le_refl _, fun _ _ _ => rfl⟩
theorem Kp.trans {Y : Nat → Prop} {a b c : World} (h : Kp Y a b) (k : Kp Y b c) : Kp Y a c :=
  ⟨k.os.trans h.os, k.tape.trans h.tape, k.output.trans h.output, Nat.le_trans h.size k.size, fun i hi hx => (k.block i (Nat.lt_of_lt_of_le hi h.size) hx).trans (h.block i hi hx)⟩
theorem Kp.mono {Y Z : Nat → Prop} {w w' : World} (h : Kp Y w w') (hZ : ∀ k, k < w.heap.size → Z k → Y k) : Kp Z w w' :=
  ⟨h.os, h.tape, h.output, h.size, fun k hk hz => h.block k hk (hZ k hk hz)⟩
theorem Kp.of_fr {X Y : Nat → Prop} {w w' : World} (h : Fr X w w') (hX : ∀ k, k < w.heap.size → Y k → ¬ X k) : Kp Y w w' :=
  ⟨h.os, h.tape, h.output, h.size, fun k hk hy => h.block k hk (hX k hk hy)⟩
theorem Kp.of_grown {Y : Nat → Prop} {w w' : World} {r : Option Nat} (h : w.grownBy w' r) (hr : ∀ k, r = some k → ¬ Y k) : Kp Y w w' :=
  ⟨h.os, h.tape, h.output, h.size, fun k hk hy => h.block k hk (fun e => hr k e.symm hy)⟩
theorem Kp.drewN (Y : Nat → Prop) (w : World) (n : Nat) : Kp Y w (w.drewN n) := ⟨rfl, rfl, rfl, Nat.le_refl _, fun _ _ _ => rfl⟩
theorem Kp.drew (Y : Nat → Prop) (w : World) : Kp Y w w.drew := ⟨rfl, rfl, rfl, Nat.le_refl _, fun _ _ _ => rfl⟩
theorem Kp.alloc (Y : Nat → Prop) (w : World) (o : Obj) : Kp Y w (w.alloc o) := Kp.of_grown (World.grownBy_alloc w o none) (fun _ h => by cases h)
theorem Kp.set {Y : Nat → Prop} (w : World) (b o : Nat) (v : Value) (h : ¬ Y b) : Kp Y w (w.setCell ⟨b, o, none⟩ v) :=
  Kp.of_grown (grown_set w b o v) (fun k e => by cases e; exact h)
theorem Kp.at {Y : Nat → Prop} {w w' : World} (h : Kp Y w w') {k : Nat} {x : Obj} (hk : w.heap[k]? = some x) (hy : Y k) : w'.heap[k]? = some x := (h.block k (heap_lt hk) hy).trans hk

structure Pat where
  kind : Int
  set : ByteArray
  subs : List Nat

structure Lns where
  kind : Int
  a : Nat
  b : Nat
  at_ : Nat
  view : ByteArray
  dflt : ByteArray
  s : Nat
  v : Nat

structure St where
  i : Nat
  bad : Bool
  wn : Int
  out : ByteArray
  P : List Pat
  L : List Lns

def nums (l : List Nat) : List Value := l.map fun n : Nat => .int .i64 (n : Int)
def lnsCells (l : Lns) : List Value := [.int .u8 l.kind, .int .i64 l.a, .int .i64 l.b, .int .i64 l.at_, .string l.view, .string l.dflt, .int .i64 l.s, .int .i64 l.v]

theorem nums_length (l : List Nat) : (nums l).length = l.length := by simp [nums]
theorem lns_length (L : List Lns) : (L.flatMap lnsCells).length = L.length * 8 := by
  induction L with
  | nil => rfl
  | cons a l ih => simp [List.flatMap_cons, ih, lnsCells]; omega

/-- the patterns' cells; their lists lie in rows of their own, outside Y -/
def PR (w : World) (Y : Nat → Prop) (P : List Pat) (xs : List Value) : Prop :=
  ∀ j p, P[j]? = some p → ∃ v, xs[3 * j]? = some (.int .u8 p.kind) ∧ xs[3 * j + 1]? = some (.string p.set) ∧ xs[3 * j + 2]? = some v ∧
    w.ownsRow 0 3 1 v p.subs.length (nums p.subs) ∧ ∀ k, v.ownBlock = some k → ¬ Y k

/-- the reader and all that it holds -/
structure RO (w : World) (Y : Nat → Prop) (b : Nat) (s : ByteArray) (st : St) (pv lv : Value) (xs : List Value) : Prop where
  blk : w.heap[b]? = some (rblk s st.i st.bad st.wn st.out pv lv)
  ownP : w.ownsRow 0 90 3 pv st.P.length xs
  ownL : w.ownsRow 0 35 8 lv st.L.length (st.L.flatMap lnsCells)
  subs : PR w Y st.P xs
  nb : ¬ Y b
  np : ∀ k, pv.ownBlock = some k → ¬ Y k
  nl : ∀ k, lv.ownBlock = some k → ¬ Y k

def RH (w : World) (Y : Nat → Prop) (b : Nat) (s : ByteArray) (st : St) : Prop := ∃ pv lv xs, RO w Y b s st pv lv xs

theorem own_same {w w' : World} {base : Nat} {e : TypeId} {size : Nat} {v : Value} {n : Nat} {xs : List Value} (h : w.ownsRow base e size v n xs) (hk : ∀ k, v.ownBlock = some k → w'.heap[k]? = w.heap[k]?) : w'.ownsRow base e size v n xs := by
  refine ⟨h.1, ?_⟩
  rcases h.2 with h2 | ⟨g, cap, cur, hv, hg, hh, r⟩
  · exact Or.inl h2
  · exact Or.inr ⟨g, cap, cur, hv, hg, by rw [hk g (by rw [hv]; rfl)]; exact hh, r⟩

theorem own_lt {w : World} {base : Nat} {e : TypeId} {size : Nat} {v : Value} {n : Nat} {xs : List Value} (h : w.ownsRow base e size v n xs) (k : Nat) (hk : v.ownBlock = some k) : k < w.heap.size := (h.lt k hk).2

theorem own_ty {w : World} {base base' : Nat} {e e' : TypeId} {size size' : Nat} {v v' : Value} {n n' : Nat} {xs xs' : List Value} (h : w.ownsRow base e size v n xs) (h' : w.ownsRow base' e' size' v' n' xs') (hne : e ≠ e') (k : Nat) (hk : v.ownBlock = some k) : v'.ownBlock ≠ some k := by
  rcases h.2 with ⟨h1, _⟩ | ⟨g, cap, cur, h1, _, h2, _⟩
  · subst h1; cases hk
  · subst h1
    simp [Value.ownBlock] at hk
    subst hk
    exact own_ne h2 h' hne

/-- Y may be turned where nothing is: only what lies there counts -/
theorem RO.reY {w : World} {Y Z : Nat → Prop} {b : Nat} {s : ByteArray} {st : St} {pv lv : Value} {xs : List Value} (h : RO w Y b s st pv lv xs) (hZ : ∀ k, k < w.heap.size → Z k → Y k) : RO w Z b s st pv lv xs where
  blk := h.blk
  ownP := h.ownP
  ownL := h.ownL
  subs := fun j p hp => by
    obtain ⟨v, h1, h2, h3, h4, h5⟩ := h.subs j p hp
    exact ⟨v, h1, h2, h3, h4, fun k hk hz => h5 k hk (hZ k (own_lt h4 k hk) hz)⟩
  nb := fun hz => h.nb (hZ b (heap_lt h.blk) hz)
  np := fun k hk hz => h.np k hk (hZ k (own_lt h.ownP k hk) hz)
  nl := fun k hk hz => h.nl k hk (hZ k (own_lt h.ownL k hk) hz)

theorem RH.reY {w : World} {Y Z : Nat → Prop} {b : Nat} {s : ByteArray} {st : St} (h : RH w Y b s st) (hZ : ∀ k, k < w.heap.size → Z k → Y k) : RH w Z b s st := by
  obtain ⟨pv, lv, xs, h⟩ := h
  exact ⟨pv, lv, xs, h.reY hZ⟩

/-- what is written lies in Y -/
theorem RO.grown {w w' : World} {Y : Nat → Prop} {b : Nat} {s : ByteArray} {st : St} {pv lv : Value} {xs : List Value} {r : Option Nat} (h : RO w Y b s st pv lv xs) (hg : w.grownBy w' r) (hr : ∀ k, r = some k → Y k) : RO w' Y b s st pv lv xs := by
  have key : ∀ k, k < w.heap.size → ¬ Y k → w'.heap[k]? = w.heap[k]? := fun k hk hy => hg.block k hk (fun e => hy (hr k e.symm))
  exact {
    blk := (key b (heap_lt h.blk) h.nb).trans h.blk
    ownP := own_same h.ownP fun k hk => key k (own_lt h.ownP k hk) (h.np k hk)
    ownL := own_same h.ownL fun k hk => key k (own_lt h.ownL k hk) (h.nl k hk)
    subs := fun j p hp => by
      obtain ⟨v, h1, h2, h3, h4, h5⟩ := h.subs j p hp
      exact ⟨v, h1, h2, h3, own_same h4 fun k hk => key k (own_lt h4 k hk) (h5 k hk), h5⟩
    nb := h.nb
    np := h.np
    nl := h.nl }

theorem RH.grown {w w' : World} {Y : Nat → Prop} {b : Nat} {s : ByteArray} {st : St} {r : Option Nat} (h : RH w Y b s st) (hg : w.grownBy w' r) (hr : ∀ k, r = some k → Y k) : RH w' Y b s st := by
  obtain ⟨pv, lv, xs, h⟩ := h
  exact ⟨pv, lv, xs, h.grown hg hr⟩
theorem RH.alloc {w : World} {Y : Nat → Prop} {b : Nat} {s : ByteArray} {st : St} (h : RH w Y b s st) (o : Obj) : RH (w.alloc o) Y b s st := h.grown (World.grownBy_alloc w o none) (fun _ h => by cases h)
theorem RH.drewN {w : World} {Y : Nat → Prop} {b : Nat} {s : ByteArray} {st : St} (h : RH w Y b s st) (n : Nat) : RH (w.drewN n) Y b s st := h.grown (grown_drewN' w n none) (fun _ h => by cases h)
theorem RH.drew {w : World} {Y : Nat → Prop} {b : Nat} {s : ByteArray} {st : St} (h : RH w Y b s st) : RH w.drew Y b s st := h.grown (grown_drew' w none) (fun _ h => by cases h)

/-- the reader's own cells alone have turned -/
theorem RO.reader {w w' : World} {Y : Nat → Prop} {b : Nat} {s : ByteArray} {st : St} {pv lv : Value} {xs : List Value} (h : RO w Y b s st pv lv xs) (i : Nat) (bad : Bool) (wn : Int) (out : ByteArray) (hb : w'.heap[b]? = some (rblk s i bad wn out pv lv)) (hg : w.grownBy w' (some b)) :
    RO w' Y b s { st with i := i, bad := bad, wn := wn, out := out } pv lv xs := by
  have key : ∀ k, k < w.heap.size → k ≠ b → w'.heap[k]? = w.heap[k]? := fun k hk hne => hg.block k hk (fun e => hne (by simpa using e))
  have hx := h.blk
  exact {
    blk := hb
    ownP := own_same h.ownP fun k hk => key k (own_lt h.ownP k hk) (fun e => own_ne hx h.ownP (by decide) (by rw [hk, e]))
    ownL := own_same h.ownL fun k hk => key k (own_lt h.ownL k hk) (fun e => own_ne hx h.ownL (by decide) (by rw [hk, e]))
    subs := fun j p hp => by
      obtain ⟨v, h1, h2, h3, h4, h5⟩ := h.subs j p hp
      exact ⟨v, h1, h2, h3, own_same h4 fun k hk => key k (own_lt h4 k hk) (fun e => own_ne hx h4 (by decide) (by rw [hk, e])), h5⟩
    nb := h.nb
    np := h.np
    nl := h.nl }

section
variable {w : World} {Y : Nat → Prop} {b : Nat} {s : ByteArray} {st : St}

theorem RH.c0 (h : RH w Y b s st) : w.cell? ⟨b, 0, none⟩ = some (.string s) := by obtain ⟨pv, lv, xs, h⟩ := h; rw [cellOf h.blk]; rfl
theorem RH.c1 (h : RH w Y b s st) : w.cell? ⟨b, 1, none⟩ = some (.int .i64 st.i) := by obtain ⟨pv, lv, xs, h⟩ := h; rw [cellOf h.blk]; rfl
theorem RH.c2 (h : RH w Y b s st) : w.cell? ⟨b, 2, none⟩ = some (.bool st.bad) := by obtain ⟨pv, lv, xs, h⟩ := h; rw [cellOf h.blk]; rfl
theorem RH.c3 (h : RH w Y b s st) : w.cell? ⟨b, 3, none⟩ = some (.int .i64 st.wn) := by obtain ⟨pv, lv, xs, h⟩ := h; rw [cellOf h.blk]; rfl
theorem RH.c4 (h : RH w Y b s st) : w.cell? ⟨b, 4, none⟩ = some (.string st.out) := by obtain ⟨pv, lv, xs, h⟩ := h; rw [cellOf h.blk]; rfl
theorem RH.fz (h : RH w Y b s st) (o : Nat) : w.frozen? ⟨b, o, none⟩ = false := by obtain ⟨pv, lv, xs, h⟩ := h; exact frozenOf h.blk o
theorem RH.lt (h : RH w Y b s st) : b < w.heap.size := by obtain ⟨pv, lv, xs, h⟩ := h; exact heap_lt h.blk
theorem RH.nb (h : RH w Y b s st) : ¬ Y b := by obtain ⟨pv, lv, xs, h⟩ := h; exact h.nb

/-- a store into the reader's own cells -/
theorem RH.setBad (h : RH w Y b s st) : RH (w.setCell ⟨b, 2, none⟩ (.bool true)) Y b s { st with bad := true } := by
  obtain ⟨pv, lv, xs, h⟩ := h
  have hb : (w.setCell ⟨b, 2, none⟩ (.bool true)).heap[b]? = some (rblk s st.i true st.wn st.out pv lv) := by simpa [rblk] using heap_set h.blk 2 (.bool true)
  exact ⟨pv, lv, xs, h.reader st.i true st.wn st.out hb (grown_set _ _ _ _)⟩
theorem RH.setWn (h : RH w Y b s st) (n : Int) : RH (w.setCell ⟨b, 3, none⟩ (.int .i64 n)) Y b s { st with wn := n } := by
  obtain ⟨pv, lv, xs, h⟩ := h
  have hb : (w.setCell ⟨b, 3, none⟩ (.int .i64 n)).heap[b]? = some (rblk s st.i st.bad n st.out pv lv) := by simpa [rblk] using heap_set h.blk 3 (.int .i64 n)
  exact ⟨pv, lv, xs, h.reader st.i st.bad n st.out hb (grown_set _ _ _ _)⟩
theorem RH.setOut (h : RH w Y b s st) (o : ByteArray) : RH (w.setCell ⟨b, 4, none⟩ (.string o)) Y b s { st with out := o } := by
  obtain ⟨pv, lv, xs, h⟩ := h
  have hb : (w.setCell ⟨b, 4, none⟩ (.string o)).heap[b]? = some (rblk s st.i st.bad st.wn o pv lv) := by simpa [rblk] using heap_set h.blk 4 (.string o)
  exact ⟨pv, lv, xs, h.reader st.i st.bad st.wn o hb (grown_set _ _ _ _)⟩

theorem Peek (h : RH w Y b s st) (hs : s.size ≤ 120) (hi : st.i ≤ s.size) :
    Calls Tryz.prog 58 #[.pointer (some ⟨b, 0, none⟩)] w fun e w' => e = .returned (.int .u8 (peekI s st.i st.bad)) ∧ ∃ n, w' = w.drewN n := by
  obtain ⟨pv, lv, xs, h⟩ := h
  exact peek_any h.blk hs hi

/-- the state behind a byte that was taken -/
def St.took (st : St) (s : ByteArray) : St := if h : st.i < s.size then { st with i := st.i + 1, out := st.out ++ ⟨#[s[st.i]]⟩ } else st
def St.spoil (st : St) : St := { st with bad := true }

theorem St.took_eq (h : st.i < s.size) : st.took s = { st with i := st.i + 1, out := st.out ++ ⟨#[s[st.i]]⟩ } := by simp [St.took, h]

theorem TakeOk (h : RH w Y b s st) (hs : s.size ≤ 120) (hi : st.i < s.size) (ho : st.out.size ≤ 100000) (hb : st.bad = false) :
    Calls Tryz.prog 59 #[.pointer (some ⟨b, 0, none⟩)] w fun e w' => e = .returned (.int .u8 (peekI s st.i false)) ∧ RH w' Y b s (st.took s) ∧ Kp Y w w' := by
  obtain ⟨pv, lv, xs, h⟩ := h
  have hblk := h.blk
  rw [hb] at hblk
  refine (take_ok hblk hs hi ho).mono ?_
  rintro e w' ⟨rfl, h1, h2⟩
  refine ⟨rfl, ⟨pv, lv, xs, ?_⟩, Kp.of_grown h2 (fun k e => by cases e; exact h.nb)⟩
  rw [St.took_eq hi]
  have := h.reader (st.i + 1) false st.wn _ h1 h2
  rw [← hb] at this
  exact this

theorem TakeNo (h : RH w Y b s st) (hs : s.size ≤ 120) (hi : st.i ≤ s.size) (hno : st.bad = true ∨ ¬ st.i < s.size) :
    Calls Tryz.prog 59 #[.pointer (some ⟨b, 0, none⟩)] w fun e w' => e = .returned (.int .u8 0) ∧ RH w' Y b s st.spoil ∧ Kp Y w w' := by
  obtain ⟨pv, lv, xs, h⟩ := h
  refine (take_no h.blk hs hi hno).mono ?_
  rintro e w' ⟨rfl, h1, h2⟩
  exact ⟨rfl, ⟨pv, lv, xs, h.reader st.i true st.wn st.out h1 h2⟩, Kp.of_grown h2 (fun k e => by cases e; exact h.nb)⟩

theorem EatOk (c : Int) (h : RH w Y b s st) (hs : s.size ≤ 120) (hi : st.i < s.size) (ho : st.out.size ≤ 100000) (hb : st.bad = false) (hc : peekI s st.i false = c) :
    Calls Tryz.prog 155 #[.pointer (some ⟨b, 0, none⟩), .int .u8 c] w fun e w' => e = .returned (.tuple #[]) ∧ RH w' Y b s (st.took s) ∧ Kp Y w w' := by
  obtain ⟨pv, lv, xs, h⟩ := h
  have hblk := h.blk
  rw [hb] at hblk
  refine (eat_ok c hblk hs hi ho hc).mono ?_
  rintro e w' ⟨rfl, h1, h2⟩
  refine ⟨rfl, ⟨pv, lv, xs, ?_⟩, Kp.of_grown h2 (fun k e => by cases e; exact h.nb)⟩
  rw [St.took_eq hi]
  have := h.reader (st.i + 1) false st.wn _ h1 h2
  rw [← hb] at this
  exact this

theorem EatNo (c : Int) (h : RH w Y b s st) (hs : s.size ≤ 120) (hi : st.i ≤ s.size) (hc : peekI s st.i st.bad ≠ c) :
    Calls Tryz.prog 155 #[.pointer (some ⟨b, 0, none⟩), .int .u8 c] w fun e w' => e = .returned (.tuple #[]) ∧ RH w' Y b s st.spoil ∧ Kp Y w w' := by
  obtain ⟨pv, lv, xs, h⟩ := h
  refine (eat_no c h.blk hs hi hc).mono ?_
  rintro e w' ⟨rfl, h1, h2⟩
  exact ⟨rfl, ⟨pv, lv, xs, h.reader st.i true st.wn st.out h1 h2⟩, Kp.of_grown h2 (fun k e => by cases e; exact h.nb)⟩

/-- the state behind the blanks -/
def St.skip (st : St) (s : ByteArray) : St := if st.bad = true then st else { st with i := skipB s st.i }
theorem St.skip_ok (st : St) (s : ByteArray) (h : st.bad = false) : st.skip s = { st with i := skipB s st.i } := by simp [St.skip, h]
theorem St.skip_bad (st : St) (s : ByteArray) (h : st.bad = true) : st.skip s = st := by simp [St.skip, h]

theorem Blanks (h : RH w Y b s st) (hs : s.size ≤ 120) (hi : st.i ≤ s.size) :
    Calls Tryz.prog 56 #[.pointer (some ⟨b, 0, none⟩)] w fun e w' => e = .returned (.tuple #[]) ∧ RH w' Y b s (st.skip s) ∧ Kp Y w w' := by
  obtain ⟨pv, lv, xs, h⟩ := h
  have hblk := h.blk
  cases hb : st.bad with
  | false =>
    rw [hb] at hblk
    refine (blanks_any hblk hs hi).mono ?_
    rintro e w' ⟨rfl, h1, h2⟩
    have := h.reader (skipB s st.i) false st.wn st.out h1 h2
    rw [← hb] at this
    rw [St.skip_ok st s hb]
    exact ⟨rfl, ⟨pv, lv, xs, this⟩, Kp.of_grown h2 (fun k e => by cases e; exact h.nb)⟩
  | true =>
    rw [hb] at hblk
    refine (blanks_bad hblk hs hi).mono ?_
    rintro e w' ⟨rfl, h1, h2⟩
    have := h.reader st.i true st.wn st.out h1 h2
    rw [← hb] at this
    rw [St.skip_bad st s hb]
    exact ⟨rfl, ⟨pv, lv, xs, this⟩, Kp.of_grown h2 (fun k e => by cases e; exact h.nb)⟩

theorem SignOk (h : RH w Y b s st) (hs : s.size ≤ 120) (hi : st.i < s.size) (ho : st.out.size ≤ 100000) (hb : st.bad = false) (hc : signI (peekI s st.i false) = true) :
    Calls Tryz.prog 192 #[.pointer (some ⟨b, 0, none⟩)] w fun e w' => e = .returned (.int .u8 (peekI s st.i false)) ∧ RH w' Y b s (st.took s) ∧ Kp Y w w' := by
  obtain ⟨pv, lv, xs, h⟩ := h
  have hblk := h.blk
  rw [hb] at hblk
  refine (rsign_ok hblk hs hi ho hc).mono ?_
  rintro e w' ⟨rfl, h1, h2⟩
  refine ⟨rfl, ⟨pv, lv, xs, ?_⟩, Kp.of_grown h2 (fun k e => by cases e; exact h.nb)⟩
  rw [St.took_eq hi]
  have := h.reader (st.i + 1) false st.wn _ h1 h2
  rw [← hb] at this
  exact this

theorem SignNo (h : RH w Y b s st) (hs : s.size ≤ 120) (hi : st.i ≤ s.size) (hc : signI (peekI s st.i st.bad) = false) :
    Calls Tryz.prog 192 #[.pointer (some ⟨b, 0, none⟩)] w fun e w' => e = .returned (.int .u8 0) ∧ RH w' Y b s st.spoil ∧ Kp Y w w' := by
  obtain ⟨pv, lv, xs, h⟩ := h
  refine (rsign_no h.blk hs hi hc).mono ?_
  rintro e w' ⟨rfl, h1, h2⟩
  exact ⟨rfl, ⟨pv, lv, xs, h.reader st.i true st.wn st.out h1 h2⟩, Kp.of_grown h2 (fun k e => by cases e; exact h.nb)⟩

theorem own_one {base : Nat} {e : TypeId} {size : Nat} {v : Value} {n : Nat} {xs : List Value} (h : w.ownsRow base e size v n xs) : v.oneCell' = true := by
  rcases h.2 with ⟨h1, _⟩ | ⟨g, cap, cur, h1, _⟩ <;> subst h1 <;> rfl

theorem Lay (p : Pat) (sv : Value) (h : RH w Y b s st) (hn : st.P.length ≤ 100000) (hY : ∀ k, Y k → k < w.heap.size) (hsv : w.ownsRow 0 3 1 sv p.subs.length (nums p.subs)) (hsy : ∀ k, sv.ownBlock = some k → ¬ Y k) :
    Calls Tryz.prog 132 #[.pointer (some ⟨b, 0, none⟩), .agg #[.int .u8 p.kind, .string p.set, sv]] w fun e w' => e = .returned (.int .i64 st.P.length) ∧ RH w' Y b s { st with P := st.P ++ [p] } ∧ Kp Y w w' := by
  obtain ⟨pv, lv, xs, h⟩ := h
  refine (lay_low p.kind p.set sv h.blk h.ownP hn (own_one hsv)).mono ?_
  rintro e w' ⟨g, cap, rfl, hb, ho, hg, hf⟩
  have key : ∀ k, k < w.heap.size → k ≠ b → pv.ownBlock ≠ some k → w'.heap[k]? = w.heap[k]? := fun k hk h1 h2 => hf.block k hk (fun e => e.elim h1 h2)
  have hx := h.blk
  refine ⟨rfl, ⟨.slice (some ⟨g, 0, none⟩) (st.P.length + 1) cap, lv, xs ++ [.int .u8 p.kind, .string p.set, sv], ?_⟩, Kp.of_fr hf (fun k _ hy e => e.elim (fun e => h.nb (e ▸ hy)) (fun e => h.np k e hy))⟩
  exact {
    blk := hb
    ownP := by simpa using ho
    ownL := own_same h.ownL fun k hk => key k (own_lt h.ownL k hk) (fun e => own_ne hx h.ownL (by decide) (by rw [hk, e])) (own_ty h.ownL h.ownP (by decide) k hk)
    subs := by
      intro j q hq
      have hlen := h.ownP.1
      rcases Nat.lt_or_ge j st.P.length with hj | hj
      · have hq' : st.P[j]? = some q := by rw [List.getElem?_append_left hj] at hq; exact hq
        obtain ⟨v, h1, h2, h3, h4, h5⟩ := h.subs j q hq'
        refine ⟨v, ?_, ?_, ?_, own_same h4 fun k hk => key k (own_lt h4 k hk) (fun e => own_ne hx h4 (by decide) (by rw [hk, e])) (own_ty h4 h.ownP (by decide) k hk), h5⟩
        · rw [List.getElem?_append_left (by omega)]; exact h1
        · rw [List.getElem?_append_left (by omega)]; exact h2
        · rw [List.getElem?_append_left (by omega)]; exact h3
      · have hj' : j = st.P.length := by
          have := (List.getElem?_eq_some_iff.1 hq).1
          simp at this
          omega
        subst hj'
        have hq' : q = p := by simpa using hq.symm
        subst hq'
        refine ⟨sv, ?_, ?_, ?_, own_same hsv fun k hk => key k (own_lt hsv k hk) (fun e => own_ne hx hsv (by decide) (by rw [hk, e])) (own_ty hsv h.ownP (by decide) k hk), hsy⟩
        · rw [List.getElem?_append_right (by omega), show 3 * st.P.length - xs.length = 0 by omega]; rfl
        · rw [List.getElem?_append_right (by omega), show 3 * st.P.length + 1 - xs.length = 1 by omega]; rfl
        · rw [List.getElem?_append_right (by omega), show 3 * st.P.length + 2 - xs.length = 2 by omega]; rfl
    nb := h.nb
    np := by
      intro k hk hy
      simp [Value.ownBlock] at hk
      subst hk
      rcases hg with hg | hg
      · exact h.np _ hg hy
      · have := hY _ hy; omega
    nl := h.nl }

theorem Node (l : Lns) (h : RH w Y b s st) (hn : st.L.length ≤ 100000) (hY : ∀ k, Y k → k < w.heap.size) :
    Calls Tryz.prog 88 #[.pointer (some ⟨b, 0, none⟩), .agg #[.int .u8 l.kind, .int .i64 l.a, .int .i64 l.b, .int .i64 l.at_, .string l.view, .string l.dflt, .int .i64 l.s, .int .i64 l.v]] w fun e w' => e = .returned (.int .i64 st.L.length) ∧ RH w' Y b s { st with L := st.L ++ [l] } ∧ Kp Y w w' := by
  obtain ⟨pv, lv, xs, h⟩ := h
  refine (node_low l.kind l.a l.b l.at_ l.s l.v l.view l.dflt h.blk h.ownL hn).mono ?_
  rintro e w' ⟨g, cap, rfl, hb, ho, hg, hf⟩
  have key : ∀ k, k < w.heap.size → k ≠ b → lv.ownBlock ≠ some k → w'.heap[k]? = w.heap[k]? := fun k hk h1 h2 => hf.block k hk (fun e => e.elim h1 h2)
  have hx := h.blk
  refine ⟨rfl, ⟨pv, .slice (some ⟨g, 0, none⟩) (st.L.length + 1) cap, xs, ?_⟩, Kp.of_fr hf (fun k _ hy e => e.elim (fun e => h.nb (e ▸ hy)) (fun e => h.nl k e hy))⟩
  exact {
    blk := hb
    ownP := own_same h.ownP fun k hk => key k (own_lt h.ownP k hk) (fun e => own_ne hx h.ownP (by decide) (by rw [hk, e])) (own_ty h.ownP h.ownL (by decide) k hk)
    ownL := by simpa [lnsCells] using ho
    subs := by
      intro j q hq
      obtain ⟨v, h1, h2, h3, h4, h5⟩ := h.subs j q hq
      exact ⟨v, h1, h2, h3, own_same h4 fun k hk => key k (own_lt h4 k hk) (fun e => own_ne hx h4 (by decide) (by rw [hk, e])) (own_ty h4 h.ownL (by decide) k hk), h5⟩
    nb := h.nb
    np := h.np
    nl := by
      intro k hk hy
      simp [Value.ownBlock] at hk
      subst hk
      rcases hg with hg | hg
      · exact h.nl _ hg hy
      · have := hY _ hy; omega }
end

end Go.Proofs.YtlljggefbngkeaaGreatDoor

namespace Go.Proofs.YtlljggefbngkeaaGreatDoor
open Go.RowKit

theorem pk_eq (s : ByteArray) (i : Nat) : peekI s i false = pk s i := rfl

theorem PeekR {w : World} {Y : Nat → Prop} {b : Nat} {s : ByteArray} {st : St} (h : RH w Y b s st) (hs : s.size ≤ 120) (hi : st.i ≤ s.size) :
    Calls Tryz.prog 58 #[.pointer (some ⟨b, 0, none⟩)] w fun e w' => e = .returned (.int .u8 (peekI s st.i st.bad)) ∧ RH w' Y b s st ∧ Kp Y w w' ∧ w'.heap = w.heap :=
  (Peek h hs hi).mono fun _ _ ⟨he, n, hw⟩ => by subst hw; exact ⟨he, h.drewN n, Kp.drewN _ _ _, rfl⟩

theorem PeekG {w : World} {Y : Nat → Prop} {b : Nat} {s : ByteArray} {st : St} {i : Nat} (h : RH w Y b s st) (hs : s.size ≤ 120) (ei : st.i = i) (hi : i ≤ s.size) (eb : st.bad = false) :
    Calls Tryz.prog 58 #[.pointer (some ⟨b, 0, none⟩)] w fun e w' => e = .returned (.int .u8 (pk s i)) ∧ ∃ n, w' = w.drewN n := by
  have := Peek h hs (by rw [ei]; exact hi)
  rw [ei, eb] at this
  exact this
theorem PeekGR {w : World} {Y : Nat → Prop} {b : Nat} {s : ByteArray} {st : St} {i : Nat} (h : RH w Y b s st) (hs : s.size ≤ 120) (ei : st.i = i) (hi : i ≤ s.size) (eb : st.bad = false) :
    Calls Tryz.prog 58 #[.pointer (some ⟨b, 0, none⟩)] w fun e w' => e = .returned (.int .u8 (pk s i)) ∧ RH w' Y b s st ∧ Kp Y w w' :=
  (PeekG h hs ei hi eb).mono fun _ _ ⟨he, n, hw⟩ => by subst hw; exact ⟨he, h.drewN n, Kp.drewN _ _ _⟩
theorem PeekB {w : World} {Y : Nat → Prop} {b : Nat} {s : ByteArray} {st : St} (h : RH w Y b s st) (hs : s.size ≤ 120) (hi : st.i ≤ s.size) (eb : st.bad = true) :
    Calls Tryz.prog 58 #[.pointer (some ⟨b, 0, none⟩)] w fun e w' => e = .returned (.int .u8 0) ∧ RH w' Y b s st ∧ Kp Y w w' := by
  have := PeekR h hs hi
  rw [eb, peekI_bad] at this
  exact this.mono fun _ _ ⟨h1, h2, h3, _⟩ => ⟨h1, h2, h3⟩

/-- the state behind the bytes up to a place -/
def St.upTo (st : St) (s : ByteArray) (j : Nat) : St := { st with i := j, out := st.out ++ s.extract st.i j }

theorem extract_snoc (s : ByteArray) (i j : Nat) (hij : i ≤ j) (hj : j < s.size) : s.extract i (j + 1) = s.extract i j ++ ⟨#[s[j]]⟩ := by
  apply ByteArray.ext
  have hj' : j < s.data.size := hj
  have : s.data.extract i (j + 1) = s.data.extract i j ++ #[s.data[j]] := by
    apply Array.ext
    · simp; omega
    · intro k h1 h2
      simp at h1 h2
      rcases Nat.lt_or_ge k (j - i) with hk | hk
      · rw [Array.getElem_append_left (by simp; omega)]; simp
      · obtain rfl : k = j - i := by omega
        rw [Array.getElem_append_right (by simp; omega)]
        simp [show i + (j - i) = j by omega]
  rw [ByteArray.data_append, ByteArray.data_extract, ByteArray.data_extract]
  exact this

theorem St.upTo_self (st : St) (s : ByteArray) : st.upTo s st.i = st := by
  simp [St.upTo]

theorem St.upTo_took (st : St) (s : ByteArray) (j : Nat) (hij : st.i ≤ j) (hj : j < s.size) : (st.upTo s j).took s = st.upTo s (j + 1) := by
  rw [St.took_eq (st := st.upTo s j) (s := s) hj]
  simp only [St.upTo]
  rw [extract_snoc s st.i j hij hj, ByteArray.append_assoc]

theorem St.upTo_i (st : St) (s : ByteArray) (j : Nat) : (st.upTo s j).i = j := rfl
theorem St.upTo_bad (st : St) (s : ByteArray) (j : Nat) : (st.upTo s j).bad = st.bad := rfl
theorem St.upTo_P (st : St) (s : ByteArray) (j : Nat) : (st.upTo s j).P = st.P := rfl
theorem St.upTo_L (st : St) (s : ByteArray) (j : Nat) : (st.upTo s j).L = st.L := rfl
theorem St.upTo_out (st : St) (s : ByteArray) (j : Nat) (h : st.i ≤ j) (hj : j ≤ s.size) : (st.upTo s j).out.size = st.out.size + (j - st.i) := by
  simp [St.upTo]; omega

theorem conv1i (c : Int) (h0 : 0 ≤ c) (h1 : c ≤ 255) (W : World) (k : Nat) (h : W.cell? ⟨k, 0, none⟩ = some (.int .u8 c)) :
    (convert 96 9 (.slice (some ⟨k, 0, none⟩) 1 1)).run Tryz.prog W = .ok (.string ⟨#[UInt8.ofNat c.toNat]⟩) W := by
  have e : ((UInt8.ofNat c.toNat).toNat : Int) = c := by
    rw [UInt8.toNat_ofNat']; omega
  exact conv1 W k (UInt8.ofNat c.toNat) (by rw [e]; exact h)

/-- the text of a list of bytes -/
def txt (l : List UInt8) : ByteArray := ⟨l.toArray⟩
theorem txt_nil : txt [] = ⟨#[]⟩ := rfl
theorem txt_snoc (l : List UInt8) (x : UInt8) : txt l ++ ⟨#[x]⟩ = txt (l ++ [x]) := by
  apply ByteArray.ext; simp [txt, ByteArray.data_append]
theorem txt_size (l : List UInt8) : (txt l).size = l.length := by simp [txt, ByteArray.size]

theorem pk_sign_lt {s : ByteArray} {i : Nat} (h : signI (pk s i) = true) : i < s.size := by
  rcases Nat.lt_or_ge i s.size with h1 | h1
  · exact h1
  · exfalso
    rw [← pk_eq, peekI_end s i false (by omega)] at h
    revert h; decide

theorem pk_lt {s : ByteArray} {i : Nat} (h : pk s i ≠ 0) : i < s.size := (lt_of_peek s i false h).1

theorem signI_bd {c : Int} (h : signI c = true) : 0 < c ∧ c ≤ 255 := by
  simp [signI, withinB, hasL] at h
  omega

theorem gSpans_no (s : ByteArray) (n i : Nat) (l : List UInt8) (h : signI (pk s i) = false) : gSpans s (n + 1) i l = .err i := by
  simp [gSpans, h]
theorem gSpans_one (s : ByteArray) (n i : Nat) (l : List UInt8) (h : signI (pk s i) = true) (h1 : pk s (i + 1) ≠ 45) :
    gSpans s (n + 1) i l = if pk s (i + 1) = 93 then .ok (l ++ upto (pk s i) (pk s i)) (i + 2) else gSpans s n (i + 1) (l ++ upto (pk s i) (pk s i)) := by
  rw [gSpans, if_pos h, if_neg h1]
theorem gSpans_two (s : ByteArray) (n i : Nat) (l : List UInt8) (h : signI (pk s i) = true) (h1 : pk s (i + 1) = 45) (h2 : signI (pk s (i + 2)) = true) (h3 : pk s i ≤ pk s (i + 2)) :
    gSpans s (n + 1) i l = if pk s (i + 3) = 93 then .ok (l ++ upto (pk s i) (pk s (i + 2))) (i + 4) else gSpans s n (i + 3) (l ++ upto (pk s i) (pk s (i + 2))) := by
  rw [gSpans, if_pos h, if_pos h1, if_pos (by simp [h2, h3])]
theorem gSpans_bad (s : ByteArray) (n i : Nat) (l : List UInt8) (h : signI (pk s i) = true) (h1 : pk s (i + 1) = 45) (h2 : signI (pk s (i + 2)) = false ∨ pk s (i + 2) < pk s i) :
    gSpans s (n + 1) i l = .err (i + 2) := by
  rw [gSpans, if_pos h, if_pos h1, if_neg]
  rcases h2 with h2 | h2
  · simp [h2]
  · simp; intro _; omega

theorem upto_ne {a b : Int} (ha : signI a = true) (hb : a ≤ b) : upto a b ≠ [] := by
  have h0 := signI_bd ha
  unfold upto uptoN
  rw [show b.toNat + 1 - a.toNat = (b.toNat - a.toNat) + 1 by omega, List.range'_succ, List.filter_cons, if_pos (by rw [show ((a.toNat : Nat) : Int) = a by omega]; exact ha)]
  simp

end Go.Proofs.YtlljggefbngkeaaGreatDoor
