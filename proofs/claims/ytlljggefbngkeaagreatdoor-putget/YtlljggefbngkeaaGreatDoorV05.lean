import Derived.Test.YtlljggefbngkeaaGreatDoorV04
import Derived.Deep.RegionLaw
import Derived.Deep.AppendLies
import Derived.KernelRfl
namespace Go.Proofs.YtlljggefbngkeaaGreatDoor
open Go.RowKit

/-- outside the blocks of X the world is as it was -/
structure Fr (X : Nat → Prop) (w w' : World) : Prop where
  os : w'.os = w.os
  tape : w'.tape = w.tape
  output : w'.output = w.output
  size : w.heap.size ≤ w'.heap.size
  block : ∀ k, k < w.heap.size → ¬ X k → w'.heap[k]? = w.heap[k]?

theorem Fr.trans {X : Nat → Prop} {a b c : World} (h : Fr X a b) (k : Fr X b c) : Fr X a c :=
  ⟨k.os.trans h.os, k.tape.trans h.tape, k.output.trans h.output, Nat.le_trans h.size k.size, fun i hi hx => (k.block i (Nat.lt_of_lt_of_le hi h.size) hx).trans (h.block i hi hx)⟩
theorem Fr.of_grown {X : Nat → Prop} {w w' : World} {r : Option Nat} (h : w.grownBy w' r) (hX : ∀ k, r = some k → k < w.heap.size → X k) : Fr X w w' :=
  ⟨h.os, h.tape, h.output, h.size, fun k hk hx => h.block k hk (fun e => hx (hX k e.symm hk))⟩
theorem Fr.alloc (X : Nat → Prop) (w : World) (o : Obj) : Fr X w (w.alloc o) := Fr.of_grown (World.grownBy_alloc w o none) (fun _ h => by cases h)
theorem Fr.drew (X : Nat → Prop) (w : World) : Fr X w w.drew := ⟨rfl, rfl, rfl, Nat.le_refl _, fun _ _ _ => rfl⟩
theorem Fr.set {X : Nat → Prop} (w : World) (b o : Nat) (v : Value) (h : X b) : Fr X w (w.setCell ⟨b, o, none⟩ v) :=
  Fr.of_grown (grown_set w b o v) (fun k e _ => by cases e; exact h)



theorem own_ne {w : World} {b base : Nat} {c : Array Value} {T e : TypeId} {f : Nat × Nat} {size n : Nat} {v : Value} {xs : List Value} (h : w.heap[b]? = some (.cells c T f)) (ho : w.ownsRow base e size v n xs) (hne : T ≠ e) : v.ownBlock ≠ some b := by
  intro hv
  rcases ho.2 with ⟨h1, _⟩ | ⟨g, cap, cur, h1, _, h2, _⟩
  · subst h1; cases hv
  · subst h1
    simp [Value.ownBlock] at hv
    subst hv
    rw [h] at h2
    cases h2
    exact hne rfl

theorem alloc2_at (w : World) (o1 o2 : Obj) : ((w.alloc o1).alloc o2).heap[w.heap.size + 1]? = some o2 := by
  have := heap_alloc_new (w.alloc o1) o2
  simpa using this


end Go.Proofs.YtlljggefbngkeaaGreatDoor

namespace Go.Proofs.YtlljggefbngkeaaGreatDoor
open Go.RowKit



end Go.Proofs.YtlljggefbngkeaaGreatDoor

namespace Go.Proofs.YtlljggefbngkeaaGreatDoor
open Go.RowKit

/-- the blocks of Y are as they were -/
structure Kp (Y : Nat → Prop) (w w' : World) : Prop where
  os : w'.os = w.os
  tape : w'.tape = w.tape
  output : w'.output = w.output
  size : w.heap.size ≤ w'.heap.size
  block : ∀ k, k < w.heap.size → Y k → w'.heap[k]? = w.heap[k]?

theorem Kp.refl (Y : Nat → Prop) (w : World) : Kp Y w w := ⟨rfl, rfl, rfl, Nat.le_refl _, fun _ _ _ => rfl⟩
theorem Kp.trans {Y : Nat → Prop} {a b c : World} (h : Kp Y a b) (k : Kp Y b c) : Kp Y a c :=
  ⟨k.os.trans h.os, k.tape.trans h.tape, k.output.trans h.output, Nat.le_trans h.size k.size, fun i hi hx => (k.block i (Nat.lt_of_lt_of_le hi h.size) hx).trans (h.block i hi hx)⟩
theorem Kp.mono {Y Z : Nat → Prop} {w w' : World} (h : Kp Y w w') (hZ : ∀ k, k < w.heap.size → Z k → Y k) : Kp Z w w' :=
  ⟨h.os, h.tape, h.output, h.size, fun k hk hz => h.block k hk (hZ k hk hz)⟩
theorem Kp.of_fr {X Y : Nat → Prop} {w w' : World} (h : Fr X w w') (hX : ∀ k, k < w.heap.size → Y k → ¬ X k) : Kp Y w w' :=
  ⟨h.os, h.tape, h.output, h.size, fun k hk hy => h.block k hk (hX k hk hy)⟩
theorem Kp.of_grown {Y : Nat → Prop} {w w' : World} {r : Option Nat} (h : w.grownBy w' r) (hr : ∀ k, r = some k → ¬ Y k) : Kp Y w w' :=
  ⟨h.os, h.tape, h.output, h.size, fun k hk hy => h.block k hk (fun e => hr k e.symm hy)⟩
theorem Kp.drewN (Y : Nat → Prop) (w : World) (n : Nat) : Kp Y w (w.drewN n) := ⟨rfl, rfl, rfl, Nat.le_refl _, fun _ _ _ => rfl⟩
theorem Kp.drew (Y : Nat → Prop) (w : World) : Kp Y w w.drew := ⟨rfl, rfl, rfl, Nat.le_refl _, fun _ _ _ => rfl⟩
theorem Kp.alloc (Y : Nat → Prop) (w : World) (o : Obj) : Kp Y w (w.alloc o) := Kp.of_grown (World.grownBy_alloc w o none) (fun _ h => by cases h)
theorem Kp.set {Y : Nat → Prop} (w : World) (b o : Nat) (v : Value) (h : ¬ Y b) : Kp Y w (w.setCell ⟨b, o, none⟩ v) :=
  Kp.of_grown (grown_set w b o v) (fun k e => by cases e; exact h)
theorem Kp.at {Y : Nat → Prop} {w w' : World} (h : Kp Y w w') {k : Nat} {x : Obj} (hk : w.heap[k]? = some x) (hy : Y k) : w'.heap[k]? = some x := (h.block k (heap_lt hk) hy).trans hk

structure Pat where
  kind : Int
  set : ByteArray
  subs : List Nat

structure Lns where
  kind : Int
  a : Nat
  b : Nat
  at_ : Nat
  view : ByteArray
  dflt : ByteArray
  s : Nat
  v : Nat

structure St where
  i : Nat
  bad : Bool
  wn : Int
  out : ByteArray
  P : List Pat
  L : List Lns

def nums (l : List Nat) : List Value := l.map fun n : Nat => .int .i64 (n : Int)

theorem nums_length (l : List Nat) : (nums l).length = l.length := by simp [nums]




theorem own_same {w w' : World} {base : Nat} {e : TypeId} {size : Nat} {v : Value} {n : Nat} {xs : List Value} (h : w.ownsRow base e size v n xs) (hk : ∀ k, v.ownBlock = some k → w'.heap[k]? = w.heap[k]?) : w'.ownsRow base e size v n xs := by
  refine ⟨h.1, ?_⟩
  rcases h.2 with h2 | ⟨g, cap, cur, hv, hg, hh, r⟩
  · exact Or.inl h2
  · exact Or.inr ⟨g, cap, cur, hv, hg, by rw [hk g (by rw [hv]; rfl)]; exact hh, r⟩

theorem own_lt {w : World} {base : Nat} {e : TypeId} {size : Nat} {v : Value} {n : Nat} {xs : List Value} (h : w.ownsRow base e size v n xs) (k : Nat) (hk : v.ownBlock = some k) : k < w.heap.size := (h.lt k hk).2

theorem own_ty {w : World} {base base' : Nat} {e e' : TypeId} {size size' : Nat} {v v' : Value} {n n' : Nat} {xs xs' : List Value} (h : w.ownsRow base e size v n xs) (h' : w.ownsRow base' e' size' v' n' xs') (hne : e ≠ e') (k : Nat) (hk : v.ownBlock = some k) : v'.ownBlock ≠ some k := by
  rcases h.2 with ⟨h1, _⟩ | ⟨g, cap, cur, h1, _, h2, _⟩
  · subst h1; cases hk
  · subst h1
    simp [Value.ownBlock] at hk
    subst hk
    exact own_ne h2 h' hne






section
variable {w : World} {Y : Nat → Prop} {b : Nat} {s : ByteArray} {st : St}














theorem own_one {base : Nat} {e : TypeId} {size : Nat} {v : Value} {n : Nat} {xs : List Value} (h : w.ownsRow base e size v n xs) : v.oneCell' = true := by
  rcases h.2 with ⟨h1, _⟩ | ⟨g, cap, cur, h1, _⟩ <;> subst h1 <;> rfl


end

end Go.Proofs.YtlljggefbngkeaaGreatDoor

namespace Go.Proofs.YtlljggefbngkeaaGreatDoor
open Go.RowKit

theorem pk_eq (s : ByteArray) (i : Nat) : peekI s i false = pk s i := rfl









/-- the text of a list of bytes -/
def txt (l : List UInt8) : ByteArray := ⟨l.toArray⟩
theorem txt_size (l : List UInt8) : (txt l).size = l.length := by simp [txt, ByteArray.size]

theorem pk_sign_lt {s : ByteArray} {i : Nat} (h : signI (pk s i) = true) : i < s.size := by
  rcases Nat.lt_or_ge i s.size with h1 | h1
  · exact h1
  · exfalso
    rw [← pk_eq, peekI_end s i false (by omega)] at h
    revert h; decide

theorem pk_lt {s : ByteArray} {i : Nat} (h : pk s i ≠ 0) : i < s.size := (lt_of_peek s i false h).1

theorem signI_bd {c : Int} (h : signI c = true) : 0 < c ∧ c ≤ 255 := by
  simp [signI, withinB, hasL] at h
  omega

theorem gSpans_no (s : ByteArray) (n i : Nat) (l : List UInt8) (h : signI (pk s i) = false) : gSpans s (n + 1) i l = .err i := by
  simp [gSpans, h]
theorem gSpans_one (s : ByteArray) (n i : Nat) (l : List UInt8) (h : signI (pk s i) = true) (h1 : pk s (i + 1) ≠ 45) :
    gSpans s (n + 1) i l = if pk s (i + 1) = 93 then .ok (l ++ upto (pk s i) (pk s i)) (i + 2) else gSpans s n (i + 1) (l ++ upto (pk s i) (pk s i)) := by
  rw [gSpans, if_pos h, if_neg h1]
theorem gSpans_two (s : ByteArray) (n i : Nat) (l : List UInt8) (h : signI (pk s i) = true) (h1 : pk s (i + 1) = 45) (h2 : signI (pk s (i + 2)) = true) (h3 : pk s i ≤ pk s (i + 2)) :
    gSpans s (n + 1) i l = if pk s (i + 3) = 93 then .ok (l ++ upto (pk s i) (pk s (i + 2))) (i + 4) else gSpans s n (i + 3) (l ++ upto (pk s i) (pk s (i + 2))) := by
  rw [gSpans, if_pos h, if_pos h1, if_pos (by simp [h2, h3])]


end Go.Proofs.YtlljggefbngkeaaGreatDoor

namespace Go.Proofs.YtlljggefbngkeaaGreatDoor
open Go.RowKit





theorem txt_some (l : List UInt8) (h : l ≠ []) : ((txt l).toList.isEmpty) = false := by
  rw [txt, ByteArray.toList_mk]
  cases l with
  | nil => exact absurd rfl h
  | cons x l => rfl
theorem txt_none : ((txt []).toList.isEmpty) = true := by
  rw [txt, ByteArray.toList_mk]; rfl







end Go.Proofs.YtlljggefbngkeaaGreatDoor

namespace Go.Proofs.YtlljggefbngkeaaGreatDoor
open Go.RowKit




/-! facts of the grammar's functions, an arm each -/
section
variable (s : ByteArray) (n i : Nat)
theorem gBase_class (h : pk s i = 91) : gBase s (n + 1) i = (gSpans s n (i + 1) []).map .chr := by rw [gBase, if_pos h]
theorem gBase_group (h : pk s i = 40) : gBase s (n + 1) i = (gAlts s n (i + 1)).bind fun l j => if pk s j = 41 then .ok (.alt l) (j + 1) else .err j := by
  rw [gBase, if_neg (by rw [h]; decide), if_pos h]
theorem gBase_sign (h : signI (pk s i) = true) : gBase s (n + 1) i = .ok (.chr [UInt8.ofNat (pk s i).toNat]) (i + 1) := by
  rw [gBase, if_neg (by intro e; rw [e] at h; revert h; decide), if_neg (by intro e; rw [e] at h; revert h; decide), if_pos h]
end




end Go.Proofs.YtlljggefbngkeaaGreatDoor

namespace Go.Proofs.YtlljggefbngkeaaGreatDoor
open Go.RowKit





theorem pk_bd (s : ByteArray) (i : Nat) : 0 ≤ pk s i ∧ pk s i ≤ 255 := peekI_bd s i false





end Go.Proofs.YtlljggefbngkeaaGreatDoor

namespace Go.Proofs.YtlljggefbngkeaaGreatDoor
open Go.RowKit
















theorem Tryz.infoInt : (Tryz.prog.info? 3).map (fun i => (i.zero, i.size, i.bytes)) = some (some (.int .i64 0), 1, 8) := by kernel_rfl


end Go.Proofs.YtlljggefbngkeaaGreatDoor

namespace Go.Proofs.YtlljggefbngkeaaGreatDoor
open Go.RowKit



/-- a row of n truths -/
def BR (w : World) (g n c : Nat) (f : Nat → Bool) : Prop := w.ownsRow 0 4 1 (.slice (some ⟨g, 0, none⟩) n c) n ((List.range n).map fun j => .bool (f j))

/-- nothing that was there has turned -/
def K0 (w w' : World) : Prop := Kp (fun _ => True) w w'

theorem K0.refl (w : World) : K0 w w := Kp.refl _ _
theorem K0.trans {a b c : World} (h : K0 a b) (k : K0 b c) : K0 a c := Kp.trans h k
theorem K0.heap {w w' : World} (h : K0 w w') {k : Nat} (hk : k < w.heap.size) : w'.heap[k]? = w.heap[k]? := h.block k hk trivial
theorem K0.kp {w w' : World} (h : K0 w w') (Y : Nat → Prop) : Kp Y w w' := Kp.mono h (fun _ _ _ => trivial)

theorem BR.cell {w : World} {g n c : Nat} {f : Nat → Bool} (h : BR w g n c f) (k : Nat) (hk : k < n) : w.cell? ⟨g, k, none⟩ = some (.bool (f k)) := by
  rw [World.ownsRow.cellAt h k (by omega)]
  simp [hk]
theorem BR.fz {w : World} {g n c : Nat} {f : Nat → Bool} (h : BR w g n c f) (k : Nat) : w.frozen? ⟨g, k, none⟩ = false := World.ownsRow.frozenAt h k
theorem BR.lt {w : World} {g n c : Nat} {f : Nat → Bool} (h : BR w g n c f) : g < w.heap.size := own_lt h g rfl
theorem BR.kept {w w' : World} {g n c : Nat} {f : Nat → Bool} (h : BR w g n c f) (hk : w'.heap[g]? = w.heap[g]?) : BR w' g n c f := own_same h (fun k e => by
  have : g = k := by simpa [Value.ownBlock] using e
  subst this; exact hk)

def upd (f : Nat → Bool) (k : Nat) (x : Bool) (j : Nat) : Bool := if j = k then x else f j

theorem BR.set {w : World} {g n c : Nat} {f : Nat → Bool} (h : BR w g n c f) (k : Nat) (x : Bool) : BR (w.setCell ⟨g, k, none⟩ (.bool x)) g n c (upd f k x) := by
  have := World.ownsRow.stored h k (.bool x)
  unfold BR
  have e : ((List.range n).map fun j => Value.bool (f j)).set k (.bool x) = (List.range n).map fun j => Value.bool (upd f k x j) := by
    apply List.ext_getElem?
    intro j
    simp only [List.getElem?_set, List.getElem?_map]
    by_cases hj : j < n
    · by_cases hk : k = j
      · subst hk; simp [hj, upd]
      · simp [hj, hk, upd, Ne.symm hk]
    · by_cases hk : k = j
      · subst hk; simp [hj]
      · simp [hj, hk]
  rw [e] at this
  exact this.1

theorem K0.set {w wv : World} (h : K0 w wv) {b : Nat} (hb : w.heap.size ≤ b) (o : Nat) (v : Value) : K0 w (wv.setCell ⟨b, o, none⟩ v) := by
  refine ⟨h.os, h.tape, h.output, by simpa [World.setCell] using h.size, fun k hk _ => ?_⟩
  rw [Below.heap_setCell _ _ _ _ (by show k ≠ b; omega)]
  exact h.heap hk



theorem BR.made {w : World} {g n c : Nat} (h : w.ownsRow 0 4 1 (.slice (some ⟨g, 0, none⟩) n c) n (madeCells #[Value.bool false] n).toList) : BR w g n c fun _ => false := by
  unfold BR
  rw [toList_madeCells_one] at h
  rw [show (List.range n).map (fun _ => Value.bool false) = List.replicate n (Value.bool false) from by rw [List.map_const']; simp]
  exact h


end Go.Proofs.YtlljggefbngkeaaGreatDoor
