import Derived.Test.YtlljggefbngkeaaGreatDoorU23
import Derived.Test.YtlljggefbngkeaaGreatDoorU01
import Derived.Test.YtlljggefbngkeaaGreatDoorU13
import Derived.Test.YtlljggefbngkeaaGreatDoorU16
import Derived.Test.YtlljggefbngkeaaGreatDoorU15
import Derived.Deep.RegionLaw
namespace Go.Proofs.YtlljggefbngkeaaGreatDoor
open Go.RowKit

theorem sub_zero_take (d : List UInt8) (j : Nat) : sub d 0 j = d.take j := by simp [sub]
theorem sub_end_drop (d : List UInt8) (i : Nat) : sub d i d.length = d.drop i := by
  unfold sub
  rw [List.take_of_length_le (by rw [List.length_drop]; exact Nat.le_refl _)]

/-- a text that is parted twice: at two places -/
theorem twice_places {ta tb : PT} {d : List UInt8} : Twice ta tb d ↔ ∃ i j, i < j ∧ j ≤ d.length ∧ M ta (sub d 0 i) ∧ M tb (sub d i d.length) ∧ M ta (sub d 0 j) ∧ M tb (sub d j d.length) := by
  constructor
  · rintro ⟨w, u1, u2, rfl, hu, h1, h2, h3, h4⟩
    have hl : 0 < u1.length := List.length_pos_iff.2 hu
    have e1 : (w ++ (u1 ++ u2)).take w.length = w := by simp
    have e2 : (w ++ (u1 ++ u2)).drop w.length = u1 ++ u2 := by simp
    have e3 : (w ++ (u1 ++ u2)).take (w ++ u1).length = w ++ u1 := by rw [← List.append_assoc]; exact List.take_left ..
    have e4 : (w ++ (u1 ++ u2)).drop (w ++ u1).length = u2 := by rw [← List.append_assoc]; exact List.drop_left ..
    refine ⟨w.length, (w ++ u1).length, by simp; omega, by simp, ?_, ?_, ?_, ?_⟩
    · rw [sub_zero_take, e1]; exact h1
    · rw [sub_end_drop, e2]; exact h2
    · rw [sub_zero_take, e3]; exact h3
    · rw [sub_end_drop, e4]; exact h4
  · rintro ⟨i, j, hij, hj, h1, h2, h3, h4⟩
    have a1 := sub_app d 0 i d.length (Nat.zero_le _) (by omega)
    have a2 := sub_app d i j d.length (by omega) hj
    have a3 := sub_app d 0 i j (Nat.zero_le _) (by omega)
    refine ⟨sub d 0 i, sub d i j, sub d j d.length, ?_, fun e => ?_, h1, by rw [a2]; exact h2, by rw [a3]; exact h3, h4⟩
    · rw [a2, a1, sub_all]
    · have := sub_len d i j hj
      rw [e] at this
      simp at this
      omega

section
variable {t : PT} {d : List UInt8} {E : Nat → Nat → Bool}

/-- the texts of a way -/
def pcs (d : List UInt8) : Nat → List Nat → List (List UInt8)
  | _, [] => []
  | j, i :: l => pcs d i l ++ [sub d i j]

theorem pt_pcs (hE : ∀ i j, i < j → j ≤ d.length → (E i j = true ↔ M t (sub d i j))) : ∀ (l : List Nat) (j : Nat), j ≤ d.length → Pt E j l → (∀ x, x ∈ pcs d j l → M t x) ∧ (pcs d j l).flatten = sub d 0 j
  | [], j, hj, h => by
    have : j = 0 := h
    subst this
    rw [pcs]
    exact ⟨fun x hx => (by cases hx), by rw [sub_self]; rfl⟩
  | i :: l, j, hj, h => by
    obtain ⟨h1, h2, h3⟩ := h
    obtain ⟨q1, q2⟩ := pt_pcs hE l i (by omega) h3
    rw [pcs]
    refine ⟨fun x hx => ?_, ?_⟩
    · rcases List.mem_append.1 hx with hx | hx
      · exact q1 x hx
      · rw [List.mem_singleton] at hx
        subst hx
        exact (hE i j h1 hj).1 h2
    · rw [List.flatten_append, q2, List.flatten_cons, List.flatten_nil, List.append_nil]
      exact sub_app d 0 i j (Nat.zero_le _) (by omega)

theorem pcs_inj : ∀ (l l' : List Nat) (j : Nat), j ≤ d.length → Pt E j l → Pt E j l' → pcs d j l = pcs d j l' → l = l'
  | [], [], _, _, _, _, _ => rfl
  | [], i :: l', j, _, h, h', _ => by
    have : j = 0 := h
    have := h'.1
    omega
  | i :: l, [], j, _, h, h', _ => by
    have : j = 0 := h'
    have := h.1
    omega
  | i :: l, i' :: l', j, hj, h, h', e => by
    rw [pcs, pcs] at e
    obtain ⟨e1, e2⟩ := List.append_inj' e rfl
    injection e2 with e2 _
    have n1 := sub_len d i j hj
    have n2 := sub_len d i' j hj
    rw [e2] at n1
    have hi := h.1
    have hi' := h'.1
    have : i = i' := by omega
    subst this
    rw [pcs_inj l l' i (by omega) h.2.2 h'.2.2 e1]

/-- two ways to the end: rows of texts in two ways -/
theorem rows_of_pt (hE : ∀ i j, i < j → j ≤ d.length → (E i j = true ↔ M t (sub d i j))) (h : ∃ l l', l ≠ l' ∧ Pt E d.length l ∧ Pt E d.length l') : Rows2 t d := by
  obtain ⟨l, l', hn, h1, h2⟩ := h
  obtain ⟨a1, a2⟩ := pt_pcs hE l _ (Nat.le_refl _) h1
  obtain ⟨b1, b2⟩ := pt_pcs hE l' _ (Nat.le_refl _) h2
  rw [sub_all] at a2 b2
  exact ⟨_, _, fun e => hn (pcs_inj l l' _ (Nat.le_refl _) h1 h2 e), a1, b1, a2, b2⟩

/-- the places of a row of texts, its last text first -/
def plc : List (List UInt8) → List Nat
  | [] => []
  | _ :: r => r.reverse.flatten.length :: plc r

theorem pt_plc (hE : ∀ i j, i < j → j ≤ d.length → (E i j = true ↔ M t (sub d i j))) (h0 : ¬ M t []) : ∀ (r : List (List UInt8)), (∀ x, x ∈ r → M t x) → r.reverse.flatten.length ≤ d.length → d.take r.reverse.flatten.length = r.reverse.flatten → Pt E r.reverse.flatten.length (plc r) ∧ pcs d r.reverse.flatten.length (plc r) = r.reverse
  | [], _, _, _ => ⟨rfl, rfl⟩
  | x :: r, hx, hl, ht => by
    have hf : (x :: r).reverse.flatten = r.reverse.flatten ++ x := by simp
    rw [hf] at hl ht ⊢
    have hlen : (r.reverse.flatten ++ x).length = r.reverse.flatten.length + x.length := List.length_append
    rw [hlen] at hl ht ⊢
    have hx0 : 0 < x.length := List.length_pos_iff.2 (fun e => h0 (e ▸ hx x (List.mem_cons_self ..)))
    have ht' : d.take r.reverse.flatten.length = r.reverse.flatten := by
      have := congrArg (List.take r.reverse.flatten.length) ht
      rw [List.take_take, Nat.min_eq_left (by omega), List.take_left] at this
      exact this
    have hs : sub d r.reverse.flatten.length (r.reverse.flatten.length + x.length) = x := by
      have a := sub_app d 0 r.reverse.flatten.length (r.reverse.flatten.length + x.length) (Nat.zero_le _) (by omega)
      rw [sub_zero_take, sub_zero_take, ht, ht'] at a
      exact List.append_cancel_left a
    obtain ⟨q1, q2⟩ := pt_plc hE h0 r (fun y hy => hx y (List.mem_cons_of_mem _ hy)) (by omega) ht'
    rw [plc]
    refine ⟨⟨by omega, (hE _ _ (by omega) hl).2 (by rw [hs]; exact hx x (List.mem_cons_self ..)), q1⟩, ?_⟩
    rw [pcs, q2, hs]
    simp

/-- a row of texts in two ways: two ways to the end -/
theorem pt_of_rows (hE : ∀ i j, i < j → j ≤ d.length → (E i j = true ↔ M t (sub d i j))) (h0 : ¬ M t []) (h : Rows2 t d) : ∃ l l', l ≠ l' ∧ Pt E d.length l ∧ Pt E d.length l' := by
  obtain ⟨r, r', hn, h1, h2, e1, e2⟩ := h
  have key : ∀ r : List (List UInt8), (∀ x, x ∈ r → M t x) → r.flatten = d → Pt E d.length (plc r.reverse) ∧ pcs d d.length (plc r.reverse) = r := fun r hr e => by
    have hrr : r.reverse.reverse.flatten = d := by rw [List.reverse_reverse]; exact e
    have := pt_plc hE h0 r.reverse (fun x hx => hr x (List.mem_reverse.1 hx)) (by rw [hrr]; exact Nat.le_refl _) (by rw [hrr, List.take_length])
    rw [hrr, List.reverse_reverse] at this
    exact this
  obtain ⟨a1, a2⟩ := key r h1 e1
  obtain ⟨b1, b2⟩ := key r' h2 e2
  exact ⟨_, _, fun e => hn (by rw [← a2, ← b2, e]), a1, b1⟩

end
end Go.Proofs.YtlljggefbngkeaaGreatDoor

namespace Go.Proofs.YtlljggefbngkeaaGreatDoor
open Go.RowKit

/-! The witnesses of a node, as the reference finds them. -/

/-- in two ways a row of texts, none of them empty -/
def Ways2 (t : PT) (d : List UInt8) : Prop := ∃ E, Steps2 t d E ∧ ∃ l l', l ≠ l' ∧ Pt E d.length l ∧ Pt E d.length l'

/-- is the text a witness of the node? -/
def BWit : BT → List UInt8 → Prop
  | .two kd _ a b, u => if kd = 124 then M (bS a) u ∧ M (bS b) u else Twice (bS a) (bS b) u ∨ (if kd = 126 then Twice (bV b) (bV a) u else Twice (bV a) (bV b) u)
  | .star _ a, u => if u = [] then M (bS a) [] ∨ M (bV a) [] else Ways2 (bS a) u ∨ Ways2 (bV a) u
  | .pat _, _ => False
  | .key _ _ _, _ => False

/-- a node's place -/
def bat : BT → Option Nat
  | .two _ p _ _ => some p
  | .star p _ => some p
  | .pat _ => none
  | .key _ _ _ => none

/-- what parts counts -/
theorem parts_two {ta tb : PT} {d : List UInt8} {q : Nat → Bool} (hq : Parted ta tb d q) : 1 < min (cnt q (d.length + 1)) 2 ↔ Twice ta tb d := by
  have h1 : 1 < min (cnt q (d.length + 1)) 2 ↔ 2 ≤ cnt q (d.length + 1) := by omega
  rw [h1, cnt_two, twice_places]
  constructor
  · rintro ⟨i, j, a, b, c, e⟩
    exact ⟨i, j, a, by omega, ((hq i).1 c).1, ((hq i).1 c).2, ((hq j).1 e).1, ((hq j).1 e).2⟩
  · rintro ⟨i, j, a, b, c1, c2, e1, e2⟩
    exact ⟨i, j, a, by omega, (hq i).2 ⟨c1, c2⟩, (hq j).2 ⟨e1, e2⟩⟩
/-- what ways counts -/
theorem ways_two {t : PT} {d : List UInt8} {E : Nat → Nat → Bool} (hE : Steps2 t d E) : 1 < wtab E d.length d.length ↔ Ways2 t d := by
  have h1 : 1 < wtab E d.length d.length ↔ 2 ≤ wtab E d.length d.length := by omega
  rw [h1, wtab_two]
  constructor
  · intro h; exact ⟨E, hE, h⟩
  · rintro ⟨E', hE', h⟩
    have : E' = E := funext fun i => funext fun j => Bool.eq_iff_iff.2 ((hE' i j).trans (hE i j).symm)
    rw [← this]; exact h

end Go.Proofs.YtlljggefbngkeaaGreatDoor

namespace Go.Proofs.YtlljggefbngkeaaGreatDoor
open Go.RowKit

/-- the lenses of a glass, as they lie in memory -/
def LCells (w : World) (gl : Nat) (L : List Lns) : Prop := ∀ (a : Nat) (x : Lns), L[a]? = some x → ∀ j, j < 8 → w.cell? ⟨gl, a * 8 + j, none⟩ = (lnsCells x)[j]?

section
variable {w : World} {g : Nat} {P : List Pat} {L : List Lns} {r : Nat} {f : ByteArray} {gp cap gl cl : Nat} {xs : List Value}

theorem GM.c0 (h : GM w g P L r f gp cap gl cl xs) : w.cell? ⟨g, 0, none⟩ = some (.slice (some ⟨gp, 0, none⟩) P.length cap) := by rw [cellOf h.blk]; rfl
theorem GM.c1 (h : GM w g P L r f gp cap gl cl xs) : w.cell? ⟨g, 1, none⟩ = some (.slice (some ⟨gl, 0, none⟩) L.length cl) := by rw [cellOf h.blk]; rfl
theorem GM.c2 (h : GM w g P L r f gp cap gl cl xs) : w.cell? ⟨g, 2, none⟩ = some (.int .i64 r) := by rw [cellOf h.blk]; rfl
theorem GM.lt (h : GM w g P L r f gp cap gl cl xs) : g < w.heap.size := heap_lt h.blk
theorem GM.ll (h : GM w g P L r f gp cap gl cl xs) : gl < w.heap.size := own_lt h.own gl rfl
theorem GM.cells (h : GM w g P L r f gp cap gl cl xs) : LCells w gl L := by
  intro a x hx j hj
  have ha := (List.getElem?_eq_some_iff.1 hx).1
  rw [World.ownsRow.cellAt h.own (a * 8 + j) (by omega)]
  exact lns_at L a x j hx hj
end

/-- what Wrong answers -/
def WrPost (w : World) (c : BT) (d : ByteArray) (e : Ending) (w' : World) : Prop := ∃ x : Bool, e = .returned (.bool x) ∧ (x = true ↔ BWit c d.data.toList) ∧ K0 w w'

def lobj (x : Lns) : Obj := .cells #[.int .u8 x.kind, .int .i64 x.a, .int .i64 x.b, .int .i64 x.at_, .string x.view, .string x.dflt, .int .i64 x.s, .int .i64 x.v] 35 (0, 0)

/-- the eight cells of a lens -/
theorem GM.eight {w : World} {g : Nat} {P : List Pat} {L : List Lns} {r : Nat} {f : ByteArray} {gp cap gl cl : Nat} {xs : List Value} (h : GM w g P L r f gp cap gl cl xs) {a : Nat} {x : Lns} (hx : L[a]? = some x) :
    w.cell? ⟨gl, a * 8, none⟩ = some (.int .u8 x.kind) ∧ w.cell? ⟨gl, a * 8 + 1, none⟩ = some (.int .i64 x.a) ∧ w.cell? ⟨gl, a * 8 + 2, none⟩ = some (.int .i64 x.b) ∧ w.cell? ⟨gl, a * 8 + 3, none⟩ = some (.int .i64 x.at_) ∧
    w.cell? ⟨gl, a * 8 + 4, none⟩ = some (.string x.view) ∧ w.cell? ⟨gl, a * 8 + 5, none⟩ = some (.string x.dflt) ∧ w.cell? ⟨gl, a * 8 + 6, none⟩ = some (.int .i64 x.s) ∧ w.cell? ⟨gl, a * 8 + 7, none⟩ = some (.int .i64 x.v) :=
  ⟨h.cells a x hx 0 (by omega), h.cells a x hx 1 (by omega), h.cells a x hx 2 (by omega), h.cells a x hx 3 (by omega), h.cells a x hx 4 (by omega), h.cells a x hx 5 (by omega), h.cells a x hx 6 (by omega), h.cells a x hx 7 (by omega)⟩

theorem one_at (w : World) (x : Obj) : ∃ w1, w.alloc x = w1 ∧ w1.heap.size = w.heap.size + 1 ∧ w1.heap[w.heap.size]? = some x ∧ K0 w w1 := ⟨_, rfl, by simp, heap_alloc_new w x, Kp.alloc _ _ _⟩
theorem one_drew (w : World) (x : Obj) : ∃ w1, (w.alloc x).drew = w1 ∧ w1.heap.size = w.heap.size + 1 ∧ w1.heap[w.heap.size]? = some x ∧ K0 w w1 :=
  ⟨_, rfl, show (w.alloc x).heap.size = _ by simp, heap_alloc_new w x, Kp.trans (Kp.alloc _ _ _) (Kp.drew _ _)⟩

set_option maxRecDepth 100000 in
set_option maxHeartbeats 3200000 in
theorem wrong_row {w : World} {g : Nat} {P : List Pat} {L : List Lns} {r : Nat} {f : ByteArray} {gp cap gl cl : Nat} {xs : List Value} {p k : Nat} {a b : BT} {d : ByteArray} (hG : GM w g P L r f gp cap gl cl xs) (hPl : P.length ≤ 100000) (hc : LN P L (.two 114 p a b) k) (hd : d.size ≤ 200000000) :
    Calls Tryz.prog 13 #[.pointer (some ⟨g, 0, none⟩), .int .i64 k, .string d] w fun e w' => WrPost w (.two 114 p a b) d e w' := by
  obtain ⟨l, hl, hl1, hlk, _, hat, hla, hlb⟩ := hc
  obtain ⟨x, hx, hx1⟩ := hla.node
  obtain ⟨y, hy, hy1⟩ := hlb.node
  have hk0 := (List.getElem?_eq_some_iff.1 hl).1
  have hk1 := (List.getElem?_eq_some_iff.1 hx).1
  have hk2 := (List.getElem?_eq_some_iff.1 hy).1
  clear hl1 hat hla hlb
  rcases l with ⟨lk, la, lb, lp, lvw, ldf, ls, lv⟩
  obtain rfl : lk = 114 := hlk
  simp only at hx hy hk1 hk2
  have hgl := hG.lt
  have hgll := hG.ll
  obtain ⟨q1, hq1⟩ := parted_ex (bS a) (bS b) d.data.toList
  obtain ⟨q2, hq2⟩ := parted_ex (bV a) (bV b) d.data.toList
  have HA := hide (fun (W : World) (hk : K0 w W) => gparts hq1 (hG.k0 hk).c0 (hG.k0 hk).pm hPl hx1.2.1 hx1.1.2.2.1 hy1.2.1 hy1.1.2.2.1 hd)
  have HB := hide (fun (W : World) (hk : K0 w W) => gparts hq2 (hG.k0 hk).c0 (hG.k0 hk).pm hPl hx1.2.2 hx1.1.2.2.2 hy1.2.2 hy1.1.2.2.2 hd)
  have HQ := hide (And.intro (parts_two hq1) (parts_two hq2))
  have HG := hide (And.intro hG (And.intro hx hy))
  have hki : (k : Int) < (L.length : Int) := by omega
  have hai : (la : Int) < (L.length : Int) := by omega
  have hbi : (lb : Int) < (L.length : Int) := by omega
  have c1 := hG.c1
  obtain ⟨l0, l1, l2, l3, l4, l5, l6, l7⟩ := hG.eight hl
  simp only at l0 l1 l2 l3 l4 l5 l6 l7
  clear hl hx hy hq1 hq2 hG hx1 hy1 hPl
  go_enter Tryz.func13, Tryz.ntmps13
  go_wp2_with fail
  obtain ⟨w1, hw1, hs1, b0, hk1'⟩ := one_at w (lobj ⟨114, la, lb, lp, lvw, ldf, ls, lv⟩)
  unfold lobj at hw1 b0
  rw [hw1]
  have m1 := cellOf b0 1
  simp at m1
  obtain ⟨x0, x1, x2, x3, x4, x5, x6, x7⟩ := ((unhide HG).1.k0 hk1').eight (unhide HG).2.1
  have d1 := ((unhide HG).1.k0 hk1').c1
  clear hw1 c1 l0 l1 l2 l3 l4 l5 l6 l7
  go_region
  obtain ⟨w2, hw2, hs2, b1, hk2'⟩ := one_drew w1 (lobj x)
  unfold lobj at hw2 b1
  rw [hw2]
  have a0 := (hk2'.heap (heap_lt b0)).trans b0
  have m2 := cellOf a0 2
  simp at m2
  have hk2'' := hk1'.trans hk2'
  obtain ⟨y0, y1, y2, y3, y4, y5, y6, y7⟩ := ((unhide HG).1.k0 hk2'').eight (unhide HG).2.2
  have d2 := ((unhide HG).1.k0 hk2'').c1
  have z1 : g < w2.heap.size := by omega
  have z2 : gl < w2.heap.size := by omega
  have z3 : w.heap.size < w2.heap.size := by omega
  have HS := hide (And.intro hs1 hs2)
  clear hs1 hs2
  clear hw2 d1 x0 x1 x2 x3 x4 x5 x6 x7 m1 b0
  go_wp2_with fail
  go_region
  obtain ⟨w3, hw3, hs3, b2, hk3'⟩ := one_drew w2 (lobj y)
  unfold lobj at hw3 b2
  rw [hw3]
  obtain ⟨hs1, hs2⟩ := unhide HS
  have a1 := (hk3'.heap (heap_lt a0)).trans a0
  have a2 := (hk3'.heap (heap_lt b1)).trans b1
  have hk3 := hk2''.trans hk3'
  rw [hs1] at a2
  rw [hs2, hs1] at b2
  have e1 := cellOf a2 6
  have e2 := cellOf b2 6
  simp at e1 e2
  clear hw3 d2 y0 y1 y2 y3 y4 y5 y6 y7 m2 a0 b1
  go_wp2_with fail
  refine (unhide HA _ hk3).mono ?_
  rintro e w4 ⟨rfl, hk4⟩
  have d0 := (hk4.heap (heap_lt a1)).trans a1
  have d1 := (hk4.heap (heap_lt a2)).trans a2
  have d2 := (hk4.heap (heap_lt b2)).trans b2
  have hk4' := hk3.trans hk4
  clear e1 e2
  have e1 := cellOf d1 7
  have e2 := cellOf d2 7
  have hs4 := hk4.size
  clear a1 a2 b2
  simp at e1 e2
  go_wp2_with fail
  refine (unhide HB _ hk4').mono ?_
  rintro e w5 ⟨rfl, hk5⟩
  have g0 := (hk5.heap (heap_lt d0)).trans d0
  have e0 := cellOf g0 0
  simp at e0
  clear d0 d1 d2 e1 e2
  obtain ⟨u1, u2⟩ := unhide HQ
  have hds : d.data.toList.length = d.size := Array.length_toList
  rw [hds] at u1 u2
  generalize min (cnt q1 (d.size + 1)) 2 = n1 at *
  generalize min (cnt q2 (d.size + 1)) 2 = n2 at *
  have hB : (1 < n1 ∨ 1 < n2) ↔ BWit (.two 114 p a b) d.data.toList := by
    rw [BWit, if_neg (by decide), if_neg (by decide), u1, u2]
  have HB2 := hide hB
  clear hB u1 u2
  by_cases h1 : 1 < n1
  · have v1 : decide ((1 : Int) < (n1 : Int)) = true := by simp; omega
    go_wp2
    go_ret
    exact ⟨true, rfl, ⟨fun _ => (unhide HB2).1 (.inl h1), fun _ => rfl⟩, hk4'.trans hk5⟩
  · have v1 : decide ((1 : Int) < (n1 : Int)) = false := by simp; omega
    by_cases h2 : 1 < n2
    · have v2 : decide ((1 : Int) < (n2 : Int)) = true := by simp; omega
      go_wp2
      go_ret
      exact ⟨true, rfl, ⟨fun _ => (unhide HB2).1 (.inr h2), fun _ => rfl⟩, hk4'.trans hk5⟩
    · have v2 : decide ((1 : Int) < (n2 : Int)) = false := by simp; omega
      go_wp2
      go_ret
      exact ⟨false, rfl, ⟨fun h => (by cases h), fun h => absurd ((unhide HB2).2 h) (by omega)⟩, hk4'.trans hk5⟩

end Go.Proofs.YtlljggefbngkeaaGreatDoor

namespace Go.Proofs.YtlljggefbngkeaaGreatDoor
open Go.RowKit

set_option maxRecDepth 100000 in
set_option maxHeartbeats 3200000 in
theorem wrong_swap {w : World} {g : Nat} {P : List Pat} {L : List Lns} {r : Nat} {f : ByteArray} {gp cap gl cl : Nat} {xs : List Value} {p k : Nat} {a b : BT} {d : ByteArray} (hG : GM w g P L r f gp cap gl cl xs) (hPl : P.length ≤ 100000) (hc : LN P L (.two 126 p a b) k) (hd : d.size ≤ 200000000) :
    Calls Tryz.prog 13 #[.pointer (some ⟨g, 0, none⟩), .int .i64 k, .string d] w fun e w' => WrPost w (.two 126 p a b) d e w' := by
  obtain ⟨l, hl, hl1, hlk, _, hat, hla, hlb⟩ := hc
  obtain ⟨x, hx, hx1⟩ := hla.node
  obtain ⟨y, hy, hy1⟩ := hlb.node
  have hk0 := (List.getElem?_eq_some_iff.1 hl).1
  have hk1 := (List.getElem?_eq_some_iff.1 hx).1
  have hk2 := (List.getElem?_eq_some_iff.1 hy).1
  clear hl1 hat hla hlb
  rcases l with ⟨lk, la, lb, lp, lvw, ldf, ls, lv⟩
  obtain rfl : lk = 126 := hlk
  simp only at hx hy hk1 hk2
  have hgl := hG.lt
  have hgll := hG.ll
  obtain ⟨q1, hq1⟩ := parted_ex (bS a) (bS b) d.data.toList
  obtain ⟨q2, hq2⟩ := parted_ex (bV a) (bV b) d.data.toList
  obtain ⟨q3, hq3⟩ := parted_ex (bV b) (bV a) d.data.toList
  have HA := hide (fun (W : World) (hk : K0 w W) => gparts hq1 (hG.k0 hk).c0 (hG.k0 hk).pm hPl hx1.2.1 hx1.1.2.2.1 hy1.2.1 hy1.1.2.2.1 hd)
  have HB := hide (fun (W : World) (hk : K0 w W) => gparts hq2 (hG.k0 hk).c0 (hG.k0 hk).pm hPl hx1.2.2 hx1.1.2.2.2 hy1.2.2 hy1.1.2.2.2 hd)
  have HC := hide (fun (W : World) (hk : K0 w W) => gparts hq3 (hG.k0 hk).c0 (hG.k0 hk).pm hPl hy1.2.2 hy1.1.2.2.2 hx1.2.2 hx1.1.2.2.2 hd)
  have HQ := hide (And.intro (parts_two hq1) (parts_two hq3))
  have HG := hide (And.intro hG (And.intro hx hy))
  have hki : (k : Int) < (L.length : Int) := by omega
  have hai : (la : Int) < (L.length : Int) := by omega
  have hbi : (lb : Int) < (L.length : Int) := by omega
  have c1 := hG.c1
  obtain ⟨l0, l1, l2, l3, l4, l5, l6, l7⟩ := hG.eight hl
  simp only at l0 l1 l2 l3 l4 l5 l6 l7
  clear hl hx hy hq1 hq2 hq3 hG hx1 hy1 hPl
  go_enter Tryz.func13, Tryz.ntmps13
  go_wp2_with fail
  obtain ⟨w1, hw1, hs1, b0, hk1'⟩ := one_at w (lobj ⟨126, la, lb, lp, lvw, ldf, ls, lv⟩)
  unfold lobj at hw1 b0
  rw [hw1]
  have m1 := cellOf b0 1
  simp at m1
  obtain ⟨x0, x1, x2, x3, x4, x5, x6, x7⟩ := ((unhide HG).1.k0 hk1').eight (unhide HG).2.1
  have d1 := ((unhide HG).1.k0 hk1').c1
  clear hw1 c1 l0 l1 l2 l3 l4 l5 l6 l7
  go_region
  obtain ⟨w2, hw2, hs2, b1, hk2'⟩ := one_drew w1 (lobj x)
  unfold lobj at hw2 b1
  rw [hw2]
  have a0 := (hk2'.heap (heap_lt b0)).trans b0
  have m2 := cellOf a0 2
  simp at m2
  have hk2'' := hk1'.trans hk2'
  obtain ⟨y0, y1, y2, y3, y4, y5, y6, y7⟩ := ((unhide HG).1.k0 hk2'').eight (unhide HG).2.2
  have d2 := ((unhide HG).1.k0 hk2'').c1
  have z1 : g < w2.heap.size := by omega
  have z2 : gl < w2.heap.size := by omega
  have z3 : w.heap.size < w2.heap.size := by omega
  have HS := hide (And.intro hs1 hs2)
  clear hs1 hs2
  clear hw2 d1 x0 x1 x2 x3 x4 x5 x6 x7 m1 b0
  go_wp2_with fail
  go_region
  obtain ⟨w3, hw3, hs3, b2, hk3'⟩ := one_drew w2 (lobj y)
  unfold lobj at hw3 b2
  rw [hw3]
  obtain ⟨hs1, hs2⟩ := unhide HS
  have a1 := (hk3'.heap (heap_lt a0)).trans a0
  have a2 := (hk3'.heap (heap_lt b1)).trans b1
  have hk3 := hk2''.trans hk3'
  rw [hs1] at a2
  rw [hs2, hs1] at b2
  have e1 := cellOf a2 6
  have e2 := cellOf b2 6
  simp at e1 e2
  clear hw3 d2 y0 y1 y2 y3 y4 y5 y6 y7 m2 a0 b1
  go_wp2_with fail
  refine (unhide HA _ hk3).mono ?_
  rintro e w4 ⟨rfl, hk4⟩
  have d0 := (hk4.heap (heap_lt a1)).trans a1
  have d1 := (hk4.heap (heap_lt a2)).trans a2
  have d2 := (hk4.heap (heap_lt b2)).trans b2
  have hk4' := hk3.trans hk4
  clear e1 e2
  have e1 := cellOf d1 7
  have e2 := cellOf d2 7
  have hs4 := hk4.size
  clear a1 a2 b2
  simp at e1 e2
  go_wp2_with fail
  refine (unhide HB _ hk4').mono ?_
  rintro e w5 ⟨rfl, hk5⟩
  have g0 := (hk5.heap (heap_lt d0)).trans d0
  have g1 := (hk5.heap (heap_lt d1)).trans d1
  have g2 := (hk5.heap (heap_lt d2)).trans d2
  have hk5' := hk4'.trans hk5
  clear e1 e2
  have e0 := cellOf g0 0
  have e1 := cellOf g1 7
  have e2 := cellOf g2 7
  simp at e0 e1 e2
  clear d0 d1 d2
  go_wp2_with fail
  refine (unhide HC _ hk5').mono ?_
  rintro e w6 ⟨rfl, hk6⟩
  clear e0 e1 e2 g0 g1 g2
  obtain ⟨u1, u2⟩ := unhide HQ
  have hds : d.data.toList.length = d.size := Array.length_toList
  rw [hds] at u1 u2
  generalize min (cnt q1 (d.size + 1)) 2 = n1 at *
  generalize min (cnt q3 (d.size + 1)) 2 = n2 at *
  have hB : (1 < n1 ∨ 1 < n2) ↔ BWit (.two 126 p a b) d.data.toList := by
    rw [BWit, if_neg (by decide), if_pos rfl, u1, u2]
  have HB2 := hide hB
  clear hB u1 u2
  by_cases h1 : 1 < n1
  · have v1 : decide ((1 : Int) < (n1 : Int)) = true := by simp; omega
    go_wp2
    go_ret
    exact ⟨true, rfl, ⟨fun _ => (unhide HB2).1 (.inl h1), fun _ => rfl⟩, hk5'.trans hk6⟩
  · have v1 : decide ((1 : Int) < (n1 : Int)) = false := by simp; omega
    by_cases h2 : 1 < n2
    · have v2 : decide ((1 : Int) < (n2 : Int)) = true := by simp; omega
      go_wp2
      go_ret
      exact ⟨true, rfl, ⟨fun _ => (unhide HB2).1 (.inr h2), fun _ => rfl⟩, hk5'.trans hk6⟩
    · have v2 : decide ((1 : Int) < (n2 : Int)) = false := by simp; omega
      go_wp2
      go_ret
      exact ⟨false, rfl, ⟨fun h => (by cases h), fun h => absurd ((unhide HB2).2 h) (by omega)⟩, hk5'.trans hk6⟩

set_option maxRecDepth 100000 in
set_option maxHeartbeats 3200000 in
theorem wrong_alt {w : World} {g : Nat} {P : List Pat} {L : List Lns} {r : Nat} {f : ByteArray} {gp cap gl cl : Nat} {xs : List Value} {p k : Nat} {a b : BT} {d : ByteArray} (hG : GM w g P L r f gp cap gl cl xs) (hPl : P.length ≤ 100000) (hc : LN P L (.two 124 p a b) k) (hd : d.size ≤ 200000000) :
    Calls Tryz.prog 13 #[.pointer (some ⟨g, 0, none⟩), .int .i64 k, .string d] w fun e w' => WrPost w (.two 124 p a b) d e w' := by
  obtain ⟨l, hl, hl1, hlk, _, hat, hla, hlb⟩ := hc
  obtain ⟨x, hx, hx1⟩ := hla.node
  obtain ⟨y, hy, hy1⟩ := hlb.node
  have hk0 := (List.getElem?_eq_some_iff.1 hl).1
  have hk1 := (List.getElem?_eq_some_iff.1 hx).1
  have hk2 := (List.getElem?_eq_some_iff.1 hy).1
  clear hl1 hat hla hlb
  rcases l with ⟨lk, la, lb, lp, lvw, ldf, ls, lv⟩
  obtain rfl : lk = 124 := hlk
  simp only at hx hy hk1 hk2
  have hgl := hG.lt
  have hgll := hG.ll
  have HA := hide (fun (W : World) (hk : K0 w W) => gin (hG.k0 hk).c0 (hG.k0 hk).pm hPl hx1.2.1 hx1.1.2.2.1 hd)
  have HB := hide (fun (W : World) (hk : K0 w W) => gin (hG.k0 hk).c0 (hG.k0 hk).pm hPl hy1.2.1 hy1.1.2.2.1 hd)
  have HG := hide (And.intro hG (And.intro hx hy))
  have hki : (k : Int) < (L.length : Int) := by omega
  have hai : (la : Int) < (L.length : Int) := by omega
  have hbi : (lb : Int) < (L.length : Int) := by omega
  have c1 := hG.c1
  obtain ⟨l0, l1, l2, l3, l4, l5, l6, l7⟩ := hG.eight hl
  simp only at l0 l1 l2 l3 l4 l5 l6 l7
  clear hl hx hy hG hx1 hy1 hPl
  go_enter Tryz.func13, Tryz.ntmps13
  go_wp2_with fail
  obtain ⟨w1, hw1, hs1, b0, hk1'⟩ := one_at w (lobj ⟨124, la, lb, lp, lvw, ldf, ls, lv⟩)
  unfold lobj at hw1 b0
  rw [hw1]
  have m1 := cellOf b0 1
  simp at m1
  obtain ⟨_, _, _, _, _, _, x6, _⟩ := ((unhide HG).1.k0 hk1').eight (unhide HG).2.1
  have d1 := ((unhide HG).1.k0 hk1').c1
  have HK1 := hide hk1'
  have HB0 := hide b0
  clear hw1 c1 l0 l1 l2 l3 l4 l5 l6 l7 hk1' b0
  go_region_law (go_simp; go_at_call 30; refine (unhide HA _ ((unhide HK1).trans (Kp.drew _ _))).mono ?_; rintro e w2 ⟨v, rfl, hv, hk2'⟩)
  all_goals
    have hk2'' := ((unhide HK1).trans (Kp.drew _ w1)).trans hk2'
    have a0 := (hk2'.heap (heap_lt (unhide HB0) : w.heap.size < w1.drew.heap.size)).trans (unhide HB0)
    have n2 := cellOf a0 2
    simp at n2
    obtain ⟨_, _, _, _, _, _, y6, _⟩ := ((unhide HG).1.k0 hk2'').eight (unhide HG).2.2
    have d2 := ((unhide HG).1.k0 hk2'').c1
    have HV := hide hv
    have HK2 := hide hk2''
    clear hv hk2'' hk2' a0 d1 x6 m1
    go_wp2_with fail
    go_region_law (go_simp; go_at_call 30; refine (unhide HB _ ((unhide HK2).trans (Kp.drew _ _))).mono ?_; rintro e w3 ⟨u, rfl, hu, hk3'⟩)
    all_goals
      have HU := hide (And.intro hu (((unhide HK2).trans (Kp.drew _ w2)).trans hk3'))
      clear hu hk3' d2 y6 n2
      have fin : WrPost w (.two 124 p a b) d (.returned (.bool (v && u))) w3 := ⟨v && u, rfl, by
        rw [Bool.and_eq_true, unhide HV, (unhide HU).1, BWit, if_pos rfl], (unhide HU).2⟩
      have HF := hide fin
      clear fin HV HU
      cases v
      · go_wp2
        go_ret
        exact unhide HF
      · cases u
        · go_wp2
          go_ret
          exact unhide HF
        · go_wp2
          go_ret
          exact unhide HF

end Go.Proofs.YtlljggefbngkeaaGreatDoor

namespace Go.Proofs.YtlljggefbngkeaaGreatDoor
open Go.RowKit

set_option maxRecDepth 100000 in
set_option maxHeartbeats 3200000 in
theorem wrong_star {w : World} {g : Nat} {P : List Pat} {L : List Lns} {r : Nat} {f : ByteArray} {gp cap gl cl : Nat} {xs : List Value} {p k : Nat} {a : BT} {u : List UInt8} (hG : GM w g P L r f gp cap gl cl xs) (hPl : P.length ≤ 100000) (hc : LN P L (.star p a) k) (hd : (txt u).size ≤ 200000000) :
    Calls Tryz.prog 13 #[.pointer (some ⟨g, 0, none⟩), .int .i64 k, .string (txt u)] w fun e w' => WrPost w (.star p a) (txt u) e w' := by
  obtain ⟨l, hl, hl1, hlk, hat, hla⟩ := hc
  obtain ⟨x, hx, hx1⟩ := hla.node
  have hk0 := (List.getElem?_eq_some_iff.1 hl).1
  have hk1 := (List.getElem?_eq_some_iff.1 hx).1
  clear hl1 hat hla
  rcases l with ⟨lk, la, lb, lp, lvw, ldf, ls, lv⟩
  obtain rfl : lk = 42 := hlk
  simp only at hx hk1
  have hgl := hG.lt
  have hgll := hG.ll
  have hul : (txt u).data.toList = u := by simp [txt]
  obtain ⟨E1, hE1⟩ := steps2_ex (bS a) (txt u).data.toList
  obtain ⟨E2, hE2⟩ := steps2_ex (bV a) (txt u).data.toList
  have HA := hide (fun (W : World) (hk : K0 w W) => gways hE1 (hG.k0 hk).c0 (hG.k0 hk).pm hPl hx1.2.1 hx1.1.2.2.1 hd)
  have HB := hide (fun (W : World) (hk : K0 w W) => gways hE2 (hG.k0 hk).c0 (hG.k0 hk).pm hPl hx1.2.2 hx1.1.2.2.2 hd)
  have HC := hide (fun (W : World) (hk : K0 w W) => gin (d := ⟨#[]⟩) (hG.k0 hk).c0 (hG.k0 hk).pm hPl hx1.2.1 hx1.1.2.2.1 (by decide))
  have HD := hide (fun (W : World) (hk : K0 w W) => gin (d := ⟨#[]⟩) (hG.k0 hk).c0 (hG.k0 hk).pm hPl hx1.2.2 hx1.1.2.2.2 (by decide))
  have HQ := hide (And.intro (ways_two hE1) (ways_two hE2))
  have HG := hide (And.intro hG hx)
  have hki : (k : Int) < (L.length : Int) := by omega
  have hai : (la : Int) < (L.length : Int) := by omega
  have c1 := hG.c1
  obtain ⟨l0, l1, l2, l3, l4, l5, l6, l7⟩ := hG.eight hl
  simp only at l0 l1 l2 l3 l4 l5 l6 l7
  clear hl hx hE1 hE2 hG hx1 hPl
  go_enter Tryz.func13, Tryz.ntmps13
  go_wp2_with fail
  obtain ⟨w1, hw1, hs1, b0, hk1'⟩ := one_at w (lobj ⟨42, la, lb, lp, lvw, ldf, ls, lv⟩)
  unfold lobj at hw1 b0
  rw [hw1]
  have m1 := cellOf b0 1
  simp at m1
  obtain ⟨x0, x1, x2, x3, x4, x5, x6, x7⟩ := ((unhide HG).1.k0 hk1').eight (unhide HG).2
  have d1 := ((unhide HG).1.k0 hk1').c1
  clear hw1 c1 l0 l1 l2 l3 l4 l5 l6 l7
  go_region
  obtain ⟨w2, hw2, hs2, b1, hk2'⟩ := one_drew w1 (lobj x)
  unfold lobj at hw2 b1
  rw [hw2]
  rw [hs1] at b1
  have hk2 := hk1'.trans hk2'
  have e1 := cellOf b1 6
  simp at e1
  clear hw2 d1 x0 x1 x2 x3 x4 x5 x6 x7 m1 b0 hk2'
  by_cases hu : u = []
  · subst hu
    have t0 : ((txt []).toList.isEmpty) = true := txt_none
    rw [txt_nil] at t0
    rw [txt_nil]
    go_wp2_with fail
    refine (unhide HC _ hk2).mono ?_
    rintro e w3 ⟨v, rfl, hv, hk3⟩
    have b2 := (hk3.heap (heap_lt b1)).trans b1
    have e2 := cellOf b2 7
    simp at e2
    have hk3' := hk2.trans hk3
    have HV := hide hv
    clear hv hk3 e1 b1 b2
    go_wp2_with fail
    refine (unhide HD _ hk3').mono ?_
    rintro e w4 ⟨y, rfl, hy, hk4⟩
    have fin : WrPost w (.star p a) ⟨#[]⟩ (.returned (.bool (v || y))) w4 := ⟨v || y, rfl, by
      rw [Bool.or_eq_true, unhide HV, hy, BWit, if_pos rfl], hk3'.trans hk4⟩
    have HF := hide fin
    clear fin HV hy hk4 hk3'
    cases v
    · cases y
      · go_wp2
        go_ret
        exact unhide HF
      · go_wp2
        go_ret
        exact unhide HF
    · go_wp2
      go_ret
      exact unhide HF
  · have t0 : ((txt u).toList.isEmpty) = false := txt_some u hu
    go_wp2_with fail
    refine (unhide HA _ hk2).mono ?_
    rintro e w3 ⟨rfl, hk3⟩
    have b2 := (hk3.heap (heap_lt b1)).trans b1
    have e2 := cellOf b2 7
    simp at e2
    have hk3' := hk2.trans hk3
    clear hk3 e1 b1 b2
    go_wp2_with fail
    refine (unhide HB _ hk3').mono ?_
    rintro e w4 ⟨rfl, hk4⟩
    obtain ⟨u1, u2⟩ := unhide HQ
    have hds : (txt u).data.toList.length = (txt u).size := Array.length_toList
    rw [hds] at u1 u2
    have hB : (1 < wtab E1 (txt u).size (txt u).size ∨ 1 < wtab E2 (txt u).size (txt u).size) ↔ BWit (.star p a) (txt u).data.toList := by
      rw [BWit, if_neg (by rw [hul]; exact hu), u1, u2]
    generalize wtab E1 (txt u).size (txt u).size = n1 at *
    generalize wtab E2 (txt u).size (txt u).size = n2 at *
    have HB2 := hide hB
    clear hB u1 u2
    by_cases h1 : 1 < n1
    · have v1 : decide ((1 : Int) < (n1 : Int)) = true := by simp; omega
      go_wp2
      go_ret
      exact ⟨true, rfl, ⟨fun _ => (unhide HB2).1 (.inl h1), fun _ => rfl⟩, hk3'.trans hk4⟩
    · have v1 : decide ((1 : Int) < (n1 : Int)) = false := by simp; omega
      by_cases h2 : 1 < n2
      · have v2 : decide ((1 : Int) < (n2 : Int)) = true := by simp; omega
        go_wp2
        go_ret
        exact ⟨true, rfl, ⟨fun _ => (unhide HB2).1 (.inr h2), fun _ => rfl⟩, hk3'.trans hk4⟩
      · have v2 : decide ((1 : Int) < (n2 : Int)) = false := by simp; omega
        go_wp2
        go_ret
        exact ⟨false, rfl, ⟨fun h => (by cases h), fun h => absurd ((unhide HB2).2 h) (by omega)⟩, hk3'.trans hk4⟩

set_option maxRecDepth 100000 in
set_option maxHeartbeats 1600000 in
theorem wrong_leaf {w : World} {g : Nat} {P : List Pat} {L : List Lns} {r : Nat} {f : ByteArray} {gp cap gl cl : Nat} {xs : List Value} {k : Nat} {c : BT} {d : ByteArray} {l : Lns} (hG : GM w g P L r f gp cap gl cl xs) (hl : L[k]? = some l) (hlk : l.kind = 112 ∨ l.kind = 107) (hc : ¬ BWit c d.data.toList) :
    Calls Tryz.prog 13 #[.pointer (some ⟨g, 0, none⟩), .int .i64 k, .string d] w fun e w' => WrPost w c d e w' := by
  have hk0 := (List.getElem?_eq_some_iff.1 hl).1
  have hgl := hG.lt
  have hgll := hG.ll
  have hki : (k : Int) < (L.length : Int) := by omega
  have c1 := hG.c1
  obtain ⟨l0, l1, l2, l3, l4, l5, l6, l7⟩ := hG.eight hl
  have HC := hide hc
  rcases l with ⟨lk, la, lb, lp, lvw, ldf, ls, lv⟩
  simp only at l0 l1 l2 l3 l4 l5 l6 l7 hlk
  clear hG hl hc
  rcases hlk with rfl | rfl
  · go_enter Tryz.func13, Tryz.ntmps13
    go_wp2
    go_ret
    exact ⟨false, rfl, ⟨fun h => (by cases h), fun h => absurd h (unhide HC)⟩, Kp.alloc _ _ _⟩
  · go_enter Tryz.func13, Tryz.ntmps13
    go_wp2
    go_ret
    exact ⟨false, rfl, ⟨fun h => (by cases h), fun h => absurd h (unhide HC)⟩, Kp.alloc _ _ _⟩

/-- Wrong, of every node -/
theorem wrong_any {w : World} {g : Nat} {P : List Pat} {L : List Lns} {r : Nat} {f : ByteArray} {gp cap gl cl : Nat} {xs : List Value} {k : Nat} {c : BT} {d : ByteArray} (hG : GM w g P L r f gp cap gl cl xs) (hPl : P.length ≤ 100000) (hc : LN P L c k) (hd : d.size ≤ 200000000) :
    Calls Tryz.prog 13 #[.pointer (some ⟨g, 0, none⟩), .int .i64 k, .string d] w fun e w' => WrPost w c d e w' := by
  cases c with
  | pat t =>
    obtain ⟨l, h1, _, h2⟩ := hc
    exact wrong_leaf hG h1 (.inl h2) (fun h => h)
  | key t v e =>
    obtain ⟨l, h1, _, h2, _⟩ := hc
    exact wrong_leaf hG h1 (.inr h2) (fun h => h)
  | star p a =>
    have e : d = txt d.data.toList := by simp [txt]
    rw [e] at hd ⊢
    exact wrong_star hG hPl hc hd
  | two kd p a b =>
    have hkd : kd = 114 ∨ kd = 124 ∨ kd = 126 := by obtain ⟨l, _, _, _, h, _⟩ := hc; exact h
    rcases hkd with rfl | rfl | rfl
    · exact wrong_row hG hPl hc hd
    · exact wrong_alt hG hPl hc hd
    · exact wrong_swap hG hPl hc hd

end Go.Proofs.YtlljggefbngkeaaGreatDoor
