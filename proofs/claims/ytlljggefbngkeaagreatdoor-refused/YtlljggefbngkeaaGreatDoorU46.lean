import Derived.Test.YtlljggefbngkeaaGreatDoorU24
import Derived.Test.YtlljggefbngkeaaGreatDoorU45
import Derived.Test.YtlljggefbngkeaaGreatDoorU15
namespace Go.Proofs.YtlljggefbngkeaaGreatDoor
open Go.RowKit

/-! The joints of a lens, as the program finds them, and the nodes that the reference lays: the same witnesses. -/

def bM (v : Bool) (b : BT) : PT := if v then bV b else bS b

theorem M_seq2 {a b : PT} {u : List UInt8} : M (.seq [a, b]) u ↔ ∃ x y, u = x ++ y ∧ M a x ∧ M b y := by
  constructor
  · intro h
    cases h with
    | seq h =>
      cases h with
      | cons h1 h2 =>
        cases h2 with
        | cons h3 h4 => cases h4; exact ⟨_, _, by rw [List.append_nil], h1, h3⟩
  · rintro ⟨x, y, rfl, h1, h2⟩
    have := M.seq (ML.cons h1 (ML.cons h2 ML.nil))
    rw [List.append_nil] at this
    exact this
theorem M_alt2 {a b : PT} {u : List UInt8} : M (.alt [a, b]) u ↔ M a u ∨ M b u := by
  constructor
  · intro h
    cases h with
    | alt h1 h2 =>
      rcases List.mem_cons.1 h1 with rfl | h1
      · exact .inl h2
      · rw [List.mem_singleton] at h1
        subst h1
        exact .inr h2
  · rintro (h | h)
    · exact .alt (by simp) h
    · exact .alt (t := b) (by simp) h

theorem bM_row {v : Bool} {p : Nat} {a b : BT} {u : List UInt8} : M (bM v (.two 114 p a b)) u ↔ ∃ x y, u = x ++ y ∧ M (bM v a) x ∧ M (bM v b) y := by
  cases v <;> simp only [bM, bS, bV, Bool.false_eq_true, if_false, if_true] <;> exact M_seq2
theorem bM_alt {v : Bool} {p : Nat} {a b : BT} {u : List UInt8} : M (bM v (.two 124 p a b)) u ↔ M (bM v a) u ∨ M (bM v b) u := by
  cases v <;> simp only [bM, bS, bV, Bool.false_eq_true, if_false, if_true] <;> exact M_alt2
theorem rep_iff {t t' : PT} (H : ∀ u, M t u ↔ M t' u) (u : List UInt8) : M (.rep 42 t) u ↔ M (.rep 42 t') u :=
  ⟨rep_to fun u => (H u).1, rep_to fun u => (H u).2⟩

theorem ML_cons {t : PT} {l : List PT} {u : List UInt8} : ML (t :: l) u ↔ ∃ x y, u = x ++ y ∧ M t x ∧ ML l y := by
  constructor
  · intro h
    cases h with
    | cons h1 h2 => exact ⟨_, _, rfl, h1, h2⟩
  · rintro ⟨x, y, rfl, h1, h2⟩
    exact .cons h1 h2
theorem ML_nil {u : List UInt8} : ML [] u ↔ u = [] := ⟨fun h => by cases h; rfl, fun h => by rw [h]; exact .nil⟩

theorem rowG_seq (v : Bool) : ∀ (l : List LT) (c : BT) (ps : List Nat), (∀ t, t ∈ l → ∀ u, M (bM v (toB t)) u ↔ M (sideT v t) u) → ∀ u, M (bM v (rowG 114 c l ps)) u ↔ ∃ x y, u = x ++ y ∧ M (bM v c) x ∧ ML (sideTL v l) y
  | [], c, ps, H, u => by
    rw [rowG, sideTL]
    constructor
    · intro h; exact ⟨u, [], by simp, h, .nil⟩
    · rintro ⟨x, y, rfl, h1, h2⟩
      rw [ML_nil] at h2
      subst h2
      rw [List.append_nil]; exact h1
  | t :: l, c, ps, H, u => by
    rw [rowG, sideTL, rowG_seq v l _ _ fun t ht => H t (List.mem_cons_of_mem _ ht)]
    constructor
    · rintro ⟨x, y, rfl, h1, h2⟩
      obtain ⟨x1, x2, rfl, h3, h4⟩ := bM_row.1 h1
      exact ⟨x1, x2 ++ y, by rw [List.append_assoc], h3, .cons ((H t List.mem_cons_self _).1 h4) h2⟩
    · rintro ⟨x, y, rfl, h1, h2⟩
      obtain ⟨y1, y2, rfl, h3, h4⟩ := ML_cons.1 h2
      exact ⟨x ++ y1, y2, by rw [List.append_assoc], bM_row.2 ⟨x, y1, rfl, h1, (H t List.mem_cons_self _).2 h3⟩, h4⟩
theorem rowB_seq (v : Bool) {l : List LT} {ps : List Nat} (hl : 0 < l.length) (H : ∀ t, t ∈ l → ∀ u, M (bM v (toB t)) u ↔ M (sideT v t) u) (u : List UInt8) : M (bM v (rowB 114 l ps)) u ↔ ML (sideTL v l) u := by
  match l, hl with
  | t :: l, _ =>
    rw [rowB, rowG_seq v l _ _ fun t ht => H t (List.mem_cons_of_mem _ ht), sideTL, ML_cons]
    constructor
    · rintro ⟨x, y, e, h1, h2⟩; exact ⟨x, y, e, (H t List.mem_cons_self _).1 h1, h2⟩
    · rintro ⟨x, y, e, h1, h2⟩; exact ⟨x, y, e, (H t List.mem_cons_self _).2 h1, h2⟩

theorem rowG_alt (v : Bool) : ∀ (l : List LT) (c : BT) (ps : List Nat), (∀ t, t ∈ l → ∀ u, M (bM v (toB t)) u ↔ M (sideT v t) u) → ∀ u, M (bM v (rowG 124 c l ps)) u ↔ M (bM v c) u ∨ ∃ t, t ∈ sideTL v l ∧ M t u
  | [], c, ps, H, u => by
    rw [rowG, sideTL]
    simp
  | t :: l, c, ps, H, u => by
    rw [rowG, sideTL, rowG_alt v l _ _ (fun t ht => H t (List.mem_cons_of_mem _ ht)), bM_alt, H t List.mem_cons_self]
    constructor
    · rintro ((h | h) | ⟨x, h1, h2⟩)
      · exact .inl h
      · exact .inr ⟨_, List.mem_cons_self, h⟩
      · exact .inr ⟨x, List.mem_cons_of_mem _ h1, h2⟩
    · rintro (h | ⟨x, h1, h2⟩)
      · exact .inl (.inl h)
      · rcases List.mem_cons.1 h1 with rfl | h1
        · exact .inl (.inr h2)
        · exact .inr ⟨x, h1, h2⟩
theorem rowB_alt (v : Bool) {l : List LT} {ps : List Nat} (hl : 0 < l.length) (H : ∀ t, t ∈ l → ∀ u, M (bM v (toB t)) u ↔ M (sideT v t) u) (u : List UInt8) : M (bM v (rowB 124 l ps)) u ↔ ∃ t, t ∈ sideTL v l ∧ M t u := by
  match l, hl with
  | t :: l, _ =>
    rw [rowB, rowG_alt v l _ _ (fun t ht => H t (List.mem_cons_of_mem _ ht)), sideTL, H t List.mem_cons_self]
    constructor
    · rintro (h | ⟨x, h1, h2⟩)
      · exact ⟨_, List.mem_cons_self, h⟩
      · exact ⟨x, List.mem_cons_of_mem _ h1, h2⟩
    · rintro ⟨x, h1, h2⟩
      rcases List.mem_cons.1 h1 with rfl | h1
      · exact .inl h2
      · exact .inr ⟨x, h1, h2⟩

mutual
/-- the texts of a side are the same -/
theorem side_eq (v : Bool) : ∀ (t : LT), NOk t → ∀ u, M (bM v (toB t)) u ↔ M (sideT v t) u
  | .same l i j, h, u => by
    rw [toB, sideT, M_nf]
    cases v <;> exact Iff.rfl
  | .fixed l i j w d a, h, u => by
    rw [toB, sideT]
    cases v
    · simp only [Bool.false_eq_true, if_false]
      rw [M_nf]; exact Iff.rfl
    · simp only [if_true]
      rw [M_pSeq]
      show M (bV _) u ↔ _
      rw [bV]
      constructor
      · intro h
        cases h with
        | alt h1 h2 =>
          rw [List.mem_singleton] at h1
          subst h1
          cases h2; assumption
      · intro h; exact .alt List.mem_cons_self (.seq h)
  | .swap p a b, h, u => by
    have ha := side_eq v a (h.part (by simp [parts]))
    have hb := side_eq v b (h.part (by simp [parts]))
    rw [toB, sideT, M_pSeq]
    cases v
    · simp only [bM, bS, Bool.false_eq_true, if_false] at ha hb ⊢
      rw [if_neg (by decide), M_seq2, ML_cons]
      constructor
      · rintro ⟨x, y, rfl, h1, h2⟩; exact ⟨x, y, rfl, (ha _).1 h1, by have := ML.cons ((hb _).1 h2) ML.nil; rwa [List.append_nil] at this⟩
      · rintro ⟨x, y, rfl, h1, h2⟩
        obtain ⟨y1, y2, rfl, h3, h4⟩ := ML_cons.1 h2
        rw [ML_nil] at h4
        subst h4
        exact ⟨x, y1, by rw [List.append_nil], (ha _).2 h1, (hb _).2 h3⟩
    · simp only [bM, bV, if_true] at ha hb ⊢
      rw [if_neg (by decide), M_seq2, ML_cons]
      constructor
      · rintro ⟨x, y, rfl, h1, h2⟩; exact ⟨x, y, rfl, (hb _).1 h1, by have := ML.cons ((ha _).1 h2) ML.nil; rwa [List.append_nil] at this⟩
      · rintro ⟨x, y, rfl, h1, h2⟩
        obtain ⟨y1, y2, rfl, h3, h4⟩ := ML_cons.1 h2
        rw [ML_nil] at h4
        subst h4
        exact ⟨x, y1, by rw [List.append_nil], (hb _).2 h1, (ha _).2 h3⟩
  | .group a, h, u => by
    rw [toB, sideT]
    exact side_eq v a (h.part (by simp [parts])) u
  | .many p a, h, u => by
    have ha := side_eq v a (h.part (by simp [parts]))
    rw [toB, sideT, ← rep_iff ha]
    cases v <;> exact Iff.rfl
  | .row l ps, h, u => by
    have h0 : ps.length + 1 = l.length := h.self
    rw [toB, sideT, M_pSeq]
    exact rowB_seq v (by omega) (side_eqL v l fun t ht => h.part ht) u
  | .choice l ps, h, u => by
    have h0 : ps.length + 1 = l.length := h.self
    rw [toB, sideT, M_pAlt]
    exact rowB_alt v (by omega) (side_eqL v l fun t ht => h.part ht) u
theorem side_eqL (v : Bool) : ∀ (l : List LT), (∀ t, t ∈ l → NOk t) → ∀ t, t ∈ l → ∀ u, M (bM v (toB t)) u ↔ M (sideT v t) u
  | [], h, t, ht => by cases ht
  | x :: l, h, t, ht => by
    rcases List.mem_cons.1 ht with e | ht
    · rw [e]; exact side_eq v x (h x List.mem_cons_self)
    · exact side_eqL v l (fun t ht => h t (List.mem_cons_of_mem _ ht)) t ht
end

theorem Twice.congr {a b a' b' : PT} (ha : ∀ u, M a u ↔ M a' u) (hb : ∀ u, M b u ↔ M b' u) (u : List UInt8) : Twice a b u ↔ Twice a' b' u := by
  constructor
  · rintro ⟨w, u1, u2, e, hu, h1, h2, h3, h4⟩
    exact ⟨w, u1, u2, e, hu, (ha _).1 h1, (hb _).1 h2, (ha _).1 h3, (hb _).1 h4⟩
  · rintro ⟨w, u1, u2, e, hu, h1, h2, h3, h4⟩
    exact ⟨w, u1, u2, e, hu, (ha _).2 h1, (hb _).2 h2, (ha _).2 h3, (hb _).2 h4⟩
theorem Ways2.congr {t t' : PT} (h : ∀ u, M t u ↔ M t' u) {d : List UInt8} : Ways2 t d ↔ Ways2 t' d := by
  constructor
  · rintro ⟨E, hE, r⟩; exact ⟨E, fun i j => (hE i j).trans (h _), r⟩
  · rintro ⟨E, hE, r⟩; exact ⟨E, fun i j => (hE i j).trans (h _).symm, r⟩
theorem ways_rows {t : PT} {d : List UInt8} (h : Ways2 t d) : Rows2 t d := by
  obtain ⟨E, hE, r⟩ := h
  exact rows_of_pt (fun i j _ _ => hE i j) r
theorem rows_ways {t : PT} {d : List UInt8} (h0 : ¬ M t []) (h : Rows2 t d) : Ways2 t d := by
  obtain ⟨E, hE⟩ := steps2_ex t d
  exact ⟨E, hE, pt_of_rows (fun i j _ _ => hE i j) h0 h⟩
theorem twice_ways {t : PT} {d : List UInt8} (h0 : ¬ M t []) (h : Twice t (.rep 42 t) d) : d ≠ [] ∧ Ways2 t d := by
  refine ⟨?_, rows_ways h0 (rows_of_twice h)⟩
  obtain ⟨w, u1, u2, rfl, hu, _⟩ := h
  intro e
  simp at e
  exact hu e.2.1

theorem sideTL_take (v : Bool) : ∀ (l : List LT) (n : Nat), sideTL v (l.take n) = (sideTL v l).take n
  | [], n => by simp [sideTL]
  | t :: l, 0 => by simp [sideTL]
  | t :: l, n + 1 => by rw [List.take_succ_cons, sideTL, sideTL, List.take_succ_cons, sideTL_take v l n]
theorem sideTL_at (v : Bool) : ∀ (l : List LT) (n : Nat) (t : LT), l[n]? = some t → (sideTL v l)[n]? = some (sideT v t)
  | x :: l, 0, t, h => by
    rw [List.getElem?_cons_zero] at h
    rw [sideTL, List.getElem?_cons_zero, Option.some.inj h]
  | x :: l, n + 1, t, h => by
    rw [List.getElem?_cons_succ] at h
    rw [sideTL, List.getElem?_cons_succ]
    exact sideTL_at v l n t h

section
variable {l : List LT} {ps : List Nat} {n : Nat} {t : LT} {p : Nat}

theorem row_joint (h : NOk (.row l ps)) (ht : l[n + 1]? = some t) (u : List UInt8) :
    BWit (.two 114 p (rowB 114 (l.take (n + 1)) (ps.take n)) (toB t)) u ↔ JWit (.row l ps) n u := by
  have hpart : ∀ t, t ∈ l → NOk t := fun t ht => h.part ht
  have hA : ∀ v u, M (bM v (rowB 114 (l.take (n + 1)) (ps.take n))) u ↔ M (twA v (.row l ps) n) u := fun v u => by
    have h0 : 0 < (l.take (n + 1)).length := by
      have := (List.getElem?_eq_some_iff.1 ht).1
      rw [List.length_take]; omega
    rw [rowB_seq v h0 (side_eqL v _ fun t ht => hpart t (List.mem_of_mem_take ht))]
    show _ ↔ M (pSeq ((sideTL v l).take (n + 1))) u
    rw [M_pSeq, sideTL_take]
  have hB : ∀ v u, M (bM v (toB t)) u ↔ M (twB v (.row l ps) n) u := fun v u => by
    rw [side_eq v t (hpart t (List.mem_of_getElem? ht))]
    show _ ↔ M (((sideTL v l)[n + 1]?).getD (.seq [])) u
    rw [sideTL_at v l _ t ht]
    exact Iff.rfl
  rw [BWit, if_neg (by decide), if_neg (by decide)]
  exact or_congr (Twice.congr (hA false) (hB false) u) (Twice.congr (hA true) (hB true) u)

theorem choice_joint (h : NOk (.choice l ps)) (ht : l[n + 1]? = some t) (u : List UInt8) :
    BWit (.two 124 p (rowB 124 (l.take (n + 1)) (ps.take n)) (toB t)) u ↔ JWit (.choice l ps) n u := by
  have hpart : ∀ t, t ∈ l → NOk t := fun t ht => h.part ht
  have hA : ∀ u, M (bS (rowB 124 (l.take (n + 1)) (ps.take n))) u ↔ M (shA (.choice l ps) n) u := fun u => by
    have h0 : 0 < (l.take (n + 1)).length := by
      have := (List.getElem?_eq_some_iff.1 ht).1
      rw [List.length_take]; omega
    have := rowB_alt false (ps := ps.take n) h0 (side_eqL false _ fun t ht => hpart t (List.mem_of_mem_take ht)) u
    refine this.trans ?_
    show _ ↔ M (pAlt ((sideTL false l).take (n + 1))) u
    rw [M_pAlt, sideTL_take]
  have hB : ∀ u, M (bS (toB t)) u ↔ M (twB false (.choice l ps) n) u := fun u => by
    refine (side_eq false t (hpart t (List.mem_of_getElem? ht)) u).trans ?_
    show _ ↔ M (((sideTL false l)[n + 1]?).getD (.seq [])) u
    rw [sideTL_at false l _ t ht]
    exact Iff.rfl
  rw [BWit, if_pos rfl]
  exact and_congr (hA u) (hB u)
end

theorem swap_joint {p : Nat} {a b : LT} (h : NOk (.swap p a b)) (u : List UInt8) : BWit (.two 126 p (toB a) (toB b)) u ↔ JWit (.swap p a b) 0 u := by
  have ha := fun v => side_eq v a (h.part (by simp [parts]))
  have hb := fun v => side_eq v b (h.part (by simp [parts]))
  rw [BWit, if_neg (by decide), if_pos rfl]
  exact or_congr (Twice.congr (ha false) (hb false) u) (Twice.congr (hb true) (ha true) u)

theorem many_to {p : Nat} {a : LT} (h : NOk (.many p a)) {u : List UInt8} (hu : BWit (.star p (toB a)) u) : ∃ u', JWit (.many p a) 0 u' := by
  have ha := fun v => side_eq v a (h.part (by simp [parts]))
  by_cases e0 : M (sideT false a) []
  · exact ⟨[], .inl (.inl ⟨e0, rfl⟩)⟩
  · by_cases e1 : M (sideT true a) []
    · exact ⟨[], .inr (.inl ⟨e1, rfl⟩)⟩
    · rw [BWit] at hu
      split at hu
      · rcases hu with hu | hu
        · exact absurd ((ha false []).1 hu) e0
        · exact absurd ((ha true []).1 hu) e1
      · rcases hu with hu | hu
        · obtain ⟨l, l', q1, q2, q3, q4, q5⟩ := ways_rows ((Ways2.congr (ha false)).1 hu)
          obtain ⟨s, hs⟩ := twice_of_rows e0 l l' q1 q2 q3 (q4.trans q5.symm)
          exact ⟨s, .inl (.inr ⟨e0, hs⟩)⟩
        · obtain ⟨l, l', q1, q2, q3, q4, q5⟩ := ways_rows ((Ways2.congr (ha true)).1 hu)
          obtain ⟨s, hs⟩ := twice_of_rows e1 l l' q1 q2 q3 (q4.trans q5.symm)
          exact ⟨s, .inr (.inr ⟨e1, hs⟩)⟩
theorem many_of {p : Nat} {a : LT} (h : NOk (.many p a)) {u : List UInt8} (hu : JWit (.many p a) 0 u) : BWit (.star p (toB a)) u := by
  have ha := fun v => side_eq v a (h.part (by simp [parts]))
  rw [BWit]
  rcases hu with (⟨h1, rfl⟩ | ⟨h1, h2⟩) | (⟨h1, rfl⟩ | ⟨h1, h2⟩)
  · rw [if_pos rfl]; exact .inl ((ha false []).2 h1)
  · obtain ⟨q1, q2⟩ := twice_ways h1 h2
    rw [if_neg q1]; exact .inl ((Ways2.congr (ha false)).2 q2)
  · rw [if_pos rfl]; exact .inr ((ha true []).2 h1)
  · obtain ⟨q1, q2⟩ := twice_ways h1 h2
    rw [if_neg q1]; exact .inr ((Ways2.congr (ha true)).2 q2)

theorem mem_jl (T : LT) (x : LT × Nat) : ∀ (l : List LT) (i : Nat), x ∈ jointsL T i l ↔ (∃ u, u ∈ l ∧ x ∈ joints_ u) ∨ ∃ m, m < l.length ∧ i + m ≠ 0 ∧ x = (T, i + m - 1)
  | [], i => by rw [jointsL]; simp
  | u :: l, i => by
    rw [jointsL, List.mem_append, List.mem_append, mem_jl T x l (i + 1)]
    constructor
    · rintro ((h | h) | ⟨y, h1, h2⟩ | ⟨m, h1, h2, h3⟩)
      · split at h
        · cases h
        · rw [List.mem_singleton] at h
          exact .inr ⟨0, by simp, by omega, by rw [h]; rfl⟩
      · exact .inl ⟨u, List.mem_cons_self, h⟩
      · exact .inl ⟨y, List.mem_cons_of_mem _ h1, h2⟩
      · exact .inr ⟨m + 1, by rw [List.length_cons]; omega, by omega, by rw [h3]; congr 1; omega⟩
    · rintro (⟨y, h1, h2⟩ | ⟨m, h1, h2, h3⟩)
      · rcases List.mem_cons.1 h1 with rfl | h1
        · exact .inl (.inr h2)
        · exact .inr (.inl ⟨y, h1, h2⟩)
      · match m, h1, h2, h3 with
        | 0, h1, h2, h3 => exact .inl (.inl (by rw [if_neg (by omega), List.mem_singleton, h3]; rfl))
        | m + 1, h1, h2, h3 => exact .inr (.inr ⟨m, by rw [List.length_cons] at h1; omega, by omega, by rw [h3]; congr 1; omega⟩)
theorem mem_joints_row (T : LT) (l : List LT) (x : LT × Nat) : x ∈ jointsL T 0 l ↔ (∃ u, u ∈ l ∧ x ∈ joints_ u) ∨ ∃ m, m + 1 < l.length ∧ x = (T, m) := by
  rw [mem_jl]
  refine or_congr Iff.rfl ⟨?_, ?_⟩
  · rintro ⟨m, h1, h2, h3⟩
    match m, h1, h2, h3 with
    | 0, h1, h2, h3 => exact absurd rfl h2
    | m + 1, h1, h2, h3 => exact ⟨m, h1, by rw [h3]; congr 1; omega⟩
  · rintro ⟨m, h1, h2⟩
    exact ⟨m + 1, h1, by omega, by rw [h2]; congr 1; omega⟩

theorem snoc_split {α : Type} {l : List α} {n : Nat} (h : l.length = n + 1) : ∃ r x, l = r ++ [x] ∧ r.length = n := by
  have hn : l ≠ [] := fun e => by rw [e] at h; cases h
  exact ⟨l.dropLast, l.getLast hn, (List.dropLast_concat_getLast hn).symm, by rw [List.length_dropLast, h]; rfl⟩

/-- the nodes of a row of lenses -/
theorem mem_bsubs_row (kd : Int) (c : BT) : ∀ (k : Nat) (l : List LT) (ps : List Nat), l.length = k + 1 → ps.length = k → (c ∈ bsubs (rowB kd l ps) ↔ (∃ u, u ∈ l ∧ c ∈ bsubs (toB u)) ∨ ∃ m t p, l[m + 1]? = some t ∧ ps[m]? = some p ∧ c = .two kd p (rowB kd (l.take (m + 1)) (ps.take m)) (toB t))
  | 0, l, ps, h1, h2 => by
    match l, h1 with
    | [t], _ =>
      rw [rowB_one]
      constructor
      · intro h; exact .inl ⟨t, List.mem_cons_self, h⟩
      · rintro (⟨u, hu, h⟩ | ⟨m, t', p, h3, _⟩)
        · rw [List.mem_singleton] at hu; rw [← hu]; exact h
        · simp at h3
  | k + 1, l, ps, h1, h2 => by
    obtain ⟨r, x, rfl, hr⟩ := snoc_split h1
    obtain ⟨q, j, rfl, hq⟩ := snoc_split h2
    have ih := mem_bsubs_row kd c k r q hr hq
    rw [rowB_snoc kd x j r q (by omega), bsubs, List.mem_cons, List.mem_append, ih]
    constructor
    · rintro (h | (⟨u, hu, h⟩ | ⟨m, t, p, e1, e2, e3⟩) | h)
      · refine .inr ⟨k, x, j, ?_, ?_, ?_⟩
        · rw [← hr]; simp
        · rw [← hq]; simp
        · rw [h]
          have a1 : (r ++ [x]).take (k + 1) = r := by rw [← hr]; simp
          have a2 : (q ++ [j]).take k = q := by rw [← hq]; simp
          rw [a1, a2]
      · exact .inl ⟨u, List.mem_append_left _ hu, h⟩
      · have b1 := (List.getElem?_eq_some_iff.1 e1).1
        have b2 := (List.getElem?_eq_some_iff.1 e2).1
        refine .inr ⟨m, t, p, by rw [List.getElem?_append_left b1]; exact e1, by rw [List.getElem?_append_left b2]; exact e2, ?_⟩
        rw [List.take_append_of_le_length (by omega), List.take_append_of_le_length (by omega)]
        exact e3
      · exact .inl ⟨x, List.mem_append_right _ List.mem_cons_self, h⟩
    · rintro (⟨u, hu, h⟩ | ⟨m, t, p, e1, e2, e3⟩)
      · rcases List.mem_append.1 hu with hu | hu
        · exact .inr (.inl (.inl ⟨u, hu, h⟩))
        · rw [List.mem_singleton] at hu; rw [hu] at h; exact .inr (.inr h)
      · by_cases e : m = k
        · subst e
          refine .inl ?_
          have a1 : (r ++ [x]).take (m + 1) = r := by rw [← hr]; simp
          have a2 : (q ++ [j]).take m = q := by rw [← hq]; simp
          have a3 : (r ++ [x])[m + 1]? = some x := by rw [← hr]; simp
          have a4 : (q ++ [j])[m]? = some j := by rw [← hq]; simp
          rw [a3] at e1
          rw [a4] at e2
          rw [e3, a1, a2, ← Option.some.inj e1, ← Option.some.inj e2]
        · have b1 := (List.getElem?_eq_some_iff.1 e1).1
          rw [List.length_append, List.length_singleton] at b1
          have b2 : m < q.length := by omega
          have b3 : m + 1 < r.length := by omega
          rw [List.getElem?_append_left b3] at e1
          rw [List.getElem?_append_left b2] at e2
          rw [List.take_append_of_le_length (by omega), List.take_append_of_le_length (by omega)] at e3
          exact .inr (.inl (.inr ⟨m, t, p, e1, e2, e3⟩))

theorem mem_bsubs {kd : Int} {l : List LT} {ps : List Nat} (h : ps.length + 1 = l.length) (c : BT) : c ∈ bsubs (rowB kd l ps) ↔ (∃ u, u ∈ l ∧ c ∈ bsubs (toB u)) ∨ ∃ m t p, l[m + 1]? = some t ∧ ps[m]? = some p ∧ c = .two kd p (rowB kd (l.take (m + 1)) (ps.take m)) (toB t) :=
  mem_bsubs_row kd c ps.length l ps h.symm rfl

mutual
/-- a node that has a witness: a joint has one -/
theorem acc_link : ∀ (t : LT), NOk t → ∀ c, c ∈ bsubs (toB t) → ∀ u, BWit c u → ∃ x, x ∈ joints_ t ∧ ∃ u', JWit x.1 x.2 u'
  | .same l i j, h, c, hc, u, hu => by
    rw [toB, bsubs, List.mem_singleton] at hc
    subst hc
    exact hu.elim
  | .fixed l i j v d a, h, c, hc, u, hu => by
    rw [toB, bsubs, List.mem_singleton] at hc
    subst hc
    exact hu.elim
  | .swap p a b, h, c, hc, u, hu => by
    rw [toB, bsubs, List.mem_cons, List.mem_append] at hc
    rw [joints_]
    rcases hc with rfl | hc | hc
    · exact ⟨_, List.mem_cons_self, u, (swap_joint h u).1 hu⟩
    · obtain ⟨x, h1, h2⟩ := acc_link a (h.part (by simp [parts])) c hc u hu
      exact ⟨x, List.mem_cons_of_mem _ (List.mem_append_left _ h1), h2⟩
    · obtain ⟨x, h1, h2⟩ := acc_link b (h.part (by simp [parts])) c hc u hu
      exact ⟨x, List.mem_cons_of_mem _ (List.mem_append_right _ h1), h2⟩
  | .group a, h, c, hc, u, hu => by
    rw [toB] at hc
    rw [joints_]
    exact acc_link a (h.part (by simp [parts])) c hc u hu
  | .many p a, h, c, hc, u, hu => by
    rw [toB, bsubs, List.mem_cons] at hc
    rw [joints_]
    rcases hc with rfl | hc
    · obtain ⟨u', h1⟩ := many_to h hu
      exact ⟨_, List.mem_append_right _ List.mem_cons_self, u', h1⟩
    · obtain ⟨x, h1, h2⟩ := acc_link a (h.part (by simp [parts])) c hc u hu
      exact ⟨x, List.mem_append_left _ h1, h2⟩
  | .row l ps, h, c, hc, u, hu => by
    have h0 : ps.length + 1 = l.length := h.self
    rw [toB] at hc
    rw [joints_]
    rcases (mem_bsubs h0 c).1 hc with ⟨y, h1, h2⟩ | ⟨m, t, p, h1, h2, h3⟩
    · obtain ⟨x, h3, h4⟩ := acc_linkL l (fun t ht => h.part ht) y h1 c h2 u hu
      exact ⟨x, (mem_joints_row _ _ _).2 (.inl ⟨y, h1, h3⟩), h4⟩
    · rw [h3] at hu
      exact ⟨(.row l ps, m), (mem_joints_row _ _ _).2 (.inr ⟨m, (List.getElem?_eq_some_iff.1 h1).1, rfl⟩), u, (row_joint h h1 u).1 hu⟩
  | .choice l ps, h, c, hc, u, hu => by
    have h0 : ps.length + 1 = l.length := h.self
    rw [toB] at hc
    rw [joints_]
    rcases (mem_bsubs h0 c).1 hc with ⟨y, h1, h2⟩ | ⟨m, t, p, h1, h2, h3⟩
    · obtain ⟨x, h3, h4⟩ := acc_linkL l (fun t ht => h.part ht) y h1 c h2 u hu
      exact ⟨x, (mem_joints_row _ _ _).2 (.inl ⟨y, h1, h3⟩), h4⟩
    · rw [h3] at hu
      exact ⟨(.choice l ps, m), (mem_joints_row _ _ _).2 (.inr ⟨m, (List.getElem?_eq_some_iff.1 h1).1, rfl⟩), u, (choice_joint h h1 u).1 hu⟩
theorem acc_linkL : ∀ (l : List LT), (∀ t, t ∈ l → NOk t) → ∀ t, t ∈ l → ∀ c, c ∈ bsubs (toB t) → ∀ u, BWit c u → ∃ x, x ∈ joints_ t ∧ ∃ u', JWit x.1 x.2 u'
  | [], h, t, ht => by cases ht
  | x :: l, h, t, ht => by
    rcases List.mem_cons.1 ht with e | ht
    · rw [e]; exact acc_link x (h x List.mem_cons_self)
    · exact acc_linkL l (fun t ht => h t (List.mem_cons_of_mem _ ht)) t ht
end

mutual
/-- a joint's witness is one of a node at the same place -/
theorem ref_link : ∀ (t : LT), NOk t → ∀ x, x ∈ joints_ t → ∀ p, (placesOf x.1)[x.2]? = some p → ∀ u, JWit x.1 x.2 u → ∃ c, c ∈ bsubs (toB t) ∧ bat c = some p ∧ BWit c u
  | .same l i j, h, x, hx, p, hp, u, hu => by
    rw [joints_] at hx
    cases hx
  | .fixed l i j v d a, h, x, hx, p, hp, u, hu => by
    rw [joints_] at hx
    cases hx
  | .swap q a b, h, x, hx, p, hp, u, hu => by
    rw [joints_, List.mem_cons, List.mem_append] at hx
    rw [toB, bsubs]
    rcases hx with rfl | hx | hx
    · exact ⟨_, List.mem_cons_self, hp, (swap_joint h u).2 hu⟩
    · obtain ⟨c, h1, h2⟩ := ref_link a (h.part (by simp [parts])) x hx p hp u hu
      exact ⟨c, List.mem_cons_of_mem _ (List.mem_append_left _ h1), h2⟩
    · obtain ⟨c, h1, h2⟩ := ref_link b (h.part (by simp [parts])) x hx p hp u hu
      exact ⟨c, List.mem_cons_of_mem _ (List.mem_append_right _ h1), h2⟩
  | .group a, h, x, hx, p, hp, u, hu => by
    rw [joints_] at hx
    rw [toB]
    exact ref_link a (h.part (by simp [parts])) x hx p hp u hu
  | .many q a, h, x, hx, p, hp, u, hu => by
    rw [joints_, List.mem_append, List.mem_singleton] at hx
    rw [toB, bsubs]
    rcases hx with hx | rfl
    · obtain ⟨c, h1, h2⟩ := ref_link a (h.part (by simp [parts])) x hx p hp u hu
      exact ⟨c, List.mem_cons_of_mem _ h1, h2⟩
    · exact ⟨_, List.mem_cons_self, hp, many_of h hu⟩
  | .row l ps, h, x, hx, p, hp, u, hu => by
    have h0 : ps.length + 1 = l.length := h.self
    rw [joints_] at hx
    rw [toB]
    rcases (mem_joints_row _ _ _).1 hx with ⟨y, h1, h2⟩ | ⟨m, h1, rfl⟩
    · obtain ⟨c, h3, h4⟩ := ref_linkL l (fun t ht => h.part ht) y h1 x h2 p hp u hu
      exact ⟨c, (mem_bsubs h0 c).2 (.inl ⟨y, h1, h3⟩), h4⟩
    · have ht : l[m + 1]? = some l[m + 1] := List.getElem?_eq_getElem h1
      exact ⟨_, (mem_bsubs h0 _).2 (.inr ⟨m, _, p, ht, hp, rfl⟩), rfl, (row_joint h ht u).2 hu⟩
  | .choice l ps, h, x, hx, p, hp, u, hu => by
    have h0 : ps.length + 1 = l.length := h.self
    rw [joints_] at hx
    rw [toB]
    rcases (mem_joints_row _ _ _).1 hx with ⟨y, h1, h2⟩ | ⟨m, h1, rfl⟩
    · obtain ⟨c, h3, h4⟩ := ref_linkL l (fun t ht => h.part ht) y h1 x h2 p hp u hu
      exact ⟨c, (mem_bsubs h0 c).2 (.inl ⟨y, h1, h3⟩), h4⟩
    · have ht : l[m + 1]? = some l[m + 1] := List.getElem?_eq_getElem h1
      exact ⟨_, (mem_bsubs h0 _).2 (.inr ⟨m, _, p, ht, hp, rfl⟩), rfl, (choice_joint h ht u).2 hu⟩
theorem ref_linkL : ∀ (l : List LT), (∀ t, t ∈ l → NOk t) → ∀ t, t ∈ l → ∀ x, x ∈ joints_ t → ∀ p, (placesOf x.1)[x.2]? = some p → ∀ u, JWit x.1 x.2 u → ∃ c, c ∈ bsubs (toB t) ∧ bat c = some p ∧ BWit c u
  | [], h, t, ht => by cases ht
  | y :: l, h, t, ht => by
    rcases List.mem_cons.1 ht with e | ht
    · rw [e]; exact ref_link y (h y List.mem_cons_self)
    · exact ref_linkL l (fun t ht => h t (List.mem_cons_of_mem _ ht)) t ht
end

end Go.Proofs.YtlljggefbngkeaaGreatDoor

namespace Go.Proofs.YtlljggefbngkeaaGreatDoor
open Go.RowKit

theorem K0.grownz {w w' : World} (h : K0 w w') : w.grownBy w' none := ⟨h.os, h.tape, h.output, h.size, fun k hk _ => h.block k hk trivial⟩

set_option maxHeartbeats 400000 in
theorem lnumz (x : Int) (w : World) (h0 : 0 ≤ x) (h1 : x ≤ 100) : Calls Tryz.prog 18 #[.int .i64 x] w fun e w' => e = .returned (.int .i64 x) ∧ w' = w := by
  have hw : wrap64 x = x := by unfold wrap64; omega
  go_enter Tryz.func18, Tryz.ntmps18
  go_wp2
  go_ret
  first
    | exact ⟨rfl, rfl⟩
    | exact ⟨by rw [hw], rfl⟩

theorem parse_err {s : ByteArray} {c : Int} {p : Nat} (h : ErrOut s c p) (hm : s.size ≤ maxLen) (w : World) :
    Calls Tryz.prog 28 #[.string s] w fun e w' => e = .returned (.tuple #[.pointer none, .int .i64 c, .int .i64 (p : Int)]) ∧ K0 w w' := by
  rcases h with ⟨hs, rfl, rfl⟩ | ⟨hs, h⟩
  · refine (parse_long s w hs hm).mono ?_
    rintro e w' ⟨hk, ⟨_, he⟩ | ⟨h, _⟩⟩
    · exact ⟨he, hk⟩
    · omega
  · refine (parse_short s w hs).mono ?_
    rintro e w' ⟨hk, ⟨h1, _⟩ | ⟨_, he⟩⟩
    · omega
    · cases hr : gRows s (6 * s.size + 5) 0 with
      | err q =>
        rw [hr] at h he
        obtain ⟨rfl, rfl⟩ := h
        exact ⟨he, hk⟩
      | ok x j =>
        rw [hr] at h he
        rcases h with ⟨hj, rfl, rfl⟩ | ⟨hj, hF, rfl⟩
        · rcases he with ⟨_, he⟩ | ⟨h1, _⟩
          · exact ⟨he, hk⟩
          · omega
        · rcases he with ⟨h1, _⟩ | ⟨_, o, hF', he⟩
          · omega
          · obtain rfl := hF.det hF'
            exact ⟨he, hk⟩

theorem parse_tree {s : ByteArray} {t : LT} (h : TreeOf s t) (w : World) :
    Calls Tryz.prog 28 #[.string s] w fun e w' => (∃ g, e = .returned (.tuple #[.pointer (some ⟨g, 0, none⟩), .int .i64 0, .int .i64 0]) ∧ GlassAt w' g (toB t)) ∧ K0 w w' := by
  obtain ⟨hs, x, hr, hF, rfl⟩ := h
  refine (parse_short s w hs).mono ?_
  rintro e w' ⟨hk, ⟨h1, _⟩ | ⟨_, he⟩⟩
  · omega
  · rw [hr] at he
    rcases he with ⟨h1, _⟩ | ⟨_, o, hF', he⟩
    · omega
    · obtain rfl := hF.det hF'
      obtain ⟨g, he1, _, he2⟩ := he
      rw [toB_joinAlt]
      exact ⟨⟨g, he1, he2⟩, hk⟩

/-- the tree is the one -/
theorem TreeOf.det {s : ByteArray} {t u : LT} (h : TreeOf s t) (k : TreeOf s u) : t = u := by
  obtain ⟨_, x, h1, _, rfl⟩ := h
  obtain ⟨_, y, h2, _, rfl⟩ := k
  rw [h1] at h2
  cases h2
  rfl
theorem TreeOf.no_err {s : ByteArray} {t : LT} {c : Int} {p : Nat} (h : TreeOf s t) (k : ErrOut s c p) : False := by
  obtain ⟨hs, x, h1, h2, _⟩ := h
  rcases k with ⟨k, _⟩ | ⟨_, k⟩
  · omega
  · rw [h1] at k
    rcases k with ⟨k, _⟩ | ⟨_, k, _⟩
    · omega
    · have := h2.det k
      cases this

/-- what checked answers -/
def CkPost (s : ByteArray) (w : World) (e : Ending) (w' : World) : Prop :=
  w.grownBy w' none ∧ ((∃ c : Int, (c = 1 ∨ c = 2 ∨ c = 3) ∧ e = .returned (.tuple #[.pointer none, .int .i64 c, .bool true])) ∨
    (∃ t g, TreeOf s t ∧ GlassAt w' g (toB t) ∧ (((∃ x u, x ∈ joints_ t ∧ JWit x.1 x.2 u) ∧ e = .returned (.tuple #[.pointer (some ⟨g, 0, none⟩), .int .i64 4, .bool true])) ∨
      ((∀ x, x ∈ joints_ t → ∀ u, ¬ JWit x.1 x.2 u) ∧ e = .returned (.tuple #[.pointer (some ⟨g, 0, none⟩), .int .i64 0, .bool true])))))

set_option maxRecDepth 100000 in
set_option maxHeartbeats 3200000 in
theorem checked_said (s : ByteArray) (w : World) (hm : s.size ≤ maxLen) (hTab : Tab w) :
    Calls Tryz.prog 12 #[.string s] w fun e w' => CkPost s w e w' := by
  have HR := hide (check_said s w hm hTab)
  go_enter Tryz.func12, Tryz.ntmps12
  go_wp2_with fail
  refine (unhide HR).mono ?_
  rintro e w1 ⟨hg1, (⟨c, p, h1, hc, rfl⟩ | ⟨t, h1, (⟨t', n, p, u, q1, q2, q3, q4, rfl⟩ | ⟨q, rfl⟩)⟩)⟩
  · have HQ := hide (parse_err h1 hm w1)
    have HN := hide (fun W => lnumz c W (by omega) (by omega))
    have q1 : (c == c) = true := by simp
    have q2 : (((p : Nat) : Int) == ((p : Nat) : Int)) = true := by simp
    have q3 : (c != 0) = true := by rw [bne_iff_ne]; omega
    have H1 := hide (And.intro hc hg1)
    clear h1 hg1 hc HR hTab
    go_wp2_with fail
    refine (unhide HQ).mono ?_
    rintro e w2 ⟨rfl, hk2⟩
    go_wp2_with fail
    refine (unhide HN _).mono ?_
    rintro e w3 ⟨rfl, rfl⟩
    go_wp2
    go_ret3
    exact ⟨(unhide H1).2.trans hk2.grownz, .inl ⟨c, (unhide H1).1, rfl⟩⟩
  · have HQ := hide (parse_tree h1 w1)
    have HN := hide (fun W => lnumz 4 W (by omega) (by omega))
    have H1 := hide (And.intro h1 (And.intro (show ∃ x u, x ∈ joints_ t ∧ JWit x.1 x.2 u from ⟨(t', n), u, q1, q3⟩) hg1))
    clear h1 q1 q2 q3 q4 hg1 HR hTab
    go_wp2_with fail
    refine (unhide HQ).mono ?_
    rintro e w2 ⟨⟨g, rfl, hG⟩, hk2⟩
    have H2 := hide (And.intro hG hk2)
    clear hG hk2
    go_wp2_with fail
    refine (unhide HN _).mono ?_
    rintro e w3 ⟨rfl, rfl⟩
    go_wp2
    go_ret3
    obtain ⟨a1, a2, a3⟩ := unhide H1
    obtain ⟨b1, b2⟩ := unhide H2
    exact ⟨a3.trans b2.grownz, .inr ⟨t, g, a1, b1, .inl ⟨a2, rfl⟩⟩⟩
  · have HQ := hide (parse_tree h1 w1)
    have HN := hide (fun W => lnumz 0 W (by omega) (by omega))
    have H1 := hide (And.intro h1 (And.intro q hg1))
    clear h1 q hg1 HR hTab
    go_wp2_with fail
    refine (unhide HQ).mono ?_
    rintro e w2 ⟨⟨g, rfl, hG⟩, hk2⟩
    have H2 := hide (And.intro hG hk2)
    clear hG hk2
    go_wp2_with fail
    refine (unhide HN _).mono ?_
    rintro e w3 ⟨rfl, rfl⟩
    go_wp2_with fail
    refine (unhide HN _).mono ?_
    rintro e w3 ⟨rfl, rfl⟩
    go_wp2
    go_ret3
    obtain ⟨a1, a2, a3⟩ := unhide H1
    obtain ⟨b1, b2⟩ := unhide H2
    exact ⟨a3.trans b2.grownz, .inr ⟨t, g, a1, b1, .inr ⟨a2, rfl⟩⟩⟩

end Go.Proofs.YtlljggefbngkeaaGreatDoor

namespace Go.Proofs.YtlljggefbngkeaaGreatDoor
open Go.RowKit

set_option maxRecDepth 100000 in
set_option maxHeartbeats 3200000 in
theorem accepted_walk (s d : ByteArray) (w : World) (hm : s.size ≤ maxLen) (hd : d.size ≤ 200000000) (hTab : Tab w) :
    Calls Tryz.prog 3 #[.string s, .string d] w fun e w' => e = .returned (.bool true) ∧ w.grownBy w' none := by
  have HR := hide (checked_said s w hm hTab)
  clear hTab
  go_enter Tryz.func3, Tryz.ntmps3
  go_wp2_with fail
  refine (unhide HR).mono ?_
  rintro e w1 ⟨hg1, (⟨c, hc, rfl⟩ | ⟨t, g, hT, hG, (⟨_, rfl⟩ | ⟨hN, rfl⟩)⟩)⟩
  · have q1 : (c != 0) = true := by rw [bne_iff_ne]; omega
    clear HR hc
    go_wp2
    go_ret
    exact ⟨rfl, hg1⟩
  · clear HR hG hT
    go_wp2
    go_ret
    exact ⟨rfl, hg1⟩
  · obtain ⟨P, L, r, f, gp, cap, gl, cl, xs, hM, hPl, hLl, hLaid⟩ := hG
    have c1 := hM.c1
    have H1 := hide (And.intro hM (And.intro hPl (And.intro hLaid (And.intro hN (And.intro hT hg1)))))
    have hgl := hM.lt
    clear HR hM hPl hLaid hN hT hg1
    go_wp2_with fail
    go_loopg [8] (L.length + 2) (fun gk iv wv => ∃ m : Nat, iv = .int .i64 (m : Int) ∧ m ≤ L.length ∧ L.length - m < gk ∧ K0 w1 wv)
    case atStart => exact ⟨0, rfl, Nat.zero_le _, by omega, K0.refl _⟩
    case round =>
      obtain ⟨m, rfl, hm1, hgk, hK⟩ := hrel
      have c1' : wr.cell? ⟨g, 1, none⟩ = some (.slice (some ⟨gl, 0, none⟩) L.length cl) := by
        rw [World.cell?_of_block (w := w1) (hK.heap hgl)]
        exact c1
      have hw1 : IntKind.i64.wrap ((m : Int) + 1) = (m : Int) + 1 := IntWalk.i64_in _ (by omega)
      by_cases hlt : m < L.length
      · have hd1 : (m : Int) < (L.length : Int) := by omega
        obtain ⟨hM, hPl, hLaid, hN, hT, hg1⟩ := unhide H1
        obtain ⟨c, hc, hln⟩ := hLaid.2.2.2 m (Nat.zero_le _) hlt
        have hno : ¬ BWit c d.data.toList := fun h => by
          obtain ⟨x, hx, u', hu⟩ := acc_link t (tree_wf hT).1 c hc _ h
          exact hN x hx u' hu
        have HW := hide (wrong_any (d := d) (hM.k0 hK) hPl hln hd)
        have HN := hide hno
        clear hM hPl hLaid hN hT hg1 hc hln hno
        go_wp2_with fail
        refine (unhide HW).mono ?_
        rintro e w4 ⟨x, rfl, hx, hK4⟩
        obtain rfl : x = false := by
          cases x with
          | false => rfl
          | true => exact absurd (hx.1 rfl) (unhide HN)
        have HK := hide (hK.trans hK4)
        clear hx hK hK4 HW HN
        go_wp2_with fail
        go_roundg (gk - 1)
        case measure => omega
        case rel => exact ⟨m + 1, by go_num, by omega, by omega, unhide HK⟩
      · have hd1 : ¬ (m : Int) < (L.length : Int) := by omega
        obtain ⟨hM, hPl, hLaid, hN, hT, hg1⟩ := unhide H1
        have HG := hide (hg1.trans hK.grownz)
        clear hM hPl hLaid hN hT hg1 hK
        go_wp2
        go_ret
        exact ⟨rfl, unhide HG⟩

theorem LN.kindAt {P : List Pat} {L : List Lns} {c : BT} {j p : Nat} (h : LN P L c j) (hp : bat c = some p) : ∃ l, L[j]? = some l ∧ l.kind ≠ 112 ∧ l.kind ≠ 107 ∧ l.at_ = p := by
  cases c with
  | pat t => cases hp
  | key t v d => cases hp
  | two kd q a b =>
    obtain ⟨l, h1, _, h2, h3, h4, _⟩ := h
    obtain rfl : q = p := Option.some.inj hp
    exact ⟨l, h1, by omega, by omega, h4⟩
  | star q a =>
    obtain ⟨l, h1, _, h2, h3, _⟩ := h
    obtain rfl : q = p := Option.some.inj hp
    exact ⟨l, h1, by omega, by omega, h3⟩

theorem txt_list (u : List UInt8) : (txt u).data.toList = u := by simp [txt]
theorem K0.of_grown {w w' : World} (h : w.grownBy w' none) : K0 w w' := Kp.of_grown h (fun _ e => by cases e)

set_option maxRecDepth 100000 in
set_option maxHeartbeats 3200000 in
theorem refused_walk (s : ByteArray) (w : World) (hm : s.size ≤ maxLen) (hTab : Tab w) :
    Calls Tryz.prog 4 #[.string s] w fun e w' => e = .returned (.bool true) ∧ w.grownBy w' none := by
  have HR := hide (checked_said s w hm hTab)
  have HTab := hide hTab
  clear hTab
  go_enter Tryz.func4, Tryz.ntmps4
  go_wp2_with fail
  refine (unhide HR).mono ?_
  rintro e w1 ⟨hg1, (⟨c, hc, rfl⟩ | ⟨t, g, hT, hG, (⟨hW, rfl⟩ | ⟨hN, rfl⟩)⟩)⟩
  · have q1 : (c != 4) = true := by rw [bne_iff_ne]; omega
    clear HR hc
    go_wp2
    go_ret
    exact ⟨rfl, hg1⟩
  · have HC := hide (check_said s w1 hm ((unhide HTab).below ⟨hg1.os, hg1.tape, hg1.output, hg1.size, fun k hk => hg1.block k hk (by simp)⟩))
    have H1 := hide (And.intro hT (And.intro hG (And.intro hW hg1)))
    clear HR HTab hT hG hW hg1
    go_wp2_with fail
    refine (unhide HC).mono ?_
    obtain ⟨hT, hG, hW, hg1⟩ := unhide H1
    rintro e w2 ⟨hg2, (⟨c, p, h1, _, rfl⟩ | ⟨t2, hT2, (⟨t', n, p, u, q1, q2, q3, q4, rfl⟩ | ⟨q, rfl⟩)⟩)⟩
    · exact (hT.no_err h1).elim
    · obtain rfl := hT.det hT2
      obtain ⟨c, hc, hat, hwit⟩ := ref_link t (tree_wf hT).1 (t', n) q1 p q2 u q3
      obtain ⟨P, L, r, f, gp, cap, gl, cl, xs, hM, hPl, hLl, hLaid⟩ := hG.k0 (K0.of_grown hg2)
      obtain ⟨j, hj⟩ := LN.sub hLaid.2.2.1 c hc
      obtain ⟨lj, hlj, hk1, hk2, hk3⟩ := hj.kindAt hat
      have hjl := hj.lt
      have c1 := hM.c1
      have hgl := hM.lt
      have hgg := hM.ll
      have H2 := hide (And.intro hM (And.intro hPl (And.intro hLaid (And.intro (hg1.trans hg2) (And.intro hj (And.intro hwit q4))))))
      have H3 := hide (And.intro hlj (And.intro hk1 (And.intro hk2 hk3)))
      clear HC H1 hT2 q1 q2 q3 q4 hc hat hwit hM hPl hLaid hj hlj hk1 hk2 hk3 hT hG hW hg1 hg2
      go_wp2_with fail
      go_loopg [9] (L.length + 2) (fun gk iv wv => ∃ m : Nat, iv = .int .i64 (m : Int) ∧ m ≤ j ∧ L.length - m < gk ∧ K0 w2 wv)
      case atStart => exact ⟨0, rfl, Nat.zero_le _, by omega, K0.refl _⟩
      case round =>
        obtain ⟨m, rfl, hm1, hgk, hK⟩ := hrel
        obtain ⟨hM, hPl, hLaid, hg, hj, hwit, q4⟩ := unhide H2
        have hd1 : (m : Int) < (L.length : Int) := by omega
        have hw1 : IntKind.i64.wrap ((m : Int) + 1) = (m : Int) + 1 := IntWalk.i64_in _ (by omega)
        have hlm : L[m]? = some L[m] := List.getElem?_eq_getElem (by omega)
        have c1' := (hM.k0 hK).c1
        have k0 := (hM.k0 hK).cells m _ hlm 0 (by omega)
        have k3 := (hM.k0 hK).cells m _ hlm 3 (by omega)
        obtain ⟨c', hc', himp⟩ : ∃ c', LN P L c' m ∧ (m = j → BWit c' u) := by
          by_cases e : m = j
          · subst e; exact ⟨c, hj, fun _ => hwit⟩
          · obtain ⟨c', _, h⟩ := hLaid.2.2.2 m (Nat.zero_le _) (by omega)
            exact ⟨c', h, fun h' => absurd h' e⟩
        have hsu : (txt u).size ≤ 200000000 := by rw [txt_size]; omega
        have HW := hide (wrong_any (d := txt u) (hM.k0 hK) hPl hc' hsu)
        have HM := hide (And.intro himp (And.intro hK hg))
        have hfar : m = j → L[m].kind ≠ 112 ∧ L[m].kind ≠ 107 ∧ L[m].at_ = p := fun e => by
          obtain ⟨a1, a2, a3, a4⟩ := unhide H3
          subst e
          rw [hlm] at a1
          obtain rfl := Option.some.inj a1
          exact ⟨a2, a3, a4⟩
        have HF := hide hfar
        simp [lnsCells] at k0 k3
        clear hM hPl hLaid hg hj hwit q4 hK hc' himp hfar hlm hsu
        generalize L[m].kind = kd at *
        generalize L[m].at_ = pa at *
        by_cases e1 : kd = 112
        · subst e1
          go_wp2_with fail
          go_roundg (gk - 1)
          case measure => omega
          case rel =>
            have : m ≠ j := fun e => (unhide HF e).1 rfl
            exact ⟨m + 1, by go_num, by omega, by omega, (unhide HM).2.1⟩
        · have f1 : (kd != 112) = true := by rw [bne_iff_ne]; exact e1
          by_cases e2 : kd = 107
          · subst e2
            go_wp2_with fail
            go_roundg (gk - 1)
            case measure => omega
            case rel =>
              have : m ≠ j := fun e => (unhide HF e).2.1 rfl
              exact ⟨m + 1, by go_num, by omega, by omega, (unhide HM).2.1⟩
          · have f2 : (kd != 107) = true := by rw [bne_iff_ne]; exact e2
            by_cases e3 : pa = p
            · subst e3
              have f3 : (((pa : Nat) : Int) == ((pa : Nat) : Int)) = true := by simp
              go_wp2_with fail
              refine (unhide HW).mono ?_
              rintro e w4 ⟨x, rfl, hx, hK4⟩
              cases x with
              | true =>
                have HG := hide ((unhide HM).2.2.trans ((unhide HM).2.1.trans hK4).grownz)
                clear hx hK4
                go_wp2
                go_ret
                exact ⟨rfl, unhide HG⟩
              | false =>
                have HG := hide (And.intro ((unhide HM).2.1.trans hK4) (show m ≠ j from fun e => by
                  have := hx.2 (by rw [txt_list]; exact (unhide HM).1 e)
                  cases this))
                clear hx hK4
                go_wp2_with fail
                go_roundg (gk - 1)
                case measure => omega
                case rel =>
                  have := (unhide HG).2
                  exact ⟨m + 1, by go_num, by omega, by omega, (unhide HG).1⟩
            · have f3 : (((pa : Nat) : Int) == ((p : Nat) : Int)) = false := by rw [beq_eq_false_iff_ne]; omega
              go_wp2_with fail
              go_roundg (gk - 1)
              case measure => omega
              case rel =>
                have : m ≠ j := fun e => e3 (unhide HF e).2.2
                exact ⟨m + 1, by go_num, by omega, by omega, (unhide HM).2.1⟩
    · obtain rfl := hT.det hT2
      obtain ⟨x, u, hx, hu⟩ := hW
      exact (q x hx u hu).elim
  · clear HR hG hT
    go_wp2
    go_ret
    exact ⟨rfl, hg1⟩

end Go.Proofs.YtlljggefbngkeaaGreatDoor
