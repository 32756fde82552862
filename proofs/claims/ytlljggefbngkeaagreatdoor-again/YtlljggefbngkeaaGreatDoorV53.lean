import Derived.Test.YtlljggefbngkeaaGreatDoorV33
import Derived.Test.YtlljggefbngkeaaGreatDoorV09
import Derived.Test.YtlljggefbngkeaaGreatDoorV45
import Derived.Test.YtlljggefbngkeaaGreatDoorV52
import Derived.Test.YtlljggefbngkeaaGreatDoorV32
namespace Go.Proofs.YtlljggefbngkeaaGreatDoor
open Go.RowKit
/-! A pattern is read the same wherever the same bytes stand. -/

theorem spans_move (s s' : ByteArray) : ∀ (n i : Nat) (l r : List UInt8) (j : Nat), gSpans s n i l = .ok r j → i < j ∧ ∀ i' n', (∀ k, i + k < j → pk s' (i' + k) = pk s (i + k)) → j ≤ i + n' → gSpans s' n' i' l = .ok r (i' + (j - i))
  | 0, i, l, r, j, h => by rw [gSpans] at h; cases h
  | n + 1, i, l, r, j, h => by
    rw [gSpans] at h
    split at h
    case isFalse => cases h
    rename_i h0
    split at h
    · rename_i h1
      split at h
      case isFalse => cases h
      rename_i h2
      split at h
      · rename_i h3
        injection h with e1 e2
        subst e1 e2
        refine ⟨by omega, fun i' n' ha hn => ?_⟩
        obtain ⟨m, rfl⟩ : ∃ m, n' = m + 1 := ⟨n' - 1, by omega⟩
        have a0 := ha 0 (by omega)
        have a1 := ha 1 (by omega)
        have a2 := ha 2 (by omega)
        have a3 := ha 3 (by omega)
        simp only [Nat.add_zero] at a0
        rw [gSpans, a0, a1, a2, a3, if_pos h0, if_pos h1, if_pos h2, if_pos h3]
        congr 1; omega
      · rename_i h3
        obtain ⟨b, ih⟩ := spans_move s s' n _ _ _ _ h
        refine ⟨by omega, fun i' n' ha hn => ?_⟩
        obtain ⟨m, rfl⟩ : ∃ m, n' = m + 1 := ⟨n' - 1, by omega⟩
        have a0 := ha 0 (by omega)
        have a1 := ha 1 (by omega)
        have a2 := ha 2 (by omega)
        have a3 := ha 3 (by omega)
        simp only [Nat.add_zero] at a0
        rw [gSpans, a0, a1, a2, a3, if_pos h0, if_pos h1, if_pos h2, if_neg h3]
        rw [ih (i' + 3) m (fun k hk => by have := ha (3 + k) (by omega); simpa only [Nat.add_assoc] using this) (by omega)]
        congr 1; omega
    · rename_i h1
      split at h
      · rename_i h3
        injection h with e1 e2
        subst e1 e2
        refine ⟨by omega, fun i' n' ha hn => ?_⟩
        obtain ⟨m, rfl⟩ : ∃ m, n' = m + 1 := ⟨n' - 1, by omega⟩
        have a0 := ha 0 (by omega)
        have a1 := ha 1 (by omega)
        simp only [Nat.add_zero] at a0
        rw [gSpans, a0, a1, if_pos h0, if_neg h1, if_pos h3]
        congr 1; omega
      · rename_i h3
        obtain ⟨b, ih⟩ := spans_move s s' n _ _ _ _ h
        refine ⟨by omega, fun i' n' ha hn => ?_⟩
        obtain ⟨m, rfl⟩ : ∃ m, n' = m + 1 := ⟨n' - 1, by omega⟩
        have a0 := ha 0 (by omega)
        have a1 := ha 1 (by omega)
        simp only [Nat.add_zero] at a0
        rw [gSpans, a0, a1, if_pos h0, if_neg h1, if_neg h3]
        rw [ih (i' + 1) m (fun k hk => by have := ha (1 + k) (by omega); simpa only [Nat.add_assoc] using this) (by omega)]
        congr 1; omega

theorem gRep_move (s s' : ByteArray) (t : PT) (j j' : Nat) (h : pk s' j' = pk s j) : gRep s' t j' = ((gRep s t j).1, j' + ((gRep s t j).2 - j)) := by
  unfold gRep
  rw [h]
  split
  · exact Prod.ext rfl (by show j' + 1 = j' + (j + 1 - j); omega)
  · exact Prod.ext rfl (by show j' = j' + (j - j); omega)

theorem Res.bind_ok {α β : Type} {r : Res α} {f : α → Nat → Res β} {b : β} {j : Nat} (h : r.bind f = .ok b j) : ∃ a k, r = .ok a k ∧ f a k = .ok b j := by
  cases r with
  | ok a k => exact ⟨a, k, rfl, h⟩
  | err p => cases h
theorem Res.map_ok {α β : Type} {r : Res α} {f : α → β} {b : β} {j : Nat} (h : r.map f = .ok b j) : ∃ a, r = .ok a j ∧ b = f a := by
  cases r with
  | ok a k => injection h with e1 e2; subst e2; exact ⟨a, rfl, e1.symm⟩
  | err p => cases h

theorem g_move (s s' : ByteArray) : ∀ n,
    (∀ i t j, gBase s n i = .ok t j → ∀ i' n', (∀ k, i + k < j → pk s' (i' + k) = pk s (i + k)) → 2 * (j - i) ≤ n' → gBase s' n' i' = .ok t (i' + (j - i))) ∧
    (∀ i l j, gBranch s n i = .ok l j → ∀ i' n', (∀ k, i + k ≤ j → pk s' (i' + k) = pk s (i + k)) → 2 * (j - i) + 1 ≤ n' → gBranch s' n' i' = .ok l (i' + (j - i))) ∧
    (∀ i l j, gAlts s n i = .ok l j → ∀ i' n', (∀ k, i + k ≤ j → pk s' (i' + k) = pk s (i + k)) → 2 * (j - i) + 2 ≤ n' → gAlts s' n' i' = .ok l (i' + (j - i)))
  | 0 => ⟨fun i t j h => (by rw [gBase] at h; cases h), fun i l j h => (by rw [gBranch] at h; cases h), fun i l j h => (by rw [gAlts] at h; cases h)⟩
  | n + 1 => by
    obtain ⟨q1, q2, q3⟩ := g_lt s n
    obtain ⟨h1, h2, h3⟩ := g_move s s' n
    refine ⟨fun i t j h i' n' ha hn => ?_, fun i l j h i' n' ha hn => ?_, fun i l j h i' n' ha hn => ?_⟩
    · have hlt := (g_lt s (n + 1)).1 i t j h
      obtain ⟨m, rfl⟩ : ∃ m, n' = m + 1 := ⟨n' - 1, by omega⟩
      have a0 := ha 0 (by omega)
      simp only [Nat.add_zero] at a0
      rw [gBase] at h ⊢
      rw [a0]
      split at h
      · rename_i c0
        rw [if_pos c0]
        obtain ⟨r, e1, e2⟩ := Res.map_ok h
        obtain ⟨b, mv⟩ := spans_move s s' _ _ _ _ _ e1
        rw [mv (i' + 1) m (fun k hk => by have := ha (1 + k) (by omega); simpa only [Nat.add_assoc] using this) (by omega), e2]
        show Res.ok _ _ = _
        congr 1; omega
      · rename_i c0
        rw [if_neg c0]
        split at h
        · rename_i c1
          rw [if_pos c1]
          obtain ⟨l, k, e1, e2⟩ := Res.bind_ok h
          have b := q3 _ _ _ e1
          split at e2
          case isFalse => cases e2
          rename_i c2
          injection e2 with e3 e4
          rw [h3 _ _ _ e1 (i' + 1) m (fun x hx => by have := ha (1 + x) (by omega); simpa only [Nat.add_assoc] using this) (by omega)]
          have a1 := ha (k - i) (by omega)
          rw [show i' + (k - i) = i' + 1 + (k - (i + 1)) by omega, show i + (k - i) = k by omega] at a1
          show (if pk s' (i' + 1 + (k - (i + 1))) = 41 then Res.ok (PT.alt l) (i' + 1 + (k - (i + 1)) + 1) else Res.err (i' + 1 + (k - (i + 1)))) = _
          rw [a1, if_pos c2, e3]
          congr 1; omega
        · rename_i c1
          rw [if_neg c1]
          split at h
          case isFalse => cases h
          rename_i c2
          rw [if_pos c2]
          injection h with e3 e4
          rw [e3]
          congr 1; omega
    · have hle := (g_lt s (n + 1)).2.1 i l j h
      obtain ⟨m, rfl⟩ : ∃ m, n' = m + 1 := ⟨n' - 1, by omega⟩
      have a0 := ha 0 (by omega)
      simp only [Nat.add_zero] at a0
      rw [gBranch] at h ⊢
      rw [a0]
      split at h
      · rename_i c0
        rw [if_pos c0]
        obtain ⟨t, k, e1, e2⟩ := Res.bind_ok h
        obtain ⟨r, e3, e4⟩ := Res.map_ok e2
        have b1 := q1 _ _ _ e1
        have b2 := q2 _ _ _ e3
        have b3 := gRep_le s t k
        rw [h1 _ _ _ e1 i' m (fun x hx => ha x (by omega)) (by omega)]
        have a1 := ha (k - i) (by omega)
        rw [show i + (k - i) = k by omega] at a1
        show (gBranch s' m (gRep s' t (i' + (k - i))).2).map (fun l => (gRep s' t (i' + (k - i))).1 :: l) = _
        rw [gRep_move s s' t k (i' + (k - i)) a1]
        show (gBranch s' m (i' + (k - i) + ((gRep s t k).2 - k))).map (fun l => (gRep s t k).1 :: l) = _
        rw [h2 _ _ _ e3 (i' + (k - i) + ((gRep s t k).2 - k)) m (fun x hx => by
          have := ha ((gRep s t k).2 - i + x) (by omega)
          rw [show i' + ((gRep s t k).2 - i + x) = i' + (k - i) + ((gRep s t k).2 - k) + x by omega, show i + ((gRep s t k).2 - i + x) = (gRep s t k).2 + x by omega] at this
          exact this) (by omega), e4]
        show Res.ok _ _ = _
        congr 1; omega
      · rename_i c0
        rw [if_neg c0]
        injection h with e3 e4
        rw [e3]
        congr 1; omega
    · have hle := (g_lt s (n + 1)).2.2 i l j h
      obtain ⟨m, rfl⟩ : ∃ m, n' = m + 1 := ⟨n' - 1, by omega⟩
      rw [gAlts] at h ⊢
      obtain ⟨b, k, e1, e2⟩ := Res.bind_ok h
      have b1 := q2 _ _ _ e1
      split at e2
      · rename_i c0
        obtain ⟨r, e3, e4⟩ := Res.map_ok e2
        have b2 := q3 _ _ _ e3
        rw [h2 _ _ _ e1 i' m (fun x hx => ha x (by omega)) (by omega)]
        have a1 := ha (k - i) (by omega)
        rw [show i + (k - i) = k by omega] at a1
        show (if pk s' (i' + (k - i)) = 124 then (gAlts s' m (i' + (k - i) + 1)).map (fun l => .seq b :: l) else .ok [.seq b] (i' + (k - i))) = _
        rw [a1, if_pos c0, h3 _ _ _ e3 (i' + (k - i) + 1) m (fun x hx => by
          have := ha (k - i + 1 + x) (by omega)
          rw [show i' + (k - i + 1 + x) = i' + (k - i) + 1 + x by omega, show i + (k - i + 1 + x) = k + 1 + x by omega] at this
          exact this) (by omega), e4]
        show Res.ok _ _ = _
        congr 1; omega
      · rename_i c0
        injection e2 with e3 e4
        subst e4
        rw [h2 _ _ _ e1 i' m (fun x hx => ha x (by omega)) (by omega)]
        have a1 := ha (k - i) (by omega)
        rw [show i + (k - i) = k by omega] at a1
        show (if pk s' (i' + (k - i)) = 124 then (gAlts s' m (i' + (k - i) + 1)).map (fun l => .seq b :: l) else .ok [.seq b] (i' + (k - i))) = _
        rw [a1, if_neg c0, e3]

end Go.Proofs.YtlljggefbngkeaaGreatDoor

namespace Go.Proofs.YtlljggefbngkeaaGreatDoor
open Go.RowKit

/-! The plain form, read again: the same lens but for its places. -/

mutual
def strip : LT → LT
  | .same l _ _ => .same l 0 0
  | .fixed l _ _ v d _ => .fixed l 0 0 v d 0
  | .swap _ a b => .swap 0 (strip a) (strip b)
  | .group a => .group (strip a)
  | .many _ a => .many 0 (strip a)
  | .row l _ => .row (stripL l) []
  | .choice l _ => .choice (stripL l) []
def stripL : List LT → List LT
  | [] => []
  | t :: l => strip t :: stripL l
end
theorem strip_joinRow (l : List LT) (ps : List Nat) : strip (joinRow l ps) = joinRow (stripL l) [] := by
  match l with
  | [] => rw [joinRow, strip, stripL, joinRow] <;> simp
  | [t] => rw [joinRow, stripL, stripL, joinRow]
  | t :: u :: l => rw [joinRow, strip, stripL, stripL, joinRow] <;> simp
theorem strip_joinAlt (l : List LT) (ps : List Nat) : strip (joinAlt l ps) = joinAlt (stripL l) [] := by
  match l with
  | [] => rw [joinAlt, strip, stripL, joinAlt] <;> simp
  | [t] => rw [joinAlt, stripL, stripL, joinAlt]
  | t :: u :: l => rw [joinAlt, strip, stripL, stripL, joinAlt] <;> simp
theorem form_jRz (s : ByteArray) (l : List LT) (ps : List Nat) : form s (joinRow l ps) = formL s [32] l := by
  match l with
  | [] => rw [joinRow, form]; simp
  | [t] => rw [joinRow, formL, formT, List.append_nil]
  | t :: u :: l => rw [joinRow, form]; simp
theorem form_jAz (s : ByteArray) (l : List LT) (ps : List Nat) : form s (joinAlt l ps) = formL s [32, 124, 32] l := by
  match l with
  | [] => rw [joinAlt, form]; simp
  | [t] => rw [joinAlt, formL, formT, List.append_nil]
  | t :: u :: l => rw [joinAlt, form]; simp

/-- the text stands at the place -/
def Tx (s : ByteArray) (p : Nat) (x : List UInt8) : Prop := p + x.length ≤ s.size ∧ sub s.data.toList p (p + x.length) = x

theorem pk_at (s : ByteArray) (i : Nat) (h : i < s.size) : ∃ c, s.data.toList[i]? = some c ∧ pk s i = (c.toNat : Int) := by
  have h' : i < s.data.toList.length := by rw [size_toList]; exact h
  refine ⟨s.data.toList[i], List.getElem?_eq_getElem h', ?_⟩
  rw [pk, dif_pos h]
  rfl
theorem pk_of (s : ByteArray) (i : Nat) (c : UInt8) (h : s.data.toList[i]? = some c) : pk s i = (c.toNat : Int) := by
  have h' := (List.getElem?_eq_some_iff.1 h).1
  rw [size_toList] at h'
  obtain ⟨d, h1, h2⟩ := pk_at s i h'
  rw [h] at h1
  rw [h2, Option.some.inj h1]
theorem pk_past (s : ByteArray) (i : Nat) (h : s.size ≤ i) : pk s i = 0 := by rw [pk, dif_neg (by omega)]
theorem pk_ltz {s : ByteArray} {i : Nat} (h : pk s i ≠ 0) : i < s.size := by
  rcases Nat.lt_or_ge i s.size with h' | h'
  · exact h'
  · exact absurd (pk_past s i h') h

theorem Tx.app {s : ByteArray} {p : Nat} {x y : List UInt8} (h : Tx s p (x ++ y)) : Tx s p x ∧ Tx s (p + x.length) y := by
  obtain ⟨h1, h2⟩ := h
  rw [List.length_append] at h1 h2
  have a := sub_app s.data.toList p (p + x.length) (p + (x.length + y.length)) (by omega) (by omega)
  rw [h2] at a
  have l1 : (sub s.data.toList p (p + x.length)).length = x.length := by rw [sub_len _ _ _ (by rw [size_toList]; omega)]; omega
  obtain ⟨e1, e2⟩ := List.append_inj a l1
  exact ⟨⟨by omega, e1⟩, by omega, by rw [← Nat.add_assoc] at e2; exact e2⟩
theorem Tx.at_ {s : ByteArray} {p : Nat} {x : List UInt8} (h : Tx s p x) {k : Nat} {c : UInt8} (hc : x[k]? = some c) : pk s (p + k) = (c.toNat : Int) := by
  obtain ⟨h1, h2⟩ := h
  have hk := (List.getElem?_eq_some_iff.1 hc).1
  rw [← h2] at hc
  refine pk_of s _ c ?_
  unfold sub at hc
  rw [List.getElem?_take_of_lt (by omega), List.getElem?_drop] at hc
  exact hc
theorem Tx.head {s : ByteArray} {p : Nat} {c : UInt8} {x : List UInt8} (h : Tx s p (c :: x)) : pk s p = (c.toNat : Int) := h.at_ (k := 0) rfl
theorem Tx.tail {s : ByteArray} {p : Nat} {c : UInt8} {x : List UInt8} (h : Tx s p (c :: x)) : Tx s (p + 1) x := (Tx.app (x := [c]) (y := x) h).2
/-- a part of another text -/
theorem Tx.same {s s' : ByteArray} {p i j : Nat} (hij : i ≤ j) (hj : j ≤ s.size) (h : Tx s' p (sub s.data.toList i j)) (k : Nat) (hk : i + k < j) : pk s' (p + k) = pk s (i + k) := by
  obtain ⟨c, h1, h2⟩ := pk_at s (i + k) (by omega)
  rw [h2]
  refine h.at_ ?_
  unfold sub
  rw [List.getElem?_take_of_lt (by omega), List.getElem?_drop]
  exact h1

theorem skipB_past (s : ByteArray) (i : Nat) : blankI (pk s (skipB s i)) = false := by
  have key : ∀ n i, s.size ≤ i + n → blankI (pk s (skipN s n i)) = false := fun n => by
    induction n with
    | zero => intro i h; rw [skipN, pk_past s i (by omega)]; rfl
    | succ n ih =>
      intro i h
      rw [skipN]
      split
      · exact ih _ (by omega)
      · rename_i hb; simpa using hb
  unfold skipB
  exact key _ _ (by omega)
theorem skipB_idz (s : ByteArray) (i : Nat) : skipB s (skipB s i) = skipB s i := skipB_stop s _ (skipB_past s i)
theorem skipB_blank {s : ByteArray} {i : Nat} (h : pk s i = 32) : skipB s i = skipB s (i + 1) := skipB_step s i (pk_ltz (by omega)) (by rw [h]; rfl)

theorem signs_run (s : ByteArray) : ∀ (v : List UInt8) (p : Nat), Tx s p v → (∀ c, c ∈ v → signI (c.toNat : Int) = true) → signI (pk s (p + v.length)) = false → signsE s p = p + v.length
  | [], p, _, _, h => signsE_stop s p h
  | c :: v, p, ht, hc, h => by
    have h0 := ht.head
    have h1 := hc c List.mem_cons_self
    rw [signsE_step s p (pk_ltz (by rw [h0]; intro e; rw [e] at h1; revert h1; decide)) (by rw [h0]; exact h1), signs_run s v (p + 1) ht.tail (fun d hd => hc d (List.mem_cons_of_mem _ hd)) (by rw [List.length_cons] at h; rw [show p + 1 + v.length = p + (v.length + 1) by omega]; exact h)]
    rw [List.length_cons]; omega
theorem signs_all (s : ByteArray) : ∀ (n p : Nat) (c : UInt8), p + n ≤ s.size → c ∈ sub s.data.toList p (signsN s n p) → signI (c.toNat : Int) = true
  | 0, p, c, _, h => by rw [signsN, sub_self] at h; cases h
  | n + 1, p, c, hn, h => by
    rw [signsN] at h
    split at h
    · rename_i h0
      have hb := signsN_bd s n (p + 1)
      obtain ⟨d, h1, h2⟩ := pk_at s p (by omega)
      rw [← sub_app _ p (p + 1) _ (by omega) (by omega), sub_at _ p d h1] at h
      rcases List.mem_append.1 h with h | h
      · rw [List.mem_singleton] at h
        rw [h, ← h2]; exact h0
      · exact signs_all s n (p + 1) c (by omega) h
    · rw [sub_self] at h; cases h
theorem gQuoted_signs {s : ByteArray} {i j : Nat} {v : List UInt8} (h : gQuoted s i = .ok v j) : ∀ c, c ∈ v → signI (c.toNat : Int) = true := by
  unfold gQuoted at h
  split at h
  case isFalse => cases h
  rename_i h0
  split at h
  case isFalse => cases h
  injection h with e1 e2
  intro c hc
  have := pk_ltz (s := s) (i := i) (by omega)
  rw [← e1] at hc
  exact signs_all s _ _ c (by omega) hc
theorem gQuoted_read {s : ByteArray} {p : Nat} {v : List UInt8} (h : Tx s p (34 :: v ++ [34])) (hv : ∀ c, c ∈ v → signI (c.toNat : Int) = true) : gQuoted s p = .ok v (p + (v.length + 2)) := by
  have h0 : pk s p = 34 := h.head
  obtain ⟨h1, h2⟩ := Tx.app (x := v) (y := [34]) h.tail
  have h3 : pk s (p + 1 + v.length) = 34 := h2.head
  have h4 := signs_run s v (p + 1) h1 hv (by rw [h3]; decide)
  unfold gQuoted
  rw [if_pos h0, h4, if_pos h3, h1.2]
  congr 1; omega

/-- what becomes of a piece -/
theorem plain_again {s s' : ByteArray} {n i : Nat} {t : LT} {j p n' : Nat} (h : gPlain s n i = .ok t j) (h47 : pk s i = 47) (hT : Tx s' p (form s t)) :
    (pk s' p = 47 ∧ 2 ≤ (form s t).length) ∧ (2 * (form s t).length ≤ n' → pk s' (skipB s' (p + (form s t).length)) ≠ 34 → ∃ t' e, gPlain s' n' p = .ok t' e ∧ skipB s' e = skipB s' (p + (form s t).length) ∧ strip t' = strip t ∧ form s' t' = form s t) := by
  unfold gPlain at h
  obtain ⟨l, k, e1, e2⟩ := Res.bind_ok h
  have hk := (g_lt s n).2.2 _ _ _ e1
  split at e2
  case isFalse => cases e2
  rename_i c0
  have hks : k < s.size := pk_ltz (by omega)
  -- the pattern itself, wherever it stands
  have pat : ∀ q m, Tx s' q (sub s.data.toList i (k + 1)) → pk s' q = 47 ∧ (2 * (k + 1 - i) ≤ m → gAlts s' m (q + 1) = .ok l (q + (k - i))) ∧ pk s' (q + (k - i)) = 47 := fun q m hq => by
    have a0 := hq.same (by omega) (by omega) 0 (by omega)
    have a1 := hq.same (by omega) (by omega) (k - i) (by omega)
    rw [show i + (k - i) = k by omega] at a1
    rw [Nat.add_zero, Nat.add_zero] at a0
    refine ⟨a0.trans h47, fun hm => ?_, a1.trans c0⟩
    rw [(g_move s s' n).2.2 _ _ _ e1 (q + 1) m (fun x hx => by
      have := hq.same (by omega) (by omega) (1 + x) (by omega)
      rw [show q + (1 + x) = q + 1 + x by omega, show i + (1 + x) = i + 1 + x by omega] at this
      exact this) (by omega)]
    congr 1; omega
  have ls : (sub s.data.toList i (k + 1)).length = k + 1 - i := sub_len _ _ _ (by rw [size_toList]; omega)
  split at e2
  · rename_i c1
    obtain ⟨v, m, e3, e4⟩ := Res.bind_ok e2
    obtain ⟨d, r, e5, e6⟩ := Res.bind_ok e4
    injection e6 with e7 e8
    subst e7
    have hv := gQuoted_signs e3
    have hd := gQuoted_signs e5
    have ef : form s (.fixed l i (k + 1) v d (skipB s m)) = sub s.data.toList i (k + 1) ++ ((34 :: v ++ [34]) ++ (34 :: d ++ [34])) := by rw [form]; simp
    rw [ef] at hT ⊢
    have lf : (sub s.data.toList i (k + 1) ++ ((34 :: v ++ [34]) ++ (34 :: d ++ [34]))).length = (k + 1 - i) + (v.length + 2 + (d.length + 2)) := by rw [List.length_append, ls]; simp; omega
    rw [lf]
    obtain ⟨t1, t2⟩ := hT.app
    obtain ⟨t3, t4⟩ := t2.app
    rw [ls] at t3 t4
    obtain ⟨b1, b2, b3⟩ := pat p n' t1
    have q3 : pk s' (p + (k + 1 - i)) = 34 := t3.head
    have r3 := gQuoted_read t3 hv
    have lq : (34 :: v ++ [34]).length = v.length + 2 := by simp
    rw [lq] at t4
    have q4 : pk s' (p + (k + 1 - i) + (v.length + 2)) = 34 := t4.head
    have r4 := gQuoted_read t4 hd
    refine ⟨⟨b1, by omega⟩, fun hn hF => ⟨.fixed l p (p + (k + 1 - i)) v d (p + (k + 1 - i) + (v.length + 2)), p + (k + 1 - i) + (v.length + 2) + (d.length + 2), ?_, ?_, by rw [strip, strip], ?_⟩⟩
    · unfold gPlain
      rw [b2 (by omega)]
      show (if pk s' (p + (k - i)) = 47 then _ else _) = _
      rw [if_pos b3, show p + (k - i) + 1 = p + (k + 1 - i) by omega, skipB_stop s' (p + (k + 1 - i)) (by rw [q3]; rfl), if_pos q3, r3]
      show (gQuoted s' (skipB s' (p + (k + 1 - i) + (v.length + 2)))).bind _ = _
      rw [skipB_stop s' (p + (k + 1 - i) + (v.length + 2)) (by rw [q4]; rfl), r4]
      rfl
    · congr 1; omega
    · rw [form]
      have := t1.2
      rw [ls] at this
      rw [this]
      simp
  · rename_i c1
    injection e2 with e7 e8
    subst e7
    have ef : form s (.same l i (k + 1)) = sub s.data.toList i (k + 1) := by rw [form]
    rw [ef] at hT ⊢
    rw [ls]
    obtain ⟨b1, b2, b3⟩ := pat p n' hT
    refine ⟨⟨b1, by omega⟩, fun hn hF => ⟨.same l p (p + (k + 1 - i)), skipB s' (p + (k + 1 - i)), ?_, skipB_idz _ _, by rw [strip, strip], ?_⟩⟩
    · unfold gPlain
      rw [b2 (by omega)]
      show (if pk s' (p + (k - i)) = 47 then _ else _) = _
      rw [if_pos b3, show p + (k - i) + 1 = p + (k + 1 - i) by omega, if_neg hF]
    · rw [form]
      have := hT.2
      rw [ls] at this
      exact this

end Go.Proofs.YtlljggefbngkeaaGreatDoor

namespace Go.Proofs.YtlljggefbngkeaaGreatDoor
open Go.RowKit

theorem gItems_ne {s : ByteArray} {n i : Nat} {x : List LT × List Nat} {j : Nat} (h : gItems s n i = .ok x j) : x.1 ≠ [] := by
  cases n with
  | zero => rw [gItems] at h; cases h
  | succ n =>
    rw [gItems] at h
    obtain ⟨t, k, e1, e2⟩ := Res.bind_ok h
    split at e2
    · obtain ⟨y, e3, e4⟩ := Res.map_ok e2
      rw [e4]; simp
    · injection e2 with e3 e4
      rw [← e3]; simp
theorem gRows_ne {s : ByteArray} {n i : Nat} {x : List LT × List Nat} {j : Nat} (h : gRows s n i = .ok x j) : x.1 ≠ [] := by
  cases n with
  | zero => rw [gRows] at h; cases h
  | succ n =>
    rw [gRows] at h
    obtain ⟨t, k, e1, e2⟩ := Res.bind_ok h
    split at e2
    · obtain ⟨y, e3, e4⟩ := Res.map_ok e2
      rw [e4]; simp
    · injection e2 with e3 e4
      rw [← e3]; simp
theorem formT_ne (s : ByteArray) (sep : List UInt8) {l : List LT} (h : l ≠ []) : formT s sep l = sep ++ formL s sep l := by
  match l, h with
  | t :: l, _ => rw [formT, formL, List.append_assoc]
theorem atPiece_cases {c : Int} (h : atPiece c = true) : c = 47 ∨ c = 126 ∨ c = 40 := by
  simp [atPiece, hasL] at h
  omega
theorem atPiece_blank {c : Int} (h : atPiece c = true) : blankI c = false := by
  rcases atPiece_cases h with rfl | rfl | rfl <;> rfl

/-- what may stand behind -/
def Fol (c : Int) : Prop := c ≠ 34 ∧ c ≠ 42 ∧ atPiece c = false

theorem lens_again (s s' : ByteArray) : ∀ n,
    (∀ i t j, gPiece s n i = .ok t j → ∀ p, Tx s' p (form s t) → (atPiece (pk s' p) = true ∧ 2 ≤ (form s t).length) ∧ ∀ n', 2 * (form s t).length ≤ n' → pk s' (skipB s' (p + (form s t).length)) ≠ 34 →
      ∃ t' e, gPiece s' n' p = .ok t' e ∧ skipB s' e = skipB s' (p + (form s t).length) ∧ strip t' = strip t ∧ form s' t' = form s t) ∧
    (∀ i t j, gItem s n i = .ok t j → ∀ p, Tx s' p (form s t) → (atPiece (pk s' p) = true ∧ 2 ≤ (form s t).length) ∧ ∀ n', 2 * (form s t).length + 1 ≤ n' → pk s' (skipB s' (p + (form s t).length)) ≠ 34 → pk s' (skipB s' (p + (form s t).length)) ≠ 42 →
      ∃ t', gItem s' n' p = .ok t' (skipB s' (p + (form s t).length)) ∧ strip t' = strip t ∧ form s' t' = form s t) ∧
    (∀ i x j, gItems s n i = .ok x j → ∀ p, Tx s' p (formL s [32] x.1) → (atPiece (pk s' p) = true ∧ 2 ≤ (formL s [32] x.1).length) ∧ ∀ n', 2 * (formL s [32] x.1).length + 2 ≤ n' → Fol (pk s' (skipB s' (p + (formL s [32] x.1).length))) →
      ∃ x', gItems s' n' p = .ok x' (skipB s' (p + (formL s [32] x.1).length)) ∧ stripL x'.1 = stripL x.1 ∧ formL s' [32] x'.1 = formL s [32] x.1) ∧
    (∀ i x j, gRows s n i = .ok x j → ∀ p, Tx s' p (formL s [32, 124, 32] x.1) → (atPiece (pk s' p) = true ∧ 2 ≤ (formL s [32, 124, 32] x.1).length) ∧ ∀ n' p0, skipB s' p0 = p → 2 * (formL s [32, 124, 32] x.1).length + 3 ≤ n' → Fol (pk s' (skipB s' (p + (formL s [32, 124, 32] x.1).length))) → pk s' (skipB s' (p + (formL s [32, 124, 32] x.1).length)) ≠ 124 →
      ∃ x', gRows s' n' p0 = .ok x' (skipB s' (p + (formL s [32, 124, 32] x.1).length)) ∧ stripL x'.1 = stripL x.1 ∧ formL s' [32, 124, 32] x'.1 = formL s [32, 124, 32] x.1)
  | 0 => ⟨fun i t j h => (by rw [gPiece] at h; cases h), fun i t j h => (by rw [gItem] at h; cases h), fun i x j h => (by rw [gItems] at h; cases h), fun i x j h => (by rw [gRows] at h; cases h)⟩
  | n + 1 => by
    obtain ⟨i1, i2, i3, i4⟩ := lens_again s s' n
    refine ⟨fun i t j h p hT => ?_, fun i t j h p hT => ?_, fun i x j h p hT => ?_, fun i x j h p hT => ?_⟩
    · rw [gPiece] at h
      split at h
      · rename_i c0
        refine ⟨?_, fun n' hn hF => ?_⟩
        · obtain ⟨⟨a, b⟩, _⟩ := plain_again (n' := 0) h c0 hT
          exact ⟨by rw [a]; rfl, b⟩
        · obtain ⟨⟨a, b⟩, mv⟩ := plain_again (n' := 4 * s'.size + 4) h c0 hT
          obtain ⟨t', e, r1, r2⟩ := mv (by have := hT.1; omega) hF
          obtain ⟨m, rfl⟩ : ∃ m, n' = m + 1 := ⟨n' - 1, by omega⟩
          exact ⟨t', e, by rw [gPiece, if_pos a]; exact r1, r2⟩
      · rename_i c0
        split at h
        · rename_i c1
          split at h
          case isFalse => cases h
          obtain ⟨a, k, e1, e2⟩ := Res.bind_ok h
          split at e2
          case isFalse => cases e2
          obtain ⟨b, r, e3, e4⟩ := Res.bind_ok e2
          split at e4
          case isFalse => cases e4
          injection e4 with e5 e6
          subst e5
          have ef : form s (.swap i (joinAlt a.1 a.2) (joinAlt b.1 b.2)) = [126, 40] ++ (formL s [32, 124, 32] a.1 ++ ([44, 32] ++ (formL s [32, 124, 32] b.1 ++ [41]))) := by rw [form, form_jAz, form_jAz]; simp
          rw [ef] at hT ⊢
          generalize hLa : formL s [32, 124, 32] a.1 = fa at *
          generalize hLb : formL s [32, 124, 32] b.1 = fb at *
          have lf : ([126, 40] ++ (fa ++ ([44, 32] ++ (fb ++ [41])))).length = fa.length + fb.length + 5 := by simp; omega
          rw [lf]
          obtain ⟨t1, t2⟩ := hT.app
          obtain ⟨t3, t4⟩ := t2.app
          obtain ⟨t5, t6⟩ := t4.app
          obtain ⟨t7, t8⟩ := t6.app
          simp only [List.length_cons, List.length_nil, Nat.zero_add, Nat.reduceAdd] at t3 t5 t7 t8
          have p0 : pk s' p = 126 := t1.head
          have p1 : pk s' (p + 1) = 40 := t1.tail.head
          have p2 : pk s' (p + 2 + fa.length) = 44 := t5.head
          have p3 : pk s' (p + 2 + fa.length + 1) = 32 := t5.tail.head
          have p4 : pk s' (p + 2 + fa.length + 2 + fb.length) = 41 := t8.head
          obtain ⟨⟨a1, a2⟩, mva⟩ := i4 _ _ _ e1 (p + 2) (by rw [hLa]; exact t3)
          obtain ⟨⟨b1, b2⟩, mvb⟩ := i4 _ _ _ e3 (p + 2 + fa.length + 2) (by rw [hLb]; exact t7)
          rw [hLa] at mva a2
          rw [hLb] at mvb b2
          have s1 : skipB s' (p + 2) = p + 2 := skipB_stop s' _ (atPiece_blank a1)
          have s2 : skipB s' (p + 2 + fa.length) = p + 2 + fa.length := skipB_stop s' _ (by rw [p2]; rfl)
          have s3 : skipB s' (p + 2 + fa.length + 1) = p + 2 + fa.length + 2 := by rw [skipB_blank p3]; exact skipB_stop s' _ (atPiece_blank b1)
          have s4 : skipB s' (p + 2 + fa.length + 2 + fb.length) = p + 2 + fa.length + 2 + fb.length := skipB_stop s' _ (by rw [p4]; rfl)
          have s0 : skipB s' (p + 1) = p + 1 := skipB_stop s' _ (by rw [p1]; rfl)
          refine ⟨⟨by rw [p0]; rfl, by omega⟩, fun n' hn hF => ?_⟩
          obtain ⟨m, rfl⟩ : ∃ m, n' = m + 1 := ⟨n' - 1, by omega⟩
          obtain ⟨a', r1, r2, r3⟩ := mva m (p + 2) s1 (by omega) (by rw [s2, p2]; exact ⟨by decide, by decide, rfl⟩) (by rw [s2, p2]; decide)
          obtain ⟨b', q1, q2, q3⟩ := mvb m (p + 2 + fa.length + 1) s3 (by omega) (by rw [s4, p4]; exact ⟨by decide, by decide, rfl⟩) (by rw [s4, p4]; decide)
          rw [s2] at r1
          rw [s4] at q1
          refine ⟨.swap p (joinAlt a'.1 a'.2) (joinAlt b'.1 b'.2), p + 2 + fa.length + 2 + fb.length + 1, ?_, ?_, ?_, ?_⟩
          · rw [gPiece, if_neg (by rw [p0]; decide), if_pos p0, s0, if_pos p1]
            show (gRows s' m (p + 2)).bind _ = _
            rw [r1]
            show (if pk s' (p + 2 + fa.length) = 44 then _ else _) = _
            rw [if_pos p2, q1]
            show (if pk s' (p + 2 + fa.length + 2 + fb.length) = 41 then _ else _) = _
            rw [if_pos p4]
          · congr 1; omega
          · rw [strip, strip, strip_joinAlt, strip_joinAlt, strip_joinAlt, strip_joinAlt, r2, q2]
          · rw [form, form_jAz, form_jAz, r3, q3]; simp
        · rename_i c1
          split at h
          case isFalse => cases h
          obtain ⟨a, k, e1, e2⟩ := Res.bind_ok h
          split at e2
          case isFalse => cases e2
          injection e2 with e5 e6
          subst e5
          have ef : form s (.group (joinAlt a.1 a.2)) = [40] ++ (formL s [32, 124, 32] a.1 ++ [41]) := by rw [form, form_jAz]; simp
          rw [ef] at hT ⊢
          generalize hLa : formL s [32, 124, 32] a.1 = fa at *
          have lf : ([40] ++ (fa ++ [41])).length = fa.length + 2 := by simp
          rw [lf]
          obtain ⟨t1, t2⟩ := hT.app
          obtain ⟨t3, t4⟩ := t2.app
          simp only [List.length_cons, List.length_nil, Nat.zero_add] at t3 t4
          have p0 : pk s' p = 40 := t1.head
          have p2 : pk s' (p + 1 + fa.length) = 41 := t4.head
          obtain ⟨⟨a1, a2⟩, mva⟩ := i4 _ _ _ e1 (p + 1) (by rw [hLa]; exact t3)
          rw [hLa] at mva a2
          have s1 : skipB s' (p + 1) = p + 1 := skipB_stop s' _ (atPiece_blank a1)
          have s2 : skipB s' (p + 1 + fa.length) = p + 1 + fa.length := skipB_stop s' _ (by rw [p2]; rfl)
          refine ⟨⟨by rw [p0]; rfl, by omega⟩, fun n' hn hF => ?_⟩
          obtain ⟨m, rfl⟩ : ∃ m, n' = m + 1 := ⟨n' - 1, by omega⟩
          obtain ⟨a', r1, r2, r3⟩ := mva m (p + 1) s1 (by omega) (by rw [s2, p2]; exact ⟨by decide, by decide, rfl⟩) (by rw [s2, p2]; decide)
          rw [s2] at r1
          refine ⟨.group (joinAlt a'.1 a'.2), p + 1 + fa.length + 1, ?_, ?_, ?_, ?_⟩
          · rw [gPiece, if_neg (by rw [p0]; decide), if_neg (by rw [p0]; decide), if_pos p0, r1]
            show (if pk s' (p + 1 + fa.length) = 41 then _ else _) = _
            rw [if_pos p2]
          · congr 1; omega
          · rw [strip, strip, strip_joinAlt, strip_joinAlt, r2]
          · rw [form, form_jAz, r3]; simp
    · rw [gItem] at h
      obtain ⟨a, k, e1, e2⟩ := Res.bind_ok h
      split at e2
      · injection e2 with e5 e6
        subst e5
        have ef : form s (.many (skipB s k) a) = form s a ++ [42] := by rw [form]
        rw [ef] at hT ⊢
        generalize hLa : form s a = fa at *
        have lf : (fa ++ [42]).length = fa.length + 1 := by simp
        rw [lf]
        obtain ⟨t1, t2⟩ := hT.app
        have p0 : pk s' (p + fa.length) = 42 := t2.head
        have s0 : skipB s' (p + fa.length) = p + fa.length := skipB_stop s' _ (by rw [p0]; rfl)
        obtain ⟨⟨a1, a2⟩, mva⟩ := i1 _ _ _ e1 p (by rw [hLa]; exact t1)
        rw [hLa] at mva a2
        refine ⟨⟨a1, by omega⟩, fun n' hn hF hG => ?_⟩
        obtain ⟨m, rfl⟩ : ∃ m, n' = m + 1 := ⟨n' - 1, by omega⟩
        obtain ⟨t', e, r1, r2, r3, r4⟩ := mva m (by omega) (by rw [s0, p0]; decide)
        rw [s0] at r2
        refine ⟨.many (p + fa.length) t', ?_, by rw [strip, strip, r3], by rw [form, r4]⟩
        rw [gItem, r1]
        show (if pk s' (skipB s' e) = 42 then _ else _) = _
        rw [r2, if_pos p0, Nat.add_assoc]
      · injection e2 with e5 e6
        subst e5
        obtain ⟨⟨a1, a2⟩, mva⟩ := i1 _ _ _ e1 p hT
        refine ⟨⟨a1, a2⟩, fun n' hn hF hG => ?_⟩
        obtain ⟨m, rfl⟩ : ∃ m, n' = m + 1 := ⟨n' - 1, by omega⟩
        obtain ⟨t', e, r1, r2, r3, r4⟩ := mva m (by omega) hF
        refine ⟨t', ?_, r3, r4⟩
        rw [gItem, r1]
        show (if pk s' (skipB s' e) = 42 then _ else _) = _
        rw [r2, if_neg hG]
    · rw [gItems] at h
      obtain ⟨a, k, e1, e2⟩ := Res.bind_ok h
      split at e2
      · obtain ⟨y, e3, e4⟩ := Res.map_ok e2
        subst e4
        have ef : formL s [32] (a :: y.1) = form s a ++ ([32] ++ formL s [32] y.1) := by rw [formL, formT_ne s [32] (gItems_ne e3)]
        show (_ ∧ 2 ≤ (formL s [32] (a :: y.1)).length) ∧ _
        change Tx s' p (formL s [32] (a :: y.1)) at hT
        simp only
        rw [ef] at hT ⊢
        generalize hLa : form s a = fa at *
        generalize hLb : formL s [32] y.1 = fb at *
        have lf : (fa ++ ([32] ++ fb)).length = fa.length + 1 + fb.length := by simp; omega
        rw [lf]
        obtain ⟨t1, t2⟩ := hT.app
        obtain ⟨t3, t4⟩ := t2.app
        simp only [List.length_cons, List.length_nil, Nat.zero_add] at t4
        have p0 : pk s' (p + fa.length) = 32 := t3.head
        obtain ⟨⟨a1, a2⟩, mva⟩ := i2 _ _ _ e1 p (by rw [hLa]; exact t1)
        obtain ⟨⟨b1, b2⟩, mvb⟩ := i3 _ _ _ e3 (p + fa.length + 1) (by rw [hLb]; exact t4)
        rw [hLa] at mva a2
        rw [hLb] at mvb b2
        have s0 : skipB s' (p + fa.length) = p + fa.length + 1 := by rw [skipB_blank p0]; exact skipB_stop s' _ (atPiece_blank b1)
        refine ⟨⟨a1, by omega⟩, fun n' hn hF => ?_⟩
        obtain ⟨m, rfl⟩ : ∃ m, n' = m + 1 := ⟨n' - 1, by omega⟩
        obtain ⟨t', r1, r2, r3⟩ := mva m (by omega) (by rw [s0]; rcases atPiece_cases b1 with e | e | e <;> rw [e] <;> decide) (by rw [s0]; rcases atPiece_cases b1 with e | e | e <;> rw [e] <;> decide)
        rw [s0] at r1
        rw [show p + (fa.length + 1 + fb.length) = p + fa.length + 1 + fb.length by omega] at hF ⊢
        obtain ⟨y', q1, q2, q3⟩ := mvb m (by omega) hF
        refine ⟨(t' :: y'.1, (p + fa.length + 1) :: y'.2), ?_, ?_, ?_⟩
        · rw [gItems, r1]
          show (if atPiece (pk s' (p + fa.length + 1)) = true then _ else _) = _
          rw [if_pos b1, q1]
          rfl
        · show stripL (t' :: y'.1) = stripL (a :: y.1)
          rw [stripL, stripL, r2, q2]
        · show formL s' [32] (t' :: y'.1) = _
          rw [formL, formT_ne s' [32] (gItems_ne q1), r3, q3]
      · injection e2 with e5 e6
        subst e5
        have ef : formL s [32] [a] = form s a := by rw [formL, formT, List.append_nil]
        change Tx s' p (formL s [32] [a]) at hT
        simp only
        rw [ef] at hT ⊢
        obtain ⟨⟨a1, a2⟩, mva⟩ := i2 _ _ _ e1 p hT
        refine ⟨⟨a1, a2⟩, fun n' hn hF => ?_⟩
        obtain ⟨m, rfl⟩ : ∃ m, n' = m + 1 := ⟨n' - 1, by omega⟩
        obtain ⟨t', r1, r2, r3⟩ := mva m (by omega) hF.1 hF.2.1
        refine ⟨([t'], []), ?_, ?_, ?_⟩
        · rw [gItems, r1]
          show (if atPiece (pk s' (skipB s' (p + (form s a).length))) = true then _ else _) = _
          rw [if_neg (by rw [hF.2.2]; decide)]
        · show stripL [t'] = stripL [a]
          rw [stripL, stripL, r2]
          rfl
        · show formL s' [32] [t'] = _
          rw [formL, formT, List.append_nil, r3]
    · rw [gRows] at h
      obtain ⟨a, k, e1, e2⟩ := Res.bind_ok h
      split at e2
      · obtain ⟨y, e3, e4⟩ := Res.map_ok e2
        subst e4
        have ef : formL s [32, 124, 32] (joinRow a.1 a.2 :: y.1) = formL s [32] a.1 ++ ([32, 124, 32] ++ formL s [32, 124, 32] y.1) := by rw [formL, formT_ne s _ (gRows_ne e3), form_jRz]
        change Tx s' p (formL s [32, 124, 32] (joinRow a.1 a.2 :: y.1)) at hT
        simp only
        rw [ef] at hT ⊢
        generalize hLa : formL s [32] a.1 = fa at *
        generalize hLb : formL s [32, 124, 32] y.1 = fb at *
        have lf : (fa ++ ([32, 124, 32] ++ fb)).length = fa.length + 3 + fb.length := by simp; omega
        rw [lf]
        obtain ⟨t1, t2⟩ := hT.app
        obtain ⟨t3, t4⟩ := t2.app
        simp only [List.length_cons, List.length_nil, Nat.zero_add, Nat.reduceAdd] at t4
        have p0 : pk s' (p + fa.length) = 32 := t3.head
        have p1 : pk s' (p + fa.length + 1) = 124 := t3.tail.head
        have p2 : pk s' (p + fa.length + 1 + 1) = 32 := t3.tail.tail.head
        obtain ⟨⟨a1, a2⟩, mva⟩ := i3 _ _ _ e1 p (by rw [hLa]; exact t1)
        obtain ⟨⟨b1, b2⟩, mvb⟩ := i4 _ _ _ e3 (p + fa.length + 3) (by rw [hLb]; exact t4)
        rw [hLa] at mva a2
        rw [hLb] at mvb b2
        have s0 : skipB s' (p + fa.length) = p + fa.length + 1 := by rw [skipB_blank p0]; exact skipB_stop s' _ (by rw [p1]; rfl)
        have s1 : skipB s' (p + fa.length + 1 + 1) = p + fa.length + 3 := by rw [skipB_blank p2]; exact skipB_stop s' _ (atPiece_blank b1)
        refine ⟨⟨a1, by omega⟩, fun n' pz hz hn hF hG => ?_⟩
        obtain ⟨m, rfl⟩ : ∃ m, n' = m + 1 := ⟨n' - 1, by omega⟩
        obtain ⟨a', r1, r2, r3⟩ := mva m (by omega) (by rw [s0, p1]; exact ⟨by decide, by decide, rfl⟩)
        rw [s0] at r1
        rw [show p + (fa.length + 3 + fb.length) = p + fa.length + 3 + fb.length by omega] at hF hG ⊢
        obtain ⟨y', q1, q2, q3⟩ := mvb m (p + fa.length + 1 + 1) s1 (by omega) hF hG
        refine ⟨(joinRow a'.1 a'.2 :: y'.1, (p + fa.length + 1) :: y'.2), ?_, ?_, ?_⟩
        · rw [gRows, hz, r1]
          show (if pk s' (p + fa.length + 1) = 124 then _ else _) = _
          rw [if_pos p1, q1]
          rfl
        · show stripL (joinRow a'.1 a'.2 :: y'.1) = stripL (joinRow a.1 a.2 :: y.1)
          rw [stripL, stripL, strip_joinRow, strip_joinRow, r2, q2]
        · show formL s' [32, 124, 32] (joinRow a'.1 a'.2 :: y'.1) = _
          rw [formL, formT_ne s' _ (gRows_ne q1), form_jRz, r3, q3]
      · injection e2 with e5 e6
        subst e5
        have ef : formL s [32, 124, 32] [joinRow a.1 a.2] = formL s [32] a.1 := by rw [formL, formT, List.append_nil, form_jRz]
        change Tx s' p (formL s [32, 124, 32] [joinRow a.1 a.2]) at hT
        simp only
        rw [ef] at hT ⊢
        obtain ⟨⟨a1, a2⟩, mva⟩ := i3 _ _ _ e1 p hT
        refine ⟨⟨a1, a2⟩, fun n' pz hz hn hF hG => ?_⟩
        obtain ⟨m, rfl⟩ : ∃ m, n' = m + 1 := ⟨n' - 1, by omega⟩
        obtain ⟨a', r1, r2, r3⟩ := mva m (by omega) hF
        refine ⟨([joinRow a'.1 a'.2], []), ?_, ?_, ?_⟩
        · rw [gRows, hz, r1]
          show (if pk s' (skipB s' (p + (formL s [32] a.1).length)) = 124 then _ else _) = _
          rw [if_neg hG]
        · show stripL [joinRow a'.1 a'.2] = stripL [joinRow a.1 a.2]
          simp only [stripL, strip_joinRow, r2]
        · show formL s' [32, 124, 32] [joinRow a'.1 a'.2] = _
          rw [formL, formT, List.append_nil, form_jRz, r3]

end Go.Proofs.YtlljggefbngkeaaGreatDoor

namespace Go.Proofs.YtlljggefbngkeaaGreatDoor
open Go.RowKit

mutual
theorem dflts_strip : ∀ t : LT, dflts (strip t) = (dflts t).map fun y => (y.1, y.2.1, 0)
  | .same l i j => by rw [strip, dflts, dflts]; rfl
  | .fixed l i j v d a => by rw [strip, dflts, dflts]; rfl
  | .swap p a b => by rw [strip, dflts, dflts, List.map_append, dflts_strip a, dflts_strip b]
  | .group a => by rw [strip, dflts, dflts, dflts_strip a]
  | .many p a => by rw [strip, dflts, dflts, dflts_strip a]
  | .row l ps => by rw [strip, dflts, dflts, dflts_stripL l]
  | .choice l ps => by rw [strip, dflts, dflts, dflts_stripL l]
theorem dflts_stripL : ∀ l : List LT, dfltsL (stripL l) = (dfltsL l).map fun y => (y.1, y.2.1, 0)
  | [] => by rw [stripL, dfltsL]; rfl
  | t :: l => by rw [stripL, dfltsL, dfltsL, List.map_append, dflts_strip t, dflts_stripL l]
end
theorem firstW_strip {l l' : List LT} (h : stripL l' = stripL l) (hF : FirstW (dfltsL l) none) : FirstW (dfltsL l') none := by
  rw [firstW_none] at hF ⊢
  intro y hy
  have h1 : (y.1, y.2.1, 0) ∈ dfltsL (stripL l') := by rw [dflts_stripL]; exact List.mem_map.2 ⟨y, hy, rfl⟩
  rw [h, dflts_stripL] at h1
  obtain ⟨z, hz, e⟩ := List.mem_map.1 h1
  have := hF z hz
  injection e with e1 e2
  injection e2 with e2 e3
  rw [← e1, ← e2]; exact this

theorem txt_sizez (l : List UInt8) : (txt l).size = l.length := by simp [txt, ByteArray.size]
theorem txt_lz (l : List UInt8) : (txt l).data.toList = l := by simp [txt]
theorem Tx.whole (x : List UInt8) : Tx (txt x) 0 x := by
  refine ⟨by rw [txt_sizez]; omega, ?_⟩
  rw [txt_lz, Nat.zero_add, sub_all]

/-- the plain form, if it is not too long: the same lens -/
theorem tree_again {s : ByteArray} {t : LT} (h : TreeOf s t) (hl : (form s t).length ≤ 120) : ∃ t', TreeOf (txt (form s t)) t' ∧ strip t' = strip t ∧ form (txt (form s t)) t' = form s t := by
  obtain ⟨hs, x, hr, hF, rfl⟩ := h
  rw [form_jAz] at hl ⊢
  have hT := Tx.whole (formL s [32, 124, 32] x.1)
  obtain ⟨⟨a1, a2⟩, mv⟩ := (lens_again s (txt (formL s [32, 124, 32] x.1)) _).2.2.2 _ _ _ hr 0 hT
  have hz := txt_sizez (formL s [32, 124, 32] x.1)
  have p9 : pk (txt (formL s [32, 124, 32] x.1)) (0 + (formL s [32, 124, 32] x.1).length) = 0 := pk_past _ _ (by omega)
  have s9 : skipB (txt (formL s [32, 124, 32] x.1)) (0 + (formL s [32, 124, 32] x.1).length) = 0 + (formL s [32, 124, 32] x.1).length := skipB_stop _ _ (by rw [p9]; rfl)
  obtain ⟨x', r1, r2, r3⟩ := mv (6 * (txt (formL s [32, 124, 32] x.1)).size + 5) 0 (skipB_stop _ _ (atPiece_blank a1)) (by omega) (by rw [s9, p9]; exact ⟨by decide, by decide, rfl⟩) (by rw [s9, p9]; decide)
  rw [s9, Nat.zero_add] at r1
  refine ⟨joinAlt x'.1 x'.2, ⟨by omega, x', ?_, firstW_strip r2 hF, rfl⟩, ?_, ?_⟩
  · rw [r1, hz]
  · rw [strip_joinAlt, strip_joinAlt, r2]
  · rw [form_jAz, r3]

/-! What hangs on the tree alone, not on its places. -/
def bstrip : BT → BT
  | .pat t => .pat t
  | .key t v d => .key t v d
  | .two kd _ a b => .two kd 0 (bstrip a) (bstrip b)
  | .star _ a => .star 0 (bstrip a)
mutual
theorem toB_strip : ∀ t : LT, toB (strip t) = bstrip (toB t)
  | .same l i j => by rw [strip, toB, toB, bstrip]
  | .fixed l i j v d a => by rw [strip, toB, toB, bstrip]
  | .swap p a b => by rw [strip, toB, toB, bstrip, toB_strip a, toB_strip b]
  | .group a => by rw [strip, toB, toB, toB_strip a]
  | .many p a => by rw [strip, toB, toB, bstrip, toB_strip a]
  | .row l ps => by rw [strip, toB, toB, rowB_strip 114 l ps]
  | .choice l ps => by rw [strip, toB, toB, rowB_strip 124 l ps]
theorem rowB_strip (kd : Int) : ∀ (l : List LT) (ps : List Nat), rowB kd (stripL l) [] = bstrip (rowB kd l ps)
  | [], ps => by rw [stripL, rowB, rowB, bstrip]
  | t :: l, ps => by rw [stripL, rowB, rowB, toB_strip t, rowG_strip kd l (toB t) ps]
theorem rowG_strip (kd : Int) : ∀ (l : List LT) (c : BT) (ps : List Nat), rowG kd (bstrip c) (stripL l) [] = bstrip (rowG kd c l ps)
  | [], c, ps => by rw [stripL, rowG, rowG]
  | t :: l, c, ps => by
    rw [stripL, rowG, rowG, toB_strip t]
    have := rowG_strip kd l (.two kd (ps.headD 0) c (toB t)) ps.tail
    rw [bstrip] at this
    exact this
end
theorem bS_strip : ∀ c : BT, bS (bstrip c) = bS c
  | .pat t => rfl
  | .key t v d => rfl
  | .two kd p a b => by rw [bstrip, bS, bS, bS_strip a, bS_strip b]
  | .star p a => by rw [bstrip, bS, bS, bS_strip a]
theorem bV_strip : ∀ c : BT, bV (bstrip c) = bV c
  | .pat t => rfl
  | .key t v d => rfl
  | .two kd p a b => by rw [bstrip, bV, bV, bV_strip a, bV_strip b]
  | .star p a => by rw [bstrip, bV, bV, bV_strip a]
theorem getF_strip : ∀ (c : BT), getF (bstrip c) = getF c
  | .pat t => rfl
  | .key t v d => rfl
  | .two kd p a b => by funext u; rw [bstrip, getF, getF, bS_strip a, bS_strip b, getF_strip a, getF_strip b]
  | .star p a => by funext u; rw [bstrip, getF, getF, bS_strip a, getF_strip a]
theorem makeF_strip : ∀ (c : BT), makeF (bstrip c) = makeF c
  | .pat t => rfl
  | .key t v d => rfl
  | .two kd p a b => by funext u; rw [bstrip, makeF, makeF, bV_strip a, bV_strip b, makeF_strip a, makeF_strip b]
  | .star p a => by funext u; rw [bstrip, makeF, makeF, bV_strip a, makeF_strip a]
theorem putF_strip : ∀ (c : BT), putF (bstrip c) = putF c
  | .pat t => rfl
  | .key t v d => rfl
  | .two kd p a b => by
    funext v s
    have := makeF_strip (.two kd p a b)
    rw [bstrip] at this
    rw [bstrip, putF, putF, bS_strip a, bS_strip b, bV_strip a, bV_strip b, putF_strip a, putF_strip b, this]
  | .star p a => by funext v s; rw [bstrip, putF, putF, bS_strip a, bV_strip a, putF_strip a, makeF_strip a]
theorem BWit_strip (c : BT) (u : List UInt8) : BWit (bstrip c) u ↔ BWit c u := by
  cases c with
  | pat t => exact Iff.rfl
  | key t v d => exact Iff.rfl
  | two kd p a b => rw [bstrip, BWit, BWit, bS_strip a, bS_strip b, bV_strip a, bV_strip b]
  | star p a => rw [bstrip, BWit, BWit, bS_strip a, bV_strip a]
theorem bsubs_strip : ∀ c : BT, bsubs (bstrip c) = (bsubs c).map bstrip
  | .pat t => rfl
  | .key t v d => rfl
  | .two kd p a b => by rw [bstrip, bsubs, bsubs, bsubs_strip a, bsubs_strip b, List.map_cons, List.map_append, bstrip]
  | .star p a => by rw [bstrip, bsubs, bsubs, bsubs_strip a, List.map_cons, bstrip]
theorem NoW_strip (c : BT) : NoW (bstrip c) ↔ NoW c := by
  unfold NoW
  rw [bsubs_strip]
  constructor
  · intro h c' hc u hu
    exact h _ (List.mem_map.2 ⟨c', hc, rfl⟩) u ((BWit_strip c' u).2 hu)
  · intro h c' hc u hu
    obtain ⟨d, hd, rfl⟩ := List.mem_map.1 hc
    exact h d hd u ((BWit_strip d u).1 hu)
theorem strip_same {t t' : LT} (h : strip t' = strip t) : getF (toB t') = getF (toB t) ∧ putF (toB t') = putF (toB t) ∧ makeF (toB t') = makeF (toB t) ∧ (NoW (toB t') ↔ NoW (toB t)) ∧ bS (toB t') = bS (toB t) ∧ bV (toB t') = bV (toB t) := by
  have e : bstrip (toB t') = bstrip (toB t) := by rw [← toB_strip, ← toB_strip, h]
  refine ⟨by rw [← getF_strip, e, getF_strip], by rw [← putF_strip, e, putF_strip], by rw [← makeF_strip, e, makeF_strip], by rw [← NoW_strip, e, NoW_strip], by rw [← bS_strip, e, bS_strip], by rw [← bV_strip, e, bV_strip]⟩


end Go.Proofs.YtlljggefbngkeaaGreatDoor
