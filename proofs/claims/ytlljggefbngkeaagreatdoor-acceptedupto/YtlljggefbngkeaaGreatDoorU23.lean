import Derived.Test.YtlljggefbngkeaaGreatDoorU18
import Derived.Test.YtlljggefbngkeaaGreatDoorU12
namespace Go.Proofs.YtlljggefbngkeaaGreatDoor
open Go.RowKit

mutual
/-- the states that read a pattern and then come to a state: as the program lays them -/
def mLay : PT → List MSt → Nat → List MSt × Nat
  | .chr l, S, to => (S ++ [⟨l, to, []⟩], S.length)
  | .seq l, S, to => mSeq l S to
  | .alt l, S, to => ((mAlt l S to).1 ++ [⟨[], 0, (mAlt l S to).2⟩], (mAlt l S to).1.length)
  | .rep c t, S, to =>
    if c = 42 ∨ c = 43 then ((mLay t (S ++ [⟨[], 0, []⟩]) S.length).1.set S.length ⟨[], 0, [to, (mLay t (S ++ [⟨[], 0, []⟩]) S.length).2]⟩, if c = 43 then (mLay t (S ++ [⟨[], 0, []⟩]) S.length).2 else S.length)
    else ((mLay t S to).1 ++ [⟨[], 0, [to, (mLay t S to).2]⟩], (mLay t S to).1.length)
def mSeq : List PT → List MSt → Nat → List MSt × Nat
  | [], S, to => (S, to)
  | t :: l, S, to => mLay t (mSeq l S to).1 (mSeq l S to).2
def mAlt : List PT → List MSt → Nat → List MSt × List Nat
  | [], S, _ => (S, [])
  | t :: l, S, to => ((mAlt l (mLay t S to).1 to).1, (mLay t S to).2 :: (mAlt l (mLay t S to).1 to).2)
end

/-- more states, the elder ones as they were -/
def Ext (S S' : List MSt) : Prop := S.length ≤ S'.length ∧ ∀ k, k < S.length → S'[k]? = S[k]?
theorem Ext.refl (S : List MSt) : Ext S S := ⟨Nat.le_refl _, fun _ _ => rfl⟩
theorem Ext.trans {A B C : List MSt} (h : Ext A B) (k : Ext B C) : Ext A C := ⟨Nat.le_trans h.1 k.1, fun i hi => (k.2 i (Nat.lt_of_lt_of_le hi h.1)).trans (h.2 i hi)⟩
theorem Ext.app (S N : List MSt) : Ext S (S ++ N) := ⟨by simp, fun k hk => List.getElem?_append_left hk⟩

mutual
theorem mLay_ext : ∀ (t : PT) (S : List MSt) (to : Nat), Ext S (mLay t S to).1
  | .chr l, S, to => by rw [mLay]; exact Ext.app _ _
  | .seq l, S, to => by rw [mLay]; exact mSeq_ext l S to
  | .alt l, S, to => by rw [mLay]; exact (mAlt_ext l S to).trans (Ext.app _ _)
  | .rep c t, S, to => by
    rw [mLay]
    split
    · have h := (Ext.app S [⟨[], 0, []⟩]).trans (mLay_ext t (S ++ [⟨[], 0, []⟩]) S.length)
      refine ⟨by simpa using h.1, fun k hk => ?_⟩
      show (List.set _ _ _)[k]? = _
      rw [List.getElem?_set_ne (by omega)]
      exact h.2 k hk
    · exact (mLay_ext t S to).trans (Ext.app _ _)
theorem mSeq_ext : ∀ (l : List PT) (S : List MSt) (to : Nat), Ext S (mSeq l S to).1
  | [], S, to => by rw [mSeq]; exact Ext.refl _
  | t :: l, S, to => by rw [mSeq]; exact (mSeq_ext l S to).trans (mLay_ext t _ _)
theorem mAlt_ext : ∀ (l : List PT) (S : List MSt) (to : Nat), Ext S (mAlt l S to).1
  | [], S, to => by rw [mAlt]; exact Ext.refl _
  | t :: l, S, to => by rw [mAlt]; exact (mLay_ext t S to).trans (mAlt_ext l _ to)
end

/-- from a state to a state, in so many steps, reading a text -/
inductive GoN (F : List MSt) : Nat → Nat → List UInt8 → Nat → Prop
  | refl (a : Nat) : GoN F 0 a [] a
  | sign {k a : Nat} {p : MSt} {c : UInt8} {u : List UInt8} {e : Nat} : F[a]? = some p → c ∈ p.set → GoN F k p.nx u e → GoN F (k + 1) a (c :: u) e
  | free {k a : Nat} {p : MSt} {x : Nat} {u : List UInt8} {e : Nat} : F[a]? = some p → x ∈ p.free → GoN F k x u e → GoN F (k + 1) a u e

/-- from f to what lies outside: a text of T, and on from `to` -/
def Lays (T : List UInt8 → Prop) (F : List MSt) (lo hi f to : Nat) : Prop :=
  ∀ e, ¬ (lo ≤ e ∧ e < hi) →
    (∀ k u, GoN F k f u e → ∃ u1 u2 k', u = u1 ++ u2 ∧ T u1 ∧ k' ≤ k ∧ GoN F k' to u2 e) ∧ (∀ u1 u2 k, T u1 → GoN F k to u2 e → ∃ k', GoN F k' f (u1 ++ u2) e)
def LaysA (l : List PT) (F : List MSt) (lo hi : Nat) (fs : List Nat) (to : Nat) : Prop :=
  ∀ e, ¬ (lo ≤ e ∧ e < hi) →
    (∀ x ∈ fs, ∀ k u, GoN F k x u e → ∃ t ∈ l, ∃ u1 u2 k', u = u1 ++ u2 ∧ M t u1 ∧ k' ≤ k ∧ GoN F k' to u2 e) ∧ (∀ t ∈ l, ∀ u1 u2 k, M t u1 → GoN F k to u2 e → ∃ x ∈ fs, ∃ k', GoN F k' x (u1 ++ u2) e)

/-- a step from a state that has no signs -/
theorem GoN.only {F : List MSt} {k a : Nat} {p : MSt} {u : List UInt8} {e : Nat} (h : GoN F k a u e) (hp : F[a]? = some p) (hs : p.set = []) (hne : e ≠ a) : ∃ x ∈ p.free, ∃ k', k = k' + 1 ∧ GoN F k' x u e := by
  cases h with
  | refl => exact absurd rfl hne
  | sign h1 h2 h3 => rw [hp] at h1; cases h1; rw [hs] at h2; cases h2
  | free h1 h2 h3 => rw [hp] at h1; cases h1; exact ⟨_, h2, _, rfl, h3⟩

theorem star_back {F : List MSt} {a to first e : Nat} {t : PT} (hl : F[a]? = some ⟨[], 0, [to, first]⟩) (i2 : ∀ u1 u2 k, M t u1 → GoN F k a u2 e → ∃ k', GoN F k' first (u1 ++ u2) e) {u2 : List UInt8} {k : Nat} (hg : GoN F k to u2 e) {u1 : List UInt8} (h : MS t u1) : ∃ k', GoN F k' a (u1 ++ u2) e := by
  match u1, h with
  | _, .nil => exact ⟨_, GoN.free hl (by simp) hg⟩
  | _, .cons (u := v1) (v := v2) h1 h2 =>
    obtain ⟨k1, hg1⟩ := star_back hl i2 hg h2
    obtain ⟨k2, hg2⟩ := i2 v1 (v2 ++ u2) k1 h1 hg1
    exact ⟨_, GoN.free hl (x := first) (by simp) (by rw [List.append_assoc]; exact hg2)⟩
termination_by structural h

def Agree (F S S' : List MSt) : Prop := ∀ k, S.length ≤ k → k < S'.length → F[k]? = S'[k]?
theorem Agree.left {F S A B : List MSt} (h : Agree F S B) (hx : Ext A B) : Agree F S A := fun k h1 h2 => (h k h1 (Nat.lt_of_lt_of_le h2 hx.1)).trans (hx.2 k h2)
theorem Agree.right {F S A B : List MSt} (h : Agree F S B) (hx : S.length ≤ A.length) : Agree F A B := fun k h1 h2 => h k (Nat.le_trans hx h1) h2
theorem Agree.last {F S A : List MSt} {p : MSt} (h : Agree F S (A ++ [p])) (hx : S.length ≤ A.length) : F[A.length]? = some p := by
  rw [h A.length hx (by simp)]; simp

mutual
theorem lay_spec : ∀ (t : PT) (_ : okRep t) (S : List MSt) (to : Nat) (F : List MSt), Agree F S (mLay t S to).1 → Lays (M t) F S.length (mLay t S to).1.length (mLay t S to).2 to
  | .chr l, _, S, to, F, h => by
    rw [mLay] at *
    have hl := Agree.last h (Nat.le_refl _)
    intro e he
    have hne : e ≠ S.length := fun h => he ⟨by omega, by simp; omega⟩
    refine ⟨fun k u hg => ?_, fun u1 u2 k hm hg => ?_⟩
    · cases hg with
      | refl => exact absurd rfl hne
      | sign h1 h2 h3 => rw [hl] at h1; cases h1; exact ⟨[_], _, _, rfl, M.chr h2, Nat.le_succ _, h3⟩
      | free h1 h2 h3 => rw [hl] at h1; cases h1; cases h2
    · cases hm with
      | chr hc => exact ⟨_, GoN.sign hl hc hg⟩
  | .seq l, ok, S, to, F, h => by
    rw [okRep] at ok
    rw [mLay] at *
    intro e he
    obtain ⟨h1, h2⟩ := seq_spec l ok S to F h e he
    refine ⟨fun k u hg => ?_, fun u1 u2 k hm hg => ?_⟩
    · obtain ⟨u1, u2, k', a, b, c, d⟩ := h1 k u hg
      exact ⟨u1, u2, k', a, M.seq b, c, d⟩
    · cases hm with
      | seq hm => exact h2 u1 u2 k hm hg
  | .alt l, ok, S, to, F, h => by
    rw [okRep] at ok
    rw [mLay] at *
    have hx := mAlt_ext l S to
    have hl := Agree.last h hx.1
    intro e he
    have hne : e ≠ (mAlt l S to).1.length := fun h => he ⟨by have := hx.1; omega, by simp; omega⟩
    obtain ⟨h1, h2⟩ := alt_spec l ok S to F (Agree.left h (Ext.app _ _)) e (fun hh => he ⟨hh.1, by simp; omega⟩)
    refine ⟨fun k u hg => ?_, fun u1 u2 k hm hg => ?_⟩
    · obtain ⟨x, hxm, k', rfl, hg'⟩ := hg.only hl rfl hne
      obtain ⟨t, ht, u1, u2, k2, a, b, c, d⟩ := h1 x hxm k' u hg'
      exact ⟨u1, u2, k2, a, M.alt ht b, by omega, d⟩
    · cases hm with
      | alt ht hm =>
        obtain ⟨x, hxm, k', hg'⟩ := h2 _ ht u1 u2 k hm hg
        exact ⟨_, GoN.free hl hxm hg'⟩
  | .rep c t, ok, S, to, F, h => by
    rw [okRep] at ok
    rw [mLay] at *
    by_cases hc : c = 42 ∨ c = 43
    · rw [if_pos hc] at *
      have hx := mLay_ext t (S ++ [⟨[], 0, []⟩]) S.length
      have hlen : (S ++ [(⟨[], 0, []⟩ : MSt)]).length = S.length + 1 := by simp
      have hl : F[S.length]? = some ⟨[], 0, [to, (mLay t (S ++ [⟨[], 0, []⟩]) S.length).2]⟩ := by
        rw [h S.length (Nat.le_refl _) (by simp; have := hx.1; omega)]
        show (List.set _ _ _)[_]? = _
        rw [List.getElem?_set_self (by have := hx.1; omega)]
      have hA : Agree F (S ++ [⟨[], 0, []⟩]) (mLay t (S ++ [⟨[], 0, []⟩]) S.length).1 := fun k h1 h2 => by
        rw [h k (by omega) (by simpa using h2)]
        show (List.set _ _ _)[_]? = _
        rw [List.getElem?_set_ne (by omega)]
      have ih := lay_spec t ok.2 _ _ F hA
      generalize (mLay t (S ++ [⟨[], 0, []⟩]) S.length).2 = first at *
      intro e he
      have he' : ¬ (S.length ≤ e ∧ e < (mLay t (S ++ [⟨[], 0, []⟩]) S.length).1.length) := fun hh => he (by simpa using hh)
      obtain ⟨i1, i2⟩ := ih e (fun hh => he' ⟨by omega, hh.2⟩)
      have hne : e ≠ S.length := fun h => he' ⟨by omega, by have := hx.1; omega⟩
      have star1 : ∀ n k, k ≤ n → ∀ u, GoN F k S.length u e → ∃ u1 u2 k', u = u1 ++ u2 ∧ MS t u1 ∧ k' ≤ k ∧ GoN F k' to u2 e := by
        intro n
        induction n with
        | zero => 
          intro k hk u hg
          obtain ⟨x, hxm, k', rfl, hg'⟩ := hg.only hl rfl hne
          omega
        | succ n ihn =>
          intro k hk u hg
          obtain ⟨x, hxm, k', rfl, hg'⟩ := hg.only hl rfl hne
          simp at hxm
          rcases hxm with rfl | rfl
          · exact ⟨[], u, k', rfl, MS.nil, by omega, hg'⟩
          · obtain ⟨u1, u2, k2, rfl, b1, c1, d1⟩ := i1 k' u hg'
            obtain ⟨u3, u4, k3, rfl, b2, c2, d2⟩ := ihn k2 (by omega) u2 d1
            exact ⟨u1 ++ u3, u4, k3, by simp, MS.cons b1 b2, by omega, d2⟩
      rcases hc with rfl | rfl
      · rw [if_neg (by decide)]
        refine ⟨fun k u hg => ?_, fun u1 u2 k hm hg => ?_⟩
        · obtain ⟨u1, u2, k', a, b, c, d⟩ := star1 k k (Nat.le_refl _) u hg
          exact ⟨u1, u2, k', a, M.star b, c, d⟩
        · cases hm with
          | star hm => exact star_back hl i2 hg hm
      · rw [if_pos rfl]
        refine ⟨fun k u hg => ?_, fun u1 u2 k hm hg => ?_⟩
        · obtain ⟨u1, u2, k2, rfl, b1, c1, d1⟩ := i1 k u hg
          obtain ⟨u3, u4, k3, rfl, b2, c2, d2⟩ := star1 k2 k2 (Nat.le_refl _) u2 d1
          exact ⟨u1 ++ u3, u4, k3, by simp, M.plus b1 b2, by omega, d2⟩
        · cases hm with
          | plus m1 m2 =>
            obtain ⟨k1, hg1⟩ := star_back hl i2 hg m2
            obtain ⟨k2, hg2⟩ := i2 _ _ k1 m1 hg1
            exact ⟨k2, by rw [List.append_assoc]; exact hg2⟩
    · rw [if_neg hc] at *
      have hc63 : c = 63 := by rcases ok.1 with h | h | h <;> simp_all
      subst hc63
      have hx := mLay_ext t S to
      have hl := Agree.last h hx.1
      intro e he
      have hne : e ≠ (mLay t S to).1.length := fun h => he ⟨by have := hx.1; omega, by simp; omega⟩
      obtain ⟨h1, h2⟩ := lay_spec t ok.2 S to F (Agree.left h (Ext.app _ _)) e (fun hh => he ⟨hh.1, by simp; omega⟩)
      refine ⟨fun k u hg => ?_, fun u1 u2 k hm hg => ?_⟩
      · obtain ⟨x, hxm, k', rfl, hg'⟩ := hg.only hl rfl hne
        simp at hxm
        rcases hxm with rfl | rfl
        · exact ⟨[], u, k', rfl, M.optN, by omega, hg'⟩
        · obtain ⟨u1, u2, k2, a, b, c, d⟩ := h1 k' u hg'
          exact ⟨u1, u2, k2, a, M.optY b, by omega, d⟩
      · cases hm with
        | optN => exact ⟨_, GoN.free hl (x := to) (by simp) hg⟩
        | optY hm =>
          obtain ⟨k', hg'⟩ := h2 u1 u2 k hm hg
          exact ⟨_, GoN.free hl (x := (mLay t S to).2) (by simp) hg'⟩
theorem seq_spec : ∀ (l : List PT) (_ : okRepL l) (S : List MSt) (to : Nat) (F : List MSt), Agree F S (mSeq l S to).1 → Lays (ML l) F S.length (mSeq l S to).1.length (mSeq l S to).2 to
  | [], _, S, to, F, h => by
    rw [mSeq] at *
    intro e he
    refine ⟨fun k u hg => ⟨[], u, k, rfl, ML.nil, Nat.le_refl _, hg⟩, fun u1 u2 k hm hg => ?_⟩
    cases hm
    exact ⟨k, hg⟩
  | t :: l, ok, S, to, F, h => by
    rw [okRepL] at ok
    rw [mSeq] at *
    have hx := mSeq_ext l S to
    have hy := mLay_ext t (mSeq l S to).1 (mSeq l S to).2
    intro e he
    obtain ⟨h1, h2⟩ := lay_spec t ok.1 _ _ F (Agree.right h hx.1) e (fun hh => he ⟨Nat.le_trans hx.1 hh.1, hh.2⟩)
    obtain ⟨h3, h4⟩ := seq_spec l ok.2 S to F (Agree.left h hy) e (fun hh => he ⟨hh.1, Nat.lt_of_lt_of_le hh.2 hy.1⟩)
    refine ⟨fun k u hg => ?_, fun u1 u2 k hm hg => ?_⟩
    · obtain ⟨u1, u2, k2, rfl, b1, c1, d1⟩ := h1 k u hg
      obtain ⟨u3, u4, k3, rfl, b2, c2, d2⟩ := h3 k2 u2 d1
      exact ⟨u1 ++ u3, u4, k3, by simp, ML.cons b1 b2, by omega, d2⟩
    · cases hm with
      | cons m1 m2 =>
        obtain ⟨k3, hg3⟩ := h4 _ u2 k m2 hg
        obtain ⟨k4, hg4⟩ := h2 _ _ k3 m1 hg3
        exact ⟨k4, by rw [List.append_assoc]; exact hg4⟩
theorem alt_spec : ∀ (l : List PT) (_ : okRepL l) (S : List MSt) (to : Nat) (F : List MSt), Agree F S (mAlt l S to).1 → LaysA l F S.length (mAlt l S to).1.length (mAlt l S to).2 to
  | [], _, S, to, F, h => by
    rw [mAlt] at *
    intro e he
    exact ⟨fun x hx => (by cases hx), fun t ht => (by cases ht)⟩
  | t :: l, ok, S, to, F, h => by
    rw [okRepL] at ok
    rw [mAlt] at *
    have hx := mLay_ext t S to
    have hy := mAlt_ext l (mLay t S to).1 to
    intro e he
    obtain ⟨h1, h2⟩ := lay_spec t ok.1 S to F (Agree.left h hy) e (fun hh => he ⟨hh.1, Nat.lt_of_lt_of_le hh.2 hy.1⟩)
    obtain ⟨h3, h4⟩ := alt_spec l ok.2 _ to F (Agree.right h hx.1) e (fun hh => he ⟨Nat.le_trans hx.1 hh.1, hh.2⟩)
    refine ⟨fun x hxm k u hg => ?_, fun t' ht u1 u2 k hm hg => ?_⟩
    · rcases List.mem_cons.1 hxm with rfl | hxm
      · obtain ⟨u1, u2, k2, a, b, c, d⟩ := h1 k u hg
        exact ⟨t, List.mem_cons_self, u1, u2, k2, a, b, c, d⟩
      · obtain ⟨t', ht, r⟩ := h3 x hxm k u hg
        exact ⟨t', List.mem_cons_of_mem _ ht, r⟩
    · rcases List.mem_cons.1 ht with rfl | ht
      · obtain ⟨k', hg'⟩ := h2 u1 u2 k hm hg
        exact ⟨_, List.mem_cons_self, k', hg'⟩
      · obtain ⟨x, hxm, r⟩ := h4 t' ht u1 u2 k hm hg
        exact ⟨x, List.mem_cons_of_mem _ hxm, r⟩
end

end Go.Proofs.YtlljggefbngkeaaGreatDoor

namespace Go.Proofs.YtlljggefbngkeaaGreatDoor
open Go.RowKit

/-- the machine of a pattern: its states, and its start; its end is state 0 -/
def mBuild (t : PT) : List MSt × Nat := mLay t [⟨[], 0, []⟩] 0

theorem mBuild_zero (t : PT) : (mBuild t).1[0]? = some ⟨[], 0, []⟩ := by
  have h := mLay_ext t [⟨[], 0, []⟩] 0
  exact (h.2 0 (by simp)).trans rfl

theorem GoN.zero {F : List MSt} (h0 : F[0]? = some ⟨[], 0, []⟩) {k : Nat} {u : List UInt8} {e : Nat} (h : GoN F k 0 u e) : u = [] := by
  cases h with
  | refl => rfl
  | sign h1 h2 h3 => rw [h0] at h1; cases h1; cases h2
  | free h1 h2 h3 => rw [h0] at h1; cases h1; cases h2

/-- the machine reads the pattern's texts -/
theorem mBuild_spec {t : PT} (ok : okRep t) (u : List UInt8) : (∃ k, GoN (mBuild t).1 k (mBuild t).2 u 0) ↔ M t u := by
  obtain ⟨h1, h2⟩ := lay_spec t ok [⟨[], 0, []⟩] 0 (mBuild t).1 (fun _ _ _ => rfl) 0 (by simp)
  constructor
  · rintro ⟨k, hg⟩
    obtain ⟨u1, u2, k', rfl, hm, _, hg'⟩ := h1 k u hg
    rw [GoN.zero (mBuild_zero t) hg', List.append_nil]
    exact hm
  · intro hm
    obtain ⟨k', hg⟩ := h2 u [] 0 hm (GoN.refl 0)
    rw [List.append_nil] at hg
    exact ⟨k', hg⟩

/-- what can be come to without a sign -/
def Rch (F : List MSt) (a b : Nat) : Prop := ∃ k, GoN F k a [] b
theorem Rch.refl (F : List MSt) (a : Nat) : Rch F a a := ⟨0, GoN.refl a⟩
theorem Rch.step {F : List MSt} {a x b : Nat} {p : MSt} (h : F[a]? = some p) (hx : x ∈ p.free) (hr : Rch F x b) : Rch F a b := by
  obtain ⟨k, hk⟩ := hr
  exact ⟨_, GoN.free h hx hk⟩

theorem GoN.first {F : List MSt} {k a : Nat} {v : List UInt8} {e : Nat} (h : GoN F k a v e) : ∀ c u, v = c :: u → ∃ s p, Rch F a s ∧ F[s]? = some p ∧ c ∈ p.set ∧ ∃ k', GoN F k' p.nx u e := by
  induction h with
  | refl a => intro c u h; cases h
  | sign h1 h2 h3 ih => intro c u h; cases h; exact ⟨_, _, Rch.refl F _, h1, h2, _, h3⟩
  | free h1 h2 h3 ih =>
    intro c u h
    obtain ⟨s, p, hr, r⟩ := ih c u h
    exact ⟨s, p, Rch.step h1 h2 hr, r⟩

theorem GoN.join {F : List MSt} {k a : Nat} {v : List UInt8} {s : Nat} (h : GoN F k a v s) : ∀ {k' u e}, GoN F k' s u e → ∃ k'', GoN F k'' a (v ++ u) e := by
  induction h with
  | refl a => intro k' u e h; exact ⟨k', h⟩
  | sign h1 h2 h3 ih => intro k' u e h; obtain ⟨k'', hh⟩ := ih h; exact ⟨_, GoN.sign h1 h2 hh⟩
  | free h1 h2 h3 ih => intro k' u e h; obtain ⟨k'', hh⟩ := ih h; exact ⟨_, GoN.free h1 h2 hh⟩

theorem Rch.trans {F : List MSt} {a b c : Nat} (h : Rch F a b) (h' : Rch F b c) : Rch F a c := by
  obtain ⟨k, h⟩ := h
  obtain ⟨k', h'⟩ := h'
  obtain ⟨k'', hh⟩ := h.join h'
  exact ⟨k'', hh⟩

/-- some state of a list comes to e, reading u -/
def Some_ (F : List MSt) (N : List Nat) (u : List UInt8) (e : Nat) : Prop := ∃ s ∈ N, ∃ k, GoN F k s u e

/-- one more byte: the states behind it -/
def Stepped (F : List MSt) (N : List Nat) (c : UInt8) (N' : List Nat) : Prop := ∀ x, x ∈ N' ↔ ∃ a ∈ N, ∃ s p, Rch F a s ∧ F[s]? = some p ∧ c ∈ p.set ∧ x = p.nx

theorem step_some {F : List MSt} {N N' : List Nat} {c : UInt8} (h : Stepped F N c N') (u : List UInt8) (e : Nat) : Some_ F N (c :: u) e ↔ Some_ F N' u e := by
  constructor
  · rintro ⟨a, ha, k, hg⟩
    obtain ⟨s, p, hr, hp, hc, k', hg'⟩ := hg.first c u rfl
    exact ⟨p.nx, (h _).2 ⟨a, ha, s, p, hr, hp, hc, rfl⟩, k', hg'⟩
  · rintro ⟨x, hx, k, hg⟩
    obtain ⟨a, ha, s, p, ⟨k1, hr⟩, hp, hc, rfl⟩ := (h x).1 hx
    obtain ⟨k2, hg2⟩ := hr.join (GoN.sign hp hc hg)
    exact ⟨a, ha, k2, hg2⟩

end Go.Proofs.YtlljggefbngkeaaGreatDoor

namespace Go.Proofs.YtlljggefbngkeaaGreatDoor
open Go.RowKit

/-! Two readers of one text (package pattern's pairs.go), as a matter of states alone: what the search looks for is a text that can be parted twice. -/

/-- how far the two readers have come: 0 neither has parted the text, 1 the first one has, just here, 2 and signs have been read since, 3 both have -/
def nextPh (ph : Nat) : Nat := if ph = 1 then 2 else ph

/-- from a pair to a pair, reading u -/
inductive PW (F : List MSt) (gate beh : Nat) : Nat → Nat → Nat → List UInt8 → Nat → Nat → Nat → Prop
  | refl (ph a b : Nat) : PW F gate beh ph a b [] ph a b
  | free1 {ph a b x : Nat} {p : MSt} {u : List UInt8} {qh c d : Nat} : F[a]? = some p → x ∈ p.free → PW F gate beh ph x b u qh c d → PW F gate beh ph a b u qh c d
  | free2 {ph a b x : Nat} {p : MSt} {u : List UInt8} {qh c d : Nat} : F[b]? = some p → x ∈ p.free → PW F gate beh ph a x u qh c d → PW F gate beh ph a b u qh c d
  | part {b : Nat} {u : List UInt8} {qh c d : Nat} : PW F gate beh 1 beh b u qh c d → PW F gate beh 0 gate b u qh c d
  | join {a : Nat} {u : List UInt8} {qh c d : Nat} : PW F gate beh 3 a beh u qh c d → PW F gate beh 2 a gate u qh c d
  | sign {ph a b : Nat} {p q : MSt} {s : UInt8} {u : List UInt8} {qh c d : Nat} : F[a]? = some p → F[b]? = some q → s ∈ p.set → s ∈ q.set → PW F gate beh (nextPh ph) p.nx q.nx u qh c d → PW F gate beh ph a b (s :: u) qh c d

/-- a reader's way, whatever its length -/
def Go1 (F : List MSt) (a : Nat) (u : List UInt8) (e : Nat) : Prop := ∃ k, GoN F k a u e

section
variable {F : List MSt} {gate beh : Nat}

theorem Go1.refl (a : Nat) : Go1 F a [] a := ⟨0, GoN.refl a⟩
theorem Go1.sign {a : Nat} {p : MSt} {c : UInt8} {u : List UInt8} {e : Nat} (h : F[a]? = some p) (hc : c ∈ p.set) (hr : Go1 F p.nx u e) : Go1 F a (c :: u) e := by
  obtain ⟨k, hk⟩ := hr
  exact ⟨_, GoN.sign h hc hk⟩
theorem Go1.free {a : Nat} {p : MSt} {x : Nat} {u : List UInt8} {e : Nat} (h : F[a]? = some p) (hx : x ∈ p.free) (hr : Go1 F x u e) : Go1 F a u e := by
  obtain ⟨k, hk⟩ := hr
  exact ⟨_, GoN.free h hx hk⟩
theorem Go1.join {a m e : Nat} {u v : List UInt8} (h : Go1 F a u m) (h' : Go1 F m v e) : Go1 F a (u ++ v) e := by
  obtain ⟨k, hk⟩ := h
  obtain ⟨k', hk'⟩ := h'
  exact GoN.join hk hk'

theorem GoN.split {k a : Nat} {w : List UInt8} {e : Nat} (h : GoN F k a w e) : ∀ u v, w = u ++ v → ∃ m, Go1 F a u m ∧ Go1 F m v e := by
  induction h with
  | refl a =>
    intro u v h
    have h1 : u = [] ∧ v = [] := by simpa using h.symm
    rw [h1.1, h1.2]
    exact ⟨a, Go1.refl a, Go1.refl a⟩
  | @sign k a p c u0 e h1 h2 h3 ih =>
    intro u v h
    cases u with
    | nil =>
      simp at h
      subst h
      exact ⟨a, Go1.refl a, Go1.sign h1 h2 ⟨_, h3⟩⟩
    | cons c' u =>
      simp at h
      obtain ⟨rfl, rfl⟩ := h
      obtain ⟨m, hm1, hm2⟩ := ih u v rfl
      exact ⟨m, Go1.sign h1 h2 hm1, hm2⟩
  | free h1 h2 h3 ih =>
    intro u v h
    obtain ⟨m, hm1, hm2⟩ := ih u v h
    exact ⟨m, Go1.free h1 h2 hm1, hm2⟩

/-- what a way of the pair says of the two readers, by the phase that it begins in -/
def Says (F : List MSt) (gate beh e : Nat) (ph a b : Nat) (u : List UInt8) : Prop :=
  (ph = 3 → Go1 F a u e ∧ Go1 F b u e) ∧
  (ph = 2 → ∃ u1 u2, u = u1 ++ u2 ∧ Go1 F a u e ∧ Go1 F b u1 gate ∧ Go1 F beh u2 e) ∧
  (ph = 1 → ∃ u1 u2, u = u1 ++ u2 ∧ u1 ≠ [] ∧ Go1 F a u e ∧ Go1 F b u1 gate ∧ Go1 F beh u2 e) ∧
  (ph = 0 → ∃ w u1 u2, u = w ++ (u1 ++ u2) ∧ u1 ≠ [] ∧ Go1 F a w gate ∧ Go1 F beh (u1 ++ u2) e ∧ Go1 F b (w ++ u1) gate ∧ Go1 F beh u2 e)

theorem pw_says {e : Nat} {ph a b : Nat} {u : List UInt8} {qh c d : Nat} (h : PW F gate beh ph a b u qh c d) : qh = 3 → c = e → d = e → Says F gate beh e ph a b u := by
  induction h with
  | refl ph a b =>
    rintro rfl rfl rfl
    exact ⟨fun _ => ⟨Go1.refl _, Go1.refl _⟩, fun h => (by omega), fun h => (by omega), fun h => (by omega)⟩
  | free1 h1 h2 h3 ih =>
    intro e1 e2 e3
    obtain ⟨i3, i2, i1, i0⟩ := ih e1 e2 e3
    refine ⟨fun h => ?_, fun h => ?_, fun h => ?_, fun h => ?_⟩
    · exact ⟨Go1.free h1 h2 (i3 h).1, (i3 h).2⟩
    · obtain ⟨u1, u2, q1, q2, q3, q4⟩ := i2 h
      exact ⟨u1, u2, q1, Go1.free h1 h2 q2, q3, q4⟩
    · obtain ⟨u1, u2, q1, q0, q2, q3, q4⟩ := i1 h
      exact ⟨u1, u2, q1, q0, Go1.free h1 h2 q2, q3, q4⟩
    · obtain ⟨w, u1, u2, q1, q0, q2, q3, q4, q5⟩ := i0 h
      exact ⟨w, u1, u2, q1, q0, Go1.free h1 h2 q2, q3, q4, q5⟩
  | free2 h1 h2 h3 ih =>
    intro e1 e2 e3
    obtain ⟨i3, i2, i1, i0⟩ := ih e1 e2 e3
    refine ⟨fun h => ?_, fun h => ?_, fun h => ?_, fun h => ?_⟩
    · exact ⟨(i3 h).1, Go1.free h1 h2 (i3 h).2⟩
    · obtain ⟨u1, u2, q1, q2, q3, q4⟩ := i2 h
      exact ⟨u1, u2, q1, q2, Go1.free h1 h2 q3, q4⟩
    · obtain ⟨u1, u2, q1, q0, q2, q3, q4⟩ := i1 h
      exact ⟨u1, u2, q1, q0, q2, Go1.free h1 h2 q3, q4⟩
    · obtain ⟨w, u1, u2, q1, q0, q2, q3, q4, q5⟩ := i0 h
      exact ⟨w, u1, u2, q1, q0, q2, q3, Go1.free h1 h2 q4, q5⟩
  | @part b u qh c d h1 ih =>
    intro e1 e2 e3
    obtain ⟨_, _, i1, _⟩ := ih e1 e2 e3
    refine ⟨fun h => (by omega), fun h => (by omega), fun h => (by omega), fun _ => ?_⟩
    obtain ⟨u1, u2, q1, q0, q2, q3, q4⟩ := i1 rfl
    exact ⟨[], u1, u2, by simpa using q1, q0, Go1.refl _, by rw [← q1]; exact q2, by simpa using q3, q4⟩
  | @join a u qh c d h1 ih =>
    intro e1 e2 e3
    obtain ⟨i3, _, _, _⟩ := ih e1 e2 e3
    refine ⟨fun h => (by omega), fun _ => ?_, fun h => (by omega), fun h => (by omega)⟩
    obtain ⟨q1, q2⟩ := i3 rfl
    exact ⟨[], u, by simp, q1, Go1.refl _, q2⟩
  | @sign ph a b p q s u qh c d h1 h2 h3 h4 h5 ih =>
    intro e1 e2 e3
    obtain ⟨i3, i2, i1, i0⟩ := ih e1 e2 e3
    unfold nextPh at i3 i2 i1 i0
    refine ⟨fun h => ?_, fun h => ?_, fun h => ?_, fun h => ?_⟩
    · subst h
      obtain ⟨q1, q2⟩ := i3 rfl
      exact ⟨Go1.sign h1 h3 q1, Go1.sign h2 h4 q2⟩
    · subst h
      obtain ⟨u1, u2, q1, q2, q3, q4⟩ := i2 rfl
      exact ⟨s :: u1, u2, by simp [q1], Go1.sign h1 h3 q2, Go1.sign h2 h4 q3, q4⟩
    · subst h
      obtain ⟨u1, u2, q1, q2, q3, q4⟩ := i2 rfl
      exact ⟨s :: u1, u2, by simp [q1], by simp, Go1.sign h1 h3 q2, Go1.sign h2 h4 q3, q4⟩
    · subst h
      obtain ⟨w, u1, u2, q1, q0, q2, q3, q4, q5⟩ := i0 rfl
      exact ⟨s :: w, u1, u2, by simp [q1], q0, Go1.sign h1 h3 q2, q3, by simpa using Go1.sign h2 h4 q4, q5⟩

/-- free moves of the first reader, and of the second -/
theorem PW.rch1 {k a x : Nat} {v : List UInt8} (hr : GoN F k a v x) : v = [] → ∀ {ph b : Nat} {u : List UInt8} {qh c d : Nat}, PW F gate beh ph x b u qh c d → PW F gate beh ph a b u qh c d := by
  induction hr with
  | refl a => intro _ _ _ _ _ _ _ h; exact h
  | sign h1 h2 h3 ih => intro e; cases e
  | free h1 h2 h3 ih => intro e _ _ _ _ _ _ h; exact PW.free1 h1 h2 (ih e h)
theorem PW.rch2 {k b x : Nat} {v : List UInt8} (hr : GoN F k b v x) : v = [] → ∀ {ph a : Nat} {u : List UInt8} {qh c d : Nat}, PW F gate beh ph a x u qh c d → PW F gate beh ph a b u qh c d := by
  induction hr with
  | refl a => intro _ _ _ _ _ _ _ h; exact h
  | sign h1 h2 h3 ih => intro e; cases e
  | free h1 h2 h3 ih => intro e _ _ _ _ _ _ h; exact PW.free2 h1 h2 (ih e h)

/-- both readers read u -/
theorem PW.both {ph : Nat} (hph : ph ≠ 1) : ∀ (u : List UInt8) {a b a' b' : Nat} {v : List UInt8} {qh c d : Nat}, Go1 F a u a' → Go1 F b u b' → PW F gate beh ph a' b' v qh c d → PW F gate beh ph a b (u ++ v) qh c d
  | [], a, b, a', b', v, qh, c, d, ⟨k, ha⟩, ⟨k', hb⟩, h => PW.rch1 ha rfl (PW.rch2 hb rfl h)
  | s :: u, a, b, a', b', v, qh, c, d, ⟨k, ha⟩, ⟨k', hb⟩, h => by
    obtain ⟨x, p, ⟨kx, hx⟩, hp, hsp, hx'⟩ := ha.first s u rfl
    obtain ⟨y, q, ⟨ky, hy⟩, hq, hsq, hy'⟩ := hb.first s u rfl
    refine PW.rch1 hx rfl (PW.rch2 hy rfl (PW.sign hp hq hsp hsq ?_))
    rw [show nextPh ph = ph by unfold nextPh; rw [if_neg hph]]
    exact PW.both hph u hx' hy' h

theorem PW.both1 (u : List UInt8) (hu : u ≠ []) {a b a' b' : Nat} {v : List UInt8} {qh c d : Nat} (ha : Go1 F a u a') (hb : Go1 F b u b') (h : PW F gate beh 2 a' b' v qh c d) : PW F gate beh 1 a b (u ++ v) qh c d := by
  cases u with
  | nil => exact absurd rfl hu
  | cons s u =>
    obtain ⟨k, ha⟩ := ha
    obtain ⟨k', hb⟩ := hb
    obtain ⟨x, p, ⟨kx, hx⟩, hp, hsp, hx'⟩ := ha.first s u rfl
    obtain ⟨y, q, ⟨ky, hy⟩, hq, hsq, hy'⟩ := hb.first s u rfl
    exact PW.rch1 hx rfl (PW.rch2 hy rfl (PW.sign hp hq hsp hsq (PW.both (by decide) u hx' hy' h)))

/-- a text that is parted twice is a way of the pair -/
theorem pw_of {e a : Nat} {w u1 u2 : List UInt8} (hu : u1 ≠ []) (h1 : Go1 F a w gate) (h2 : Go1 F beh (u1 ++ u2) e) (h3 : Go1 F a (w ++ u1) gate) (h4 : Go1 F beh u2 e) : PW F gate beh 0 a a (w ++ (u1 ++ u2)) 3 e e := by
  obtain ⟨k3, h3⟩ := h3
  obtain ⟨m, hm1, hm2⟩ := h3.split w u1 rfl
  obtain ⟨k2, h2⟩ := h2
  obtain ⟨m', hm3, hm4⟩ := h2.split u1 u2 rfl
  refine PW.both (by decide) w h1 hm1 (PW.part (PW.both1 u1 hu hm3 hm2 (PW.join ?_)))
  have := PW.both (F := F) (gate := gate) (beh := beh) (ph := 3) (by decide) u2 (v := []) hm4 h4 (PW.refl 3 e e)
  rwa [List.append_nil] at this

/-- a text that both read is a way of the pair -/
theorem pw_of3 {e a b : Nat} {u : List UInt8} (h1 : Go1 F a u e) (h2 : Go1 F b u e) : PW F gate beh 3 a b u 3 e e := by
  have := PW.both (F := F) (gate := gate) (beh := beh) (ph := 3) (by decide) u (v := []) h1 h2 (PW.refl 3 e e)
  rwa [List.append_nil] at this

end

/-- the machine of PartedTwice: its states, where a text of the pattern ahead ends, where the pattern behind begins, where both readers begin -/
def twM (ta tb : PT) : List MSt × Nat × Nat × Nat :=
  let b := mLay tb [⟨[], 0, []⟩] 0
  let a := mLay ta (b.1 ++ [⟨[], 0, []⟩]) b.1.length
  (a.1, b.1.length, b.2, a.2)

/-- a text that can be parted in two ways -/
def Twice (ta tb : PT) (s : List UInt8) : Prop := ∃ w u1 u2, s = w ++ (u1 ++ u2) ∧ u1 ≠ [] ∧ M ta w ∧ M tb (u1 ++ u2) ∧ M ta (w ++ u1) ∧ M tb u2

end Go.Proofs.YtlljggefbngkeaaGreatDoor

namespace Go.Proofs.YtlljggefbngkeaaGreatDoor
open Go.RowKit

theorem GoN.dead {F : List MSt} {a : Nat} (h0 : F[a]? = some ⟨[], 0, []⟩) {k : Nat} {u : List UInt8} {e : Nat} (h : GoN F k a u e) : u = [] := by
  cases h with
  | refl => rfl
  | sign h1 h2 h3 => rw [h0] at h1; cases h1; cases h2
  | free h1 h2 h3 => rw [h0] at h1; cases h1; cases h2

/-- what is laid to a state that leads nowhere reads the pattern's texts -/
theorem laid_dead {t : PT} (ok : okRep t) {S : List MSt} {to : Nat} {F : List MSt} (hA : Agree F S (mLay t S to).1) (h0 : F[to]? = some ⟨[], 0, []⟩) (ho : to < S.length) (u : List UInt8) : Go1 F (mLay t S to).2 u to ↔ M t u := by
  obtain ⟨h1, h2⟩ := lay_spec t ok S to F hA to (fun h => by omega)
  constructor
  · rintro ⟨k, hk⟩
    obtain ⟨u1, u2, k', rfl, hm, _, hg⟩ := h1 k u hk
    rw [GoN.dead h0 hg, List.append_nil]
    exact hm
  · intro hm
    obtain ⟨k, hk⟩ := h2 u [] 0 hm (GoN.refl to)
    rw [List.append_nil] at hk
    exact ⟨k, hk⟩

section
variable {ta tb : PT}

theorem tw_facts (oka : okRep ta) (okb : okRep tb) : (∀ u, Go1 (twM ta tb).1 (twM ta tb).2.2.1 u 0 ↔ M tb u) ∧ (∀ u, Go1 (twM ta tb).1 (twM ta tb).2.2.2 u (twM ta tb).2.1 ↔ M ta u) := by
  unfold twM
  simp only
  have x1 := mLay_ext tb [⟨[], 0, []⟩] 0
  have l1 : 1 ≤ (mLay tb [⟨[], 0, []⟩] 0).1.length := by have := x1.1; simpa using this
  have z1 : (mLay tb [⟨[], 0, []⟩] 0).1[0]? = some ⟨[], 0, []⟩ := (x1.2 0 (by simp)).trans rfl
  generalize hb : mLay tb [⟨[], 0, []⟩] 0 = b at *
  have x2 := mLay_ext ta (b.1 ++ [⟨[], 0, []⟩]) b.1.length
  have x3 : Ext b.1 (mLay ta (b.1 ++ [⟨[], 0, []⟩]) b.1.length).1 := (Ext.app b.1 [⟨[], 0, []⟩]).trans x2
  have zg : (mLay ta (b.1 ++ [⟨[], 0, []⟩]) b.1.length).1[b.1.length]? = some ⟨[], 0, []⟩ := (x2.2 b.1.length (by simp)).trans (by simp)
  have z0 : (mLay ta (b.1 ++ [⟨[], 0, []⟩]) b.1.length).1[0]? = some ⟨[], 0, []⟩ := (x3.2 0 (by omega)).trans z1
  constructor
  · intro u
    have := laid_dead (t := tb) okb (S := [⟨[], 0, []⟩]) (to := 0) (F := (mLay ta (b.1 ++ [⟨[], 0, []⟩]) b.1.length).1) (fun k _ h2 => by rw [hb] at h2 ⊢; exact x3.2 k h2) z0 (by simp) u
    rw [hb] at this
    exact this
  · intro u
    exact laid_dead (t := ta) oka (S := b.1 ++ [⟨[], 0, []⟩]) (to := b.1.length) (fun k _ _ => rfl) zg (by simp) u

/-- PartedTwice's search: a way from its start to its goal reads a text that can be parted twice, and each such text is so read -/
theorem tw_spec (oka : okRep ta) (okb : okRep tb) (s : List UInt8) : PW (twM ta tb).1 (twM ta tb).2.1 (twM ta tb).2.2.1 0 (twM ta tb).2.2.2 (twM ta tb).2.2.2 s 3 0 0 ↔ Twice ta tb s := by
  obtain ⟨hb, ha⟩ := tw_facts oka okb
  constructor
  · intro h
    obtain ⟨w, u1, u2, q1, q0, q2, q3, q4, q5⟩ := (pw_says h rfl rfl rfl).2.2.2 rfl
    exact ⟨w, u1, u2, q1, q0, (ha _).1 q2, (hb _).1 q3, (ha _).1 q4, (hb _).1 q5⟩
  · rintro ⟨w, u1, u2, rfl, q0, q2, q3, q4, q5⟩
    exact pw_of q0 ((ha _).2 q2) ((hb _).2 q3) ((ha _).2 q4) ((hb _).2 q5)

end

/-- the machine of Shared: its states, where the first and the second reader begin -/
def shM (tp tq : PT) : List MSt × Nat × Nat :=
  let p := mLay tp [⟨[], 0, []⟩] 0
  let q := mLay tq p.1 0
  (q.1, p.2, q.2)

theorem sh_spec {tp tq : PT} (okp : okRep tp) (okq : okRep tq) (gate beh : Nat) (s : List UInt8) : PW (shM tp tq).1 gate beh 3 (shM tp tq).2.1 (shM tp tq).2.2 s 3 0 0 ↔ M tp s ∧ M tq s := by
  unfold shM
  simp only
  have x1 := mLay_ext tp [⟨[], 0, []⟩] 0
  have l1 : 1 ≤ (mLay tp [⟨[], 0, []⟩] 0).1.length := by have := x1.1; simpa using this
  have z1 : (mLay tp [⟨[], 0, []⟩] 0).1[0]? = some ⟨[], 0, []⟩ := (x1.2 0 (by simp)).trans rfl
  generalize hp : mLay tp [⟨[], 0, []⟩] 0 = p at *
  have x2 := mLay_ext tq p.1 0
  have z0 : (mLay tq p.1 0).1[0]? = some ⟨[], 0, []⟩ := (x2.2 0 (by omega)).trans z1
  have hP : ∀ u, Go1 (mLay tq p.1 0).1 p.2 u 0 ↔ M tp u := fun u => by
    have := laid_dead (t := tp) okp (S := [⟨[], 0, []⟩]) (to := 0) (F := (mLay tq p.1 0).1) (fun k _ h2 => by rw [hp] at h2 ⊢; exact x2.2 k h2) z0 (by simp) u
    rw [hp] at this
    exact this
  have hQ : ∀ u, Go1 (mLay tq p.1 0).1 (mLay tq p.1 0).2 u 0 ↔ M tq u := fun u => laid_dead (t := tq) okq (S := p.1) (to := 0) (fun k _ _ => rfl) z0 (by omega) u
  constructor
  · intro h
    obtain ⟨q1, q2⟩ := (pw_says h rfl rfl rfl).1 rfl
    exact ⟨(hP _).1 q1, (hQ _).1 q2⟩
  · rintro ⟨q1, q2⟩
    exact pw_of3 ((hP _).2 q1) ((hQ _).2 q2)

/-- rows of texts of a piece, in two ways -/
def Rows2 (t : PT) (s : List UInt8) : Prop := ∃ l l' : List (List UInt8), l ≠ l' ∧ (∀ x, x ∈ l → M t x) ∧ (∀ x, x ∈ l' → M t x) ∧ l.flatten = s ∧ l'.flatten = s

end Go.Proofs.YtlljggefbngkeaaGreatDoor

namespace Go.Proofs.YtlljggefbngkeaaGreatDoor
open Go.RowKit

theorem MS.list {t : PT} {s : List UInt8} (h : MS t s) : ∃ l : List (List UInt8), (∀ x, x ∈ l → M t x) ∧ l.flatten = s := by
  match s, h with
  | _, .nil => exact ⟨[], fun x hx => (by cases hx), rfl⟩
  | _, .cons (u := u) h1 h2 =>
    obtain ⟨l, hl, rfl⟩ := MS.list h2
    refine ⟨u :: l, fun x hx => ?_, by simp⟩
    rcases List.mem_cons.1 hx with rfl | hx
    · exact h1
    · exact hl x hx
theorem MS.of_list {t : PT} : ∀ (l : List (List UInt8)), (∀ x, x ∈ l → M t x) → MS t l.flatten
  | [], _ => MS.nil
  | x :: l, h => by
    rw [List.flatten_cons]
    exact MS.cons (h x (List.mem_cons_self ..)) (MS.of_list l (fun y hy => h y (List.mem_cons_of_mem _ hy)))
theorem M.star_iff {t : PT} {s : List UInt8} : M (.rep 42 t) s ↔ MS t s := by
  constructor
  · intro h
    cases h with
    | star h => exact h
  · exact M.star

/-- a witness of repeatedTwice's search is a row of texts in two ways -/
theorem rows_of_twice {t : PT} {s : List UInt8} (h : Twice t (.rep 42 t) s) : Rows2 t s := by
  obtain ⟨w, u1, u2, rfl, hu, h1, h2, h3, h4⟩ := h
  obtain ⟨l, hl, hls⟩ := (M.star_iff.1 h2).list
  obtain ⟨l', hl', hls'⟩ := (M.star_iff.1 h4).list
  refine ⟨w :: l, (w ++ u1) :: l', fun e => ?_, fun x hx => ?_, fun x hx => ?_, by rw [List.flatten_cons, hls], by rw [List.flatten_cons, hls', List.append_assoc]⟩
  · injection e with e1 e2
    have := congrArg List.length e1
    simp at this
    exact hu (by simpa using this)
  · rcases List.mem_cons.1 hx with rfl | hx
    · exact h1
    · exact hl x hx
  · rcases List.mem_cons.1 hx with rfl | hx
    · exact h3
    · exact hl' x hx

theorem pre_of {α : Type} : ∀ (x y r r' : List α), x ++ r = y ++ r' → x.length ≤ y.length → ∃ u, y = x ++ u ∧ r = u ++ r'
  | [], y, r, r', h, _ => ⟨y, rfl, h⟩
  | a :: x, [], r, r', h, hl => by simp at hl
  | a :: x, b :: y, r, r', h, hl => by
    simp only [List.cons_append, List.cons.injEq] at h
    obtain ⟨rfl, h⟩ := h
    obtain ⟨u, rfl, rfl⟩ := pre_of x y r r' h (by simpa using hl)
    exact ⟨u, rfl, rfl⟩

/-- where some text is a row of texts in two ways, the search finds a text -/
theorem twice_of_rows {t : PT} (h0 : ¬ M t []) : ∀ (l l' : List (List UInt8)), l ≠ l' → (∀ x, x ∈ l → M t x) → (∀ x, x ∈ l' → M t x) → l.flatten = l'.flatten → ∃ s, Twice t (.rep 42 t) s
  | [], [], hn, _, _, _ => absurd rfl hn
  | [], y :: r', _, _, h', hf => by
    rw [List.flatten_nil, List.flatten_cons] at hf
    have : y = [] := (List.append_eq_nil_iff.1 hf.symm).1
    exact absurd (this ▸ h' y (List.mem_cons_self ..)) h0
  | x :: r, [], _, h, _, hf => by
    rw [List.flatten_nil, List.flatten_cons] at hf
    have : x = [] := (List.append_eq_nil_iff.1 hf).1
    exact absurd (this ▸ h x (List.mem_cons_self ..)) h0
  | x :: r, y :: r', hn, h, h', hf => by
    have hx := h x (List.mem_cons_self ..)
    have hy := h' y (List.mem_cons_self ..)
    have hr := fun z hz => h z (List.mem_cons_of_mem _ hz)
    have hr' := fun z hz => h' z (List.mem_cons_of_mem _ hz)
    rw [List.flatten_cons, List.flatten_cons] at hf
    by_cases e : x = y
    · subst e
      exact twice_of_rows h0 r r' (fun e => hn (by rw [e])) hr hr' (List.append_cancel_left hf)
    · rcases Nat.le_total x.length y.length with hle | hle
      · obtain ⟨u, rfl, hu⟩ := pre_of x y _ _ hf hle
        refine ⟨x ++ (u ++ r'.flatten), x, u, r'.flatten, rfl, fun e' => e (by simp [e']), hx, ?_, hy, M.star (MS.of_list r' hr')⟩
        rw [← hu]
        exact M.star (MS.of_list r hr)
      · obtain ⟨u, rfl, hu⟩ := pre_of y x _ _ hf.symm hle
        refine ⟨y ++ (u ++ r.flatten), y, u, r.flatten, rfl, fun e' => e (by simp [e']), hy, ?_, hx, M.star (MS.of_list r hr)⟩
        rw [← hu]
        exact M.star (MS.of_list r' hr')

end Go.Proofs.YtlljggefbngkeaaGreatDoor
