import Derived.Test.YtlljggefbngkeaaU14
import Derived.Test.YtlljggefbngkeaaU11
namespace Go.Proofs.Ytlljggefbngkeaa
open Go.RowKit

mutual
/-- the states that read a pattern and then come to a state: as the program lays them -/
def mLay : PT → List MSt → Nat → List MSt × Nat
  | .chr l, S, to => (S ++ [⟨l, to, []⟩], S.length)
  | .seq l, S, to => mSeq l S to
  | .alt l, S, to => ((mAlt l S to).1 ++ [⟨[], 0, (mAlt l S to).2⟩], (mAlt l S to).1.length)
  | .rep c t, S, to =>
    if c = 42 ∨ c = 43 then ((mLay t (S ++ [⟨[], 0, []⟩]) S.length).1.set S.length ⟨[], 0, [to, (mLay t (S ++ [⟨[], 0, []⟩]) S.length).2]⟩, if c = 43 then (mLay t (S ++ [⟨[], 0, []⟩]) S.length).2 else S.length)
    else ((mLay t S to).1 ++ [⟨[], 0, [to, (mLay t S to).2]⟩], (mLay t S to).1.length)
def mSeq : List PT → List MSt → Nat → List MSt × Nat
  | [], S, to => (S, to)
  | t :: l, S, to => mLay t (mSeq l S to).1 (mSeq l S to).2
def mAlt : List PT → List MSt → Nat → List MSt × List Nat
  | [], S, _ => (S, [])
  | t :: l, S, to => ((mAlt l (mLay t S to).1 to).1, (mLay t S to).2 :: (mAlt l (mLay t S to).1 to).2)
end

/-- more states, the elder ones as they were -/
def Ext (S S' : List MSt) : Prop := S.length ≤ S'.length ∧ ∀ k, k < S.length → S'[k]? = S[k]?
theorem Ext.refl (S : List MSt) : Ext S S := ⟨Nat.le_refl _, fun _ _ => rfl⟩
theorem Ext.trans {A B C : List MSt} (h : Ext A B) (k : Ext B C) : Ext A C := ⟨Nat.le_trans h.1 k.1, fun i hi => (k.2 i (Nat.lt_of_lt_of_le hi h.1)).trans (h.2 i hi)⟩
theorem Ext.app (S N : List MSt) : Ext S (S ++ N) := ⟨by simp, fun k hk => List.getElem?_append_left hk⟩

mutual
theorem mLay_ext : ∀ (t : PT) (S : List MSt) (to : Nat), Ext S (mLay t S to).1
  | .chr l, S, to => by rw [mLay]; exact Ext.app _ _
  | .seq l, S, to => by rw [mLay]; exact mSeq_ext l S to
  | .alt l, S, to => by rw [mLay]; exact (mAlt_ext l S to).trans (Ext.app _ _)
  | .rep c t, S, to => by
    rw [mLay]
    split
    · have h := (Ext.app S [⟨[], 0, []⟩]).trans (mLay_ext t (S ++ [⟨[], 0, []⟩]) S.length)
      refine ⟨by simpa using h.1, fun k hk => ?_⟩
      show (List.set _ _ _)[k]? = _
      rw [List.getElem?_set_ne (by omega)]
      exact h.2 k hk
    · exact (mLay_ext t S to).trans (Ext.app _ _)
theorem mSeq_ext : ∀ (l : List PT) (S : List MSt) (to : Nat), Ext S (mSeq l S to).1
  | [], S, to => by rw [mSeq]; exact Ext.refl _
  | t :: l, S, to => by rw [mSeq]; exact (mSeq_ext l S to).trans (mLay_ext t _ _)
theorem mAlt_ext : ∀ (l : List PT) (S : List MSt) (to : Nat), Ext S (mAlt l S to).1
  | [], S, to => by rw [mAlt]; exact Ext.refl _
  | t :: l, S, to => by rw [mAlt]; exact (mLay_ext t S to).trans (mAlt_ext l _ to)
end

/-- from a state to a state, in so many steps, reading a text -/
inductive GoN (F : List MSt) : Nat → Nat → List UInt8 → Nat → Prop
  | refl (a : Nat) : GoN F 0 a [] a
  | sign {k a : Nat} {p : MSt} {c : UInt8} {u : List UInt8} {e : Nat} : F[a]? = some p → c ∈ p.set → GoN F k p.nx u e → GoN F (k + 1) a (c :: u) e
  | free {k a : Nat} {p : MSt} {x : Nat} {u : List UInt8} {e : Nat} : F[a]? = some p → x ∈ p.free → GoN F k x u e → GoN F (k + 1) a u e

/-- from f to what lies outside: a text of T, and on from `to` -/
def Lays (T : List UInt8 → Prop) (F : List MSt) (lo hi f to : Nat) : Prop :=
  ∀ e, ¬ (lo ≤ e ∧ e < hi) →
    (∀ k u, GoN F k f u e → ∃ u1 u2 k', u = u1 ++ u2 ∧ T u1 ∧ k' ≤ k ∧ GoN F k' to u2 e) ∧ (∀ u1 u2 k, T u1 → GoN F k to u2 e → ∃ k', GoN F k' f (u1 ++ u2) e)
def LaysA (l : List PT) (F : List MSt) (lo hi : Nat) (fs : List Nat) (to : Nat) : Prop :=
  ∀ e, ¬ (lo ≤ e ∧ e < hi) →
    (∀ x ∈ fs, ∀ k u, GoN F k x u e → ∃ t ∈ l, ∃ u1 u2 k', u = u1 ++ u2 ∧ M t u1 ∧ k' ≤ k ∧ GoN F k' to u2 e) ∧ (∀ t ∈ l, ∀ u1 u2 k, M t u1 → GoN F k to u2 e → ∃ x ∈ fs, ∃ k', GoN F k' x (u1 ++ u2) e)

/-- a step from a state that has no signs -/
theorem GoN.only {F : List MSt} {k a : Nat} {p : MSt} {u : List UInt8} {e : Nat} (h : GoN F k a u e) (hp : F[a]? = some p) (hs : p.set = []) (hne : e ≠ a) : ∃ x ∈ p.free, ∃ k', k = k' + 1 ∧ GoN F k' x u e := by
  cases h with
  | refl => exact absurd rfl hne
  | sign h1 h2 h3 => rw [hp] at h1; cases h1; rw [hs] at h2; cases h2
  | free h1 h2 h3 => rw [hp] at h1; cases h1; exact ⟨_, h2, _, rfl, h3⟩

theorem star_back {F : List MSt} {a to first e : Nat} {t : PT} (hl : F[a]? = some ⟨[], 0, [to, first]⟩) (i2 : ∀ u1 u2 k, M t u1 → GoN F k a u2 e → ∃ k', GoN F k' first (u1 ++ u2) e) {u2 : List UInt8} {k : Nat} (hg : GoN F k to u2 e) {u1 : List UInt8} (h : MS t u1) : ∃ k', GoN F k' a (u1 ++ u2) e := by
  match u1, h with
  | _, .nil => exact ⟨_, GoN.free hl (by simp) hg⟩
  | _, .cons (u := v1) (v := v2) h1 h2 =>
    obtain ⟨k1, hg1⟩ := star_back hl i2 hg h2
    obtain ⟨k2, hg2⟩ := i2 v1 (v2 ++ u2) k1 h1 hg1
    exact ⟨_, GoN.free hl (x := first) (by simp) (by rw [List.append_assoc]; exact hg2)⟩
termination_by structural h

def Agree (F S S' : List MSt) : Prop := ∀ k, S.length ≤ k → k < S'.length → F[k]? = S'[k]?
theorem Agree.left {F S A B : List MSt} (h : Agree F S B) (hx : Ext A B) : Agree F S A := fun k h1 h2 => (h k h1 (Nat.lt_of_lt_of_le h2 hx.1)).trans (hx.2 k h2)
theorem Agree.right {F S A B : List MSt} (h : Agree F S B) (hx : S.length ≤ A.length) : Agree F A B := fun k h1 h2 => h k (Nat.le_trans hx h1) h2
theorem Agree.last {F S A : List MSt} {p : MSt} (h : Agree F S (A ++ [p])) (hx : S.length ≤ A.length) : F[A.length]? = some p := by
  rw [h A.length hx (by simp)]; simp

mutual
theorem lay_spec : ∀ (t : PT) (_ : okRep t) (S : List MSt) (to : Nat) (F : List MSt), Agree F S (mLay t S to).1 → Lays (M t) F S.length (mLay t S to).1.length (mLay t S to).2 to
  | .chr l, _, S, to, F, h => by
    rw [mLay] at *
    have hl := Agree.last h (Nat.le_refl _)
    intro e he
    have hne : e ≠ S.length := fun h => he ⟨by omega, by simp; omega⟩
    refine ⟨fun k u hg => ?_, fun u1 u2 k hm hg => ?_⟩
    · cases hg with
      | refl => exact absurd rfl hne
      | sign h1 h2 h3 => rw [hl] at h1; cases h1; exact ⟨[_], _, _, rfl, M.chr h2, Nat.le_succ _, h3⟩
      | free h1 h2 h3 => rw [hl] at h1; cases h1; cases h2
    · cases hm with
      | chr hc => exact ⟨_, GoN.sign hl hc hg⟩
  | .seq l, ok, S, to, F, h => by
    rw [okRep] at ok
    rw [mLay] at *
    intro e he
    obtain ⟨h1, h2⟩ := seq_spec l ok S to F h e he
    refine ⟨fun k u hg => ?_, fun u1 u2 k hm hg => ?_⟩
    · obtain ⟨u1, u2, k', a, b, c, d⟩ := h1 k u hg
      exact ⟨u1, u2, k', a, M.seq b, c, d⟩
    · cases hm with
      | seq hm => exact h2 u1 u2 k hm hg
  | .alt l, ok, S, to, F, h => by
    rw [okRep] at ok
    rw [mLay] at *
    have hx := mAlt_ext l S to
    have hl := Agree.last h hx.1
    intro e he
    have hne : e ≠ (mAlt l S to).1.length := fun h => he ⟨by have := hx.1; omega, by simp; omega⟩
    obtain ⟨h1, h2⟩ := alt_spec l ok S to F (Agree.left h (Ext.app _ _)) e (fun hh => he ⟨hh.1, by simp; omega⟩)
    refine ⟨fun k u hg => ?_, fun u1 u2 k hm hg => ?_⟩
    · obtain ⟨x, hxm, k', rfl, hg'⟩ := hg.only hl rfl hne
      obtain ⟨t, ht, u1, u2, k2, a, b, c, d⟩ := h1 x hxm k' u hg'
      exact ⟨u1, u2, k2, a, M.alt ht b, by omega, d⟩
    · cases hm with
      | alt ht hm =>
        obtain ⟨x, hxm, k', hg'⟩ := h2 _ ht u1 u2 k hm hg
        exact ⟨_, GoN.free hl hxm hg'⟩
  | .rep c t, ok, S, to, F, h => by
    rw [okRep] at ok
    rw [mLay] at *
    by_cases hc : c = 42 ∨ c = 43
    · rw [if_pos hc] at *
      have hx := mLay_ext t (S ++ [⟨[], 0, []⟩]) S.length
      have hlen : (S ++ [(⟨[], 0, []⟩ : MSt)]).length = S.length + 1 := by simp
      have hl : F[S.length]? = some ⟨[], 0, [to, (mLay t (S ++ [⟨[], 0, []⟩]) S.length).2]⟩ := by
        rw [h S.length (Nat.le_refl _) (by simp; have := hx.1; omega)]
        show (List.set _ _ _)[_]? = _
        rw [List.getElem?_set_self (by have := hx.1; omega)]
      have hA : Agree F (S ++ [⟨[], 0, []⟩]) (mLay t (S ++ [⟨[], 0, []⟩]) S.length).1 := fun k h1 h2 => by
        rw [h k (by omega) (by simpa using h2)]
        show (List.set _ _ _)[_]? = _
        rw [List.getElem?_set_ne (by omega)]
      have ih := lay_spec t ok.2 _ _ F hA
      generalize (mLay t (S ++ [⟨[], 0, []⟩]) S.length).2 = first at *
      intro e he
      have he' : ¬ (S.length ≤ e ∧ e < (mLay t (S ++ [⟨[], 0, []⟩]) S.length).1.length) := fun hh => he (by simpa using hh)
      obtain ⟨i1, i2⟩ := ih e (fun hh => he' ⟨by omega, hh.2⟩)
      have hne : e ≠ S.length := fun h => he' ⟨by omega, by have := hx.1; omega⟩
      have star1 : ∀ n k, k ≤ n → ∀ u, GoN F k S.length u e → ∃ u1 u2 k', u = u1 ++ u2 ∧ MS t u1 ∧ k' ≤ k ∧ GoN F k' to u2 e := by
        intro n
        induction n with
        | zero => 
          intro k hk u hg
          obtain ⟨x, hxm, k', rfl, hg'⟩ := hg.only hl rfl hne
          omega
        | succ n ihn =>
          intro k hk u hg
          obtain ⟨x, hxm, k', rfl, hg'⟩ := hg.only hl rfl hne
          simp at hxm
          rcases hxm with rfl | rfl
          · exact ⟨[], u, k', rfl, MS.nil, by omega, hg'⟩
          · obtain ⟨u1, u2, k2, rfl, b1, c1, d1⟩ := i1 k' u hg'
            obtain ⟨u3, u4, k3, rfl, b2, c2, d2⟩ := ihn k2 (by omega) u2 d1
            exact ⟨u1 ++ u3, u4, k3, by simp, MS.cons b1 b2, by omega, d2⟩
      rcases hc with rfl | rfl
      · rw [if_neg (by decide)]
        refine ⟨fun k u hg => ?_, fun u1 u2 k hm hg => ?_⟩
        · obtain ⟨u1, u2, k', a, b, c, d⟩ := star1 k k (Nat.le_refl _) u hg
          exact ⟨u1, u2, k', a, M.star b, c, d⟩
        · cases hm with
          | star hm => exact star_back hl i2 hg hm
      · rw [if_pos rfl]
        refine ⟨fun k u hg => ?_, fun u1 u2 k hm hg => ?_⟩
        · obtain ⟨u1, u2, k2, rfl, b1, c1, d1⟩ := i1 k u hg
          obtain ⟨u3, u4, k3, rfl, b2, c2, d2⟩ := star1 k2 k2 (Nat.le_refl _) u2 d1
          exact ⟨u1 ++ u3, u4, k3, by simp, M.plus b1 b2, by omega, d2⟩
        · cases hm with
          | plus m1 m2 =>
            obtain ⟨k1, hg1⟩ := star_back hl i2 hg m2
            obtain ⟨k2, hg2⟩ := i2 _ _ k1 m1 hg1
            exact ⟨k2, by rw [List.append_assoc]; exact hg2⟩
    · rw [if_neg hc] at *
      have hc63 : c = 63 := by rcases ok.1 with h | h | h <;> simp_all
      subst hc63
      have hx := mLay_ext t S to
      have hl := Agree.last h hx.1
      intro e he
      have hne : e ≠ (mLay t S to).1.length := fun h => he ⟨by have := hx.1; omega, by simp; omega⟩
      obtain ⟨h1, h2⟩ := lay_spec t ok.2 S to F (Agree.left h (Ext.app _ _)) e (fun hh => he ⟨hh.1, by simp; omega⟩)
      refine ⟨fun k u hg => ?_, fun u1 u2 k hm hg => ?_⟩
      · obtain ⟨x, hxm, k', rfl, hg'⟩ := hg.only hl rfl hne
        simp at hxm
        rcases hxm with rfl | rfl
        · exact ⟨[], u, k', rfl, M.optN, by omega, hg'⟩
        · obtain ⟨u1, u2, k2, a, b, c, d⟩ := h1 k' u hg'
          exact ⟨u1, u2, k2, a, M.optY b, by omega, d⟩
      · cases hm with
        | optN => exact ⟨_, GoN.free hl (x := to) (by simp) hg⟩
        | optY hm =>
          obtain ⟨k', hg'⟩ := h2 u1 u2 k hm hg
          exact ⟨_, GoN.free hl (x := (mLay t S to).2) (by simp) hg'⟩
theorem seq_spec : ∀ (l : List PT) (_ : okRepL l) (S : List MSt) (to : Nat) (F : List MSt), Agree F S (mSeq l S to).1 → Lays (ML l) F S.length (mSeq l S to).1.length (mSeq l S to).2 to
  | [], _, S, to, F, h => by
    rw [mSeq] at *
    intro e he
    refine ⟨fun k u hg => ⟨[], u, k, rfl, ML.nil, Nat.le_refl _, hg⟩, fun u1 u2 k hm hg => ?_⟩
    cases hm
    exact ⟨k, hg⟩
  | t :: l, ok, S, to, F, h => by
    rw [okRepL] at ok
    rw [mSeq] at *
    have hx := mSeq_ext l S to
    have hy := mLay_ext t (mSeq l S to).1 (mSeq l S to).2
    intro e he
    obtain ⟨h1, h2⟩ := lay_spec t ok.1 _ _ F (Agree.right h hx.1) e (fun hh => he ⟨Nat.le_trans hx.1 hh.1, hh.2⟩)
    obtain ⟨h3, h4⟩ := seq_spec l ok.2 S to F (Agree.left h hy) e (fun hh => he ⟨hh.1, Nat.lt_of_lt_of_le hh.2 hy.1⟩)
    refine ⟨fun k u hg => ?_, fun u1 u2 k hm hg => ?_⟩
    · obtain ⟨u1, u2, k2, rfl, b1, c1, d1⟩ := h1 k u hg
      obtain ⟨u3, u4, k3, rfl, b2, c2, d2⟩ := h3 k2 u2 d1
      exact ⟨u1 ++ u3, u4, k3, by simp, ML.cons b1 b2, by omega, d2⟩
    · cases hm with
      | cons m1 m2 =>
        obtain ⟨k3, hg3⟩ := h4 _ u2 k m2 hg
        obtain ⟨k4, hg4⟩ := h2 _ _ k3 m1 hg3
        exact ⟨k4, by rw [List.append_assoc]; exact hg4⟩
theorem alt_spec : ∀ (l : List PT) (_ : okRepL l) (S : List MSt) (to : Nat) (F : List MSt), Agree F S (mAlt l S to).1 → LaysA l F S.length (mAlt l S to).1.length (mAlt l S to).2 to
  | [], _, S, to, F, h => by
    rw [mAlt] at *
    intro e he
    exact ⟨fun x hx => (by cases hx), fun t ht => (by cases ht)⟩
  | t :: l, ok, S, to, F, h => by
    rw [okRepL] at ok
    rw [mAlt] at *
    have hx := mLay_ext t S to
    have hy := mAlt_ext l (mLay t S to).1 to
    intro e he
    obtain ⟨h1, h2⟩ := lay_spec t ok.1 S to F (Agree.left h hy) e (fun hh => he ⟨hh.1, Nat.lt_of_lt_of_le hh.2 hy.1⟩)
    obtain ⟨h3, h4⟩ := alt_spec l ok.2 _ to F (Agree.right h hx.1) e (fun hh => he ⟨Nat.le_trans hx.1 hh.1, hh.2⟩)
    refine ⟨fun x hxm k u hg => ?_, fun t' ht u1 u2 k hm hg => ?_⟩
    · rcases List.mem_cons.1 hxm with rfl | hxm
      · obtain ⟨u1, u2, k2, a, b, c, d⟩ := h1 k u hg
        exact ⟨t, List.mem_cons_self, u1, u2, k2, a, b, c, d⟩
      · obtain ⟨t', ht, r⟩ := h3 x hxm k u hg
        exact ⟨t', List.mem_cons_of_mem _ ht, r⟩
    · rcases List.mem_cons.1 ht with rfl | ht
      · obtain ⟨k', hg'⟩ := h2 u1 u2 k hm hg
        exact ⟨_, List.mem_cons_self, k', hg'⟩
      · obtain ⟨x, hxm, r⟩ := h4 t' ht u1 u2 k hm hg
        exact ⟨x, List.mem_cons_of_mem _ hxm, r⟩
end

end Go.Proofs.Ytlljggefbngkeaa

namespace Go.Proofs.Ytlljggefbngkeaa
open Go.RowKit

/-- the machine of a pattern: its states, and its start; its end is state 0 -/
def mBuild (t : PT) : List MSt × Nat := mLay t [⟨[], 0, []⟩] 0

theorem mBuild_zero (t : PT) : (mBuild t).1[0]? = some ⟨[], 0, []⟩ := by
  have h := mLay_ext t [⟨[], 0, []⟩] 0
  exact (h.2 0 (by simp)).trans rfl

theorem GoN.zero {F : List MSt} (h0 : F[0]? = some ⟨[], 0, []⟩) {k : Nat} {u : List UInt8} {e : Nat} (h : GoN F k 0 u e) : u = [] := by
  cases h with
  | refl => rfl
  | sign h1 h2 h3 => rw [h0] at h1; cases h1; cases h2
  | free h1 h2 h3 => rw [h0] at h1; cases h1; cases h2

/-- the machine reads the pattern's texts -/
theorem mBuild_spec {t : PT} (ok : okRep t) (u : List UInt8) : (∃ k, GoN (mBuild t).1 k (mBuild t).2 u 0) ↔ M t u := by
  obtain ⟨h1, h2⟩ := lay_spec t ok [⟨[], 0, []⟩] 0 (mBuild t).1 (fun _ _ _ => rfl) 0 (by simp)
  constructor
  · rintro ⟨k, hg⟩
    obtain ⟨u1, u2, k', rfl, hm, _, hg'⟩ := h1 k u hg
    rw [GoN.zero (mBuild_zero t) hg', List.append_nil]
    exact hm
  · intro hm
    obtain ⟨k', hg⟩ := h2 u [] 0 hm (GoN.refl 0)
    rw [List.append_nil] at hg
    exact ⟨k', hg⟩

/-- what can be come to without a sign -/
def Rch (F : List MSt) (a b : Nat) : Prop := ∃ k, GoN F k a [] b
theorem Rch.refl (F : List MSt) (a : Nat) : Rch F a a := ⟨0, GoN.refl a⟩
theorem Rch.step {F : List MSt} {a x b : Nat} {p : MSt} (h : F[a]? = some p) (hx : x ∈ p.free) (hr : Rch F x b) : Rch F a b := by
  obtain ⟨k, hk⟩ := hr
  exact ⟨_, GoN.free h hx hk⟩

theorem GoN.first {F : List MSt} {k a : Nat} {v : List UInt8} {e : Nat} (h : GoN F k a v e) : ∀ c u, v = c :: u → ∃ s p, Rch F a s ∧ F[s]? = some p ∧ c ∈ p.set ∧ ∃ k', GoN F k' p.nx u e := by
  induction h with
  | refl a => intro c u h; cases h
  | sign h1 h2 h3 ih => intro c u h; cases h; exact ⟨_, _, Rch.refl F _, h1, h2, _, h3⟩
  | free h1 h2 h3 ih =>
    intro c u h
    obtain ⟨s, p, hr, r⟩ := ih c u h
    exact ⟨s, p, Rch.step h1 h2 hr, r⟩

theorem GoN.join {F : List MSt} {k a : Nat} {v : List UInt8} {s : Nat} (h : GoN F k a v s) : ∀ {k' u e}, GoN F k' s u e → ∃ k'', GoN F k'' a (v ++ u) e := by
  induction h with
  | refl a => intro k' u e h; exact ⟨k', h⟩
  | sign h1 h2 h3 ih => intro k' u e h; obtain ⟨k'', hh⟩ := ih h; exact ⟨_, GoN.sign h1 h2 hh⟩
  | free h1 h2 h3 ih => intro k' u e h; obtain ⟨k'', hh⟩ := ih h; exact ⟨_, GoN.free h1 h2 hh⟩

theorem Rch.trans {F : List MSt} {a b c : Nat} (h : Rch F a b) (h' : Rch F b c) : Rch F a c := by
  obtain ⟨k, h⟩ := h
  obtain ⟨k', h'⟩ := h'
  obtain ⟨k'', hh⟩ := h.join h'
  exact ⟨k'', hh⟩

/-- some state of a list comes to e, reading u -/
def Some_ (F : List MSt) (N : List Nat) (u : List UInt8) (e : Nat) : Prop := ∃ s ∈ N, ∃ k, GoN F k s u e

/-- one more byte: the states behind it -/
def Stepped (F : List MSt) (N : List Nat) (c : UInt8) (N' : List Nat) : Prop := ∀ x, x ∈ N' ↔ ∃ a ∈ N, ∃ s p, Rch F a s ∧ F[s]? = some p ∧ c ∈ p.set ∧ x = p.nx

theorem step_some {F : List MSt} {N N' : List Nat} {c : UInt8} (h : Stepped F N c N') (u : List UInt8) (e : Nat) : Some_ F N (c :: u) e ↔ Some_ F N' u e := by
  constructor
  · rintro ⟨a, ha, k, hg⟩
    obtain ⟨s, p, hr, hp, hc, k', hg'⟩ := hg.first c u rfl
    exact ⟨p.nx, (h _).2 ⟨a, ha, s, p, hr, hp, hc, rfl⟩, k', hg'⟩
  · rintro ⟨x, hx, k, hg⟩
    obtain ⟨a, ha, s, p, ⟨k1, hr⟩, hp, hc, rfl⟩ := (h x).1 hx
    obtain ⟨k2, hg2⟩ := hr.join (GoN.sign hp hc hg)
    exact ⟨a, ha, k2, hg2⟩

end Go.Proofs.Ytlljggefbngkeaa
