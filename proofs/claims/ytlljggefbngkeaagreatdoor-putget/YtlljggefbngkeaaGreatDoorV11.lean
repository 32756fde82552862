import Derived.Test.YtlljggefbngkeaaGreatDoorV07
import Derived.Test.YtlljggefbngkeaaGreatDoorV06
import Derived.Test.YtlljggefbngkeaaGreatDoorV01
namespace Go.Proofs.YtlljggefbngkeaaGreatDoor
open Go.RowKit

mutual
/-- the states that read a pattern and then come to a state: as the program lays them -/
def mLay : PT → List MSt → Nat → List MSt × Nat
  | .chr l, S, to => (S ++ [⟨l, to, []⟩], S.length)
  | .seq l, S, to => mSeq l S to
  | .alt l, S, to => ((mAlt l S to).1 ++ [⟨[], 0, (mAlt l S to).2⟩], (mAlt l S to).1.length)
  | .rep c t, S, to =>
    if c = 42 ∨ c = 43 then ((mLay t (S ++ [⟨[], 0, []⟩]) S.length).1.set S.length ⟨[], 0, [to, (mLay t (S ++ [⟨[], 0, []⟩]) S.length).2]⟩, if c = 43 then (mLay t (S ++ [⟨[], 0, []⟩]) S.length).2 else S.length)
    else ((mLay t S to).1 ++ [⟨[], 0, [to, (mLay t S to).2]⟩], (mLay t S to).1.length)
def mSeq : List PT → List MSt → Nat → List MSt × Nat
  | [], S, to => (S, to)
  | t :: l, S, to => mLay t (mSeq l S to).1 (mSeq l S to).2
def mAlt : List PT → List MSt → Nat → List MSt × List Nat
  | [], S, _ => (S, [])
  | t :: l, S, to => ((mAlt l (mLay t S to).1 to).1, (mLay t S to).2 :: (mAlt l (mLay t S to).1 to).2)
end

/-- more states, the elder ones as they were -/
def Ext (S S' : List MSt) : Prop := S.length ≤ S'.length ∧ ∀ k, k < S.length → S'[k]? = S[k]?
theorem Ext.refl (S : List MSt) : Ext S S := ⟨Nat.le_refl _, fun _ _ => rfl⟩
theorem Ext.trans {A B C : List MSt} (h : Ext A B) (k : Ext B C) : Ext A C := ⟨Nat.le_trans h.1 k.1, fun i hi => (k.2 i (Nat.lt_of_lt_of_le hi h.1)).trans (h.2 i hi)⟩
theorem Ext.app (S N : List MSt) : Ext S (S ++ N) := ⟨by simp, fun k hk => List.getElem?_append_left hk⟩

mutual
theorem mLay_ext : ∀ (t : PT) (S : List MSt) (to : Nat), Ext S (mLay t S to).1
  | .chr l, S, to => by rw [mLay]; exact Ext.app _ _
  | .seq l, S, to => by rw [mLay]; exact mSeq_ext l S to
  | .alt l, S, to => by rw [mLay]; exact (mAlt_ext l S to).trans (Ext.app _ _)
  | .rep c t, S, to => by
    rw [mLay]
    split
    · have h := (Ext.app S [⟨[], 0, []⟩]).trans (mLay_ext t (S ++ [⟨[], 0, []⟩]) S.length)
      refine ⟨by simpa using h.1, fun k hk => ?_⟩
      show (List.set _ _ _)[k]? = _
      rw [List.getElem?_set_ne (by omega)]
      exact h.2 k hk
    · exact (mLay_ext t S to).trans (Ext.app _ _)
theorem mSeq_ext : ∀ (l : List PT) (S : List MSt) (to : Nat), Ext S (mSeq l S to).1
  | [], S, to => by rw [mSeq]; exact Ext.refl _
  | t :: l, S, to => by rw [mSeq]; exact (mSeq_ext l S to).trans (mLay_ext t _ _)
theorem mAlt_ext : ∀ (l : List PT) (S : List MSt) (to : Nat), Ext S (mAlt l S to).1
  | [], S, to => by rw [mAlt]; exact Ext.refl _
  | t :: l, S, to => by rw [mAlt]; exact (mLay_ext t S to).trans (mAlt_ext l _ to)
end

/-- from a state to a state, in so many steps, reading a text -/
inductive GoN (F : List MSt) : Nat → Nat → List UInt8 → Nat → Prop
  | refl (a : Nat) : GoN F 0 a [] a
  | sign {k a : Nat} {p : MSt} {c : UInt8} {u : List UInt8} {e : Nat} : F[a]? = some p → c ∈ p.set → GoN F k p.nx u e → GoN F (k + 1) a (c :: u) e
  | free {k a : Nat} {p : MSt} {x : Nat} {u : List UInt8} {e : Nat} : F[a]? = some p → x ∈ p.free → GoN F k x u e → GoN F (k + 1) a u e

/-- from f to what lies outside: a text of T, and on from `to` -/
def Lays (T : List UInt8 → Prop) (F : List MSt) (lo hi f to : Nat) : Prop :=
  ∀ e, ¬ (lo ≤ e ∧ e < hi) →
    (∀ k u, GoN F k f u e → ∃ u1 u2 k', u = u1 ++ u2 ∧ T u1 ∧ k' ≤ k ∧ GoN F k' to u2 e) ∧ (∀ u1 u2 k, T u1 → GoN F k to u2 e → ∃ k', GoN F k' f (u1 ++ u2) e)
def LaysA (l : List PT) (F : List MSt) (lo hi : Nat) (fs : List Nat) (to : Nat) : Prop :=
  ∀ e, ¬ (lo ≤ e ∧ e < hi) →
    (∀ x ∈ fs, ∀ k u, GoN F k x u e → ∃ t ∈ l, ∃ u1 u2 k', u = u1 ++ u2 ∧ M t u1 ∧ k' ≤ k ∧ GoN F k' to u2 e) ∧ (∀ t ∈ l, ∀ u1 u2 k, M t u1 → GoN F k to u2 e → ∃ x ∈ fs, ∃ k', GoN F k' x (u1 ++ u2) e)

/-- a step from a state that has no signs -/
theorem GoN.only {F : List MSt} {k a : Nat} {p : MSt} {u : List UInt8} {e : Nat} (h : GoN F k a u e) (hp : F[a]? = some p) (hs : p.set = []) (hne : e ≠ a) : ∃ x ∈ p.free, ∃ k', k = k' + 1 ∧ GoN F k' x u e := by
  cases h with
  | refl => exact absurd rfl hne
  | sign h1 h2 h3 => rw [hp] at h1; cases h1; rw [hs] at h2; cases h2
  | free h1 h2 h3 => rw [hp] at h1; cases h1; exact ⟨_, h2, _, rfl, h3⟩

theorem star_back {F : List MSt} {a to first e : Nat} {t : PT} (hl : F[a]? = some ⟨[], 0, [to, first]⟩) (i2 : ∀ u1 u2 k, M t u1 → GoN F k a u2 e → ∃ k', GoN F k' first (u1 ++ u2) e) {u2 : List UInt8} {k : Nat} (hg : GoN F k to u2 e) {u1 : List UInt8} (h : MS t u1) : ∃ k', GoN F k' a (u1 ++ u2) e := by
  match u1, h with
  | _, .nil => exact ⟨_, GoN.free hl (by simp) hg⟩
  | _, .cons (u := v1) (v := v2) h1 h2 =>
    obtain ⟨k1, hg1⟩ := star_back hl i2 hg h2
    obtain ⟨k2, hg2⟩ := i2 v1 (v2 ++ u2) k1 h1 hg1
    exact ⟨_, GoN.free hl (x := first) (by simp) (by rw [List.append_assoc]; exact hg2)⟩
termination_by structural h

def Agree (F S S' : List MSt) : Prop := ∀ k, S.length ≤ k → k < S'.length → F[k]? = S'[k]?
theorem Agree.left {F S A B : List MSt} (h : Agree F S B) (hx : Ext A B) : Agree F S A := fun k h1 h2 => (h k h1 (Nat.lt_of_lt_of_le h2 hx.1)).trans (hx.2 k h2)
theorem Agree.right {F S A B : List MSt} (h : Agree F S B) (hx : S.length ≤ A.length) : Agree F A B := fun k h1 h2 => h k (Nat.le_trans hx h1) h2
theorem Agree.last {F S A : List MSt} {p : MSt} (h : Agree F S (A ++ [p])) (hx : S.length ≤ A.length) : F[A.length]? = some p := by
  rw [h A.length hx (by simp)]; simp

mutual
theorem lay_spec : ∀ (t : PT) (_ : okRep t) (S : List MSt) (to : Nat) (F : List MSt), Agree F S (mLay t S to).1 → Lays (M t) F S.length (mLay t S to).1.length (mLay t S to).2 to
  | .chr l, _, S, to, F, h => by
    rw [mLay] at *
    have hl := Agree.last h (Nat.le_refl _)
    intro e he
    have hne : e ≠ S.length := fun h => he ⟨by omega, by simp; omega⟩
    refine ⟨fun k u hg => ?_, fun u1 u2 k hm hg => ?_⟩
    · cases hg with
      | refl => exact absurd rfl hne
      | sign h1 h2 h3 => rw [hl] at h1; cases h1; exact ⟨[_], _, _, rfl, M.chr h2, Nat.le_succ _, h3⟩
      | free h1 h2 h3 => rw [hl] at h1; cases h1; cases h2
    · cases hm with
      | chr hc => exact ⟨_, GoN.sign hl hc hg⟩
  | .seq l, ok, S, to, F, h => by
    rw [okRep] at ok
    rw [mLay] at *
    intro e he
    obtain ⟨h1, h2⟩ := seq_spec l ok S to F h e he
    refine ⟨fun k u hg => ?_, fun u1 u2 k hm hg => ?_⟩
    · obtain ⟨u1, u2, k', a, b, c, d⟩ := h1 k u hg
      exact ⟨u1, u2, k', a, M.seq b, c, d⟩
    · cases hm with
      | seq hm => exact h2 u1 u2 k hm hg
  | .alt l, ok, S, to, F, h => by
    rw [okRep] at ok
    rw [mLay] at *
    have hx := mAlt_ext l S to
    have hl := Agree.last h hx.1
    intro e he
    have hne : e ≠ (mAlt l S to).1.length := fun h => he ⟨by have := hx.1; omega, by simp; omega⟩
    obtain ⟨h1, h2⟩ := alt_spec l ok S to F (Agree.left h (Ext.app _ _)) e (fun hh => he ⟨hh.1, by simp; omega⟩)
    refine ⟨fun k u hg => ?_, fun u1 u2 k hm hg => ?_⟩
    · obtain ⟨x, hxm, k', rfl, hg'⟩ := hg.only hl rfl hne
      obtain ⟨t, ht, u1, u2, k2, a, b, c, d⟩ := h1 x hxm k' u hg'
      exact ⟨u1, u2, k2, a, M.alt ht b, by omega, d⟩
    · cases hm with
      | alt ht hm =>
        obtain ⟨x, hxm, k', hg'⟩ := h2 _ ht u1 u2 k hm hg
        exact ⟨_, GoN.free hl hxm hg'⟩
  | .rep c t, ok, S, to, F, h => by
    rw [okRep] at ok
    rw [mLay] at *
    by_cases hc : c = 42 ∨ c = 43
    · rw [if_pos hc] at *
      have hx := mLay_ext t (S ++ [⟨[], 0, []⟩]) S.length
      have hlen : (S ++ [(⟨[], 0, []⟩ : MSt)]).length = S.length + 1 := by simp
      have hl : F[S.length]? = some ⟨[], 0, [to, (mLay t (S ++ [⟨[], 0, []⟩]) S.length).2]⟩ := by
        rw [h S.length (Nat.le_refl _) (by simp; have := hx.1; omega)]
        show (List.set _ _ _)[_]? = _
        rw [List.getElem?_set_self (by have := hx.1; omega)]
      have hA : Agree F (S ++ [⟨[], 0, []⟩]) (mLay t (S ++ [⟨[], 0, []⟩]) S.length).1 := fun k h1 h2 => by
        rw [h k (by omega) (by simpa using h2)]
        show (List.set _ _ _)[_]? = _
        rw [List.getElem?_set_ne (by omega)]
      have ih := lay_spec t ok.2 _ _ F hA
      generalize (mLay t (S ++ [⟨[], 0, []⟩]) S.length).2 = first at *
      intro e he
      have he' : ¬ (S.length ≤ e ∧ e < (mLay t (S ++ [⟨[], 0, []⟩]) S.length).1.length) := fun hh => he (by simpa using hh)
      obtain ⟨i1, i2⟩ := ih e (fun hh => he' ⟨by omega, hh.2⟩)
      have hne : e ≠ S.length := fun h => he' ⟨by omega, by have := hx.1; omega⟩
      have star1 : ∀ n k, k ≤ n → ∀ u, GoN F k S.length u e → ∃ u1 u2 k', u = u1 ++ u2 ∧ MS t u1 ∧ k' ≤ k ∧ GoN F k' to u2 e := by
        intro n
        induction n with
        | zero => 
          intro k hk u hg
          obtain ⟨x, hxm, k', rfl, hg'⟩ := hg.only hl rfl hne
          omega
        | succ n ihn =>
          intro k hk u hg
          obtain ⟨x, hxm, k', rfl, hg'⟩ := hg.only hl rfl hne
          simp at hxm
          rcases hxm with rfl | rfl
          · exact ⟨[], u, k', rfl, MS.nil, by omega, hg'⟩
          · obtain ⟨u1, u2, k2, rfl, b1, c1, d1⟩ := i1 k' u hg'
            obtain ⟨u3, u4, k3, rfl, b2, c2, d2⟩ := ihn k2 (by omega) u2 d1
            exact ⟨u1 ++ u3, u4, k3, by simp, MS.cons b1 b2, by omega, d2⟩
      rcases hc with rfl | rfl
      · rw [if_neg (by decide)]
        refine ⟨fun k u hg => ?_, fun u1 u2 k hm hg => ?_⟩
        · obtain ⟨u1, u2, k', a, b, c, d⟩ := star1 k k (Nat.le_refl _) u hg
          exact ⟨u1, u2, k', a, M.star b, c, d⟩
        · cases hm with
          | star hm => exact star_back hl i2 hg hm
      · rw [if_pos rfl]
        refine ⟨fun k u hg => ?_, fun u1 u2 k hm hg => ?_⟩
        · obtain ⟨u1, u2, k2, rfl, b1, c1, d1⟩ := i1 k u hg
          obtain ⟨u3, u4, k3, rfl, b2, c2, d2⟩ := star1 k2 k2 (Nat.le_refl _) u2 d1
          exact ⟨u1 ++ u3, u4, k3, by simp, M.plus b1 b2, by omega, d2⟩
        · cases hm with
          | plus m1 m2 =>
            obtain ⟨k1, hg1⟩ := star_back hl i2 hg m2
            obtain ⟨k2, hg2⟩ := i2 _ _ k1 m1 hg1
            exact ⟨k2, by rw [List.append_assoc]; exact hg2⟩
    · rw [if_neg hc] at *
      have hc63 : c = 63 := by rcases ok.1 with h | h | h <;> simp_all
      subst hc63
      have hx := mLay_ext t S to
      have hl := Agree.last h hx.1
      intro e he
      have hne : e ≠ (mLay t S to).1.length := fun h => he ⟨by have := hx.1; omega, by simp; omega⟩
      obtain ⟨h1, h2⟩ := lay_spec t ok.2 S to F (Agree.left h (Ext.app _ _)) e (fun hh => he ⟨hh.1, by simp; omega⟩)
      refine ⟨fun k u hg => ?_, fun u1 u2 k hm hg => ?_⟩
      · obtain ⟨x, hxm, k', rfl, hg'⟩ := hg.only hl rfl hne
        simp at hxm
        rcases hxm with rfl | rfl
        · exact ⟨[], u, k', rfl, M.optN, by omega, hg'⟩
        · obtain ⟨u1, u2, k2, a, b, c, d⟩ := h1 k' u hg'
          exact ⟨u1, u2, k2, a, M.optY b, by omega, d⟩
      · cases hm with
        | optN => exact ⟨_, GoN.free hl (x := to) (by simp) hg⟩
        | optY hm =>
          obtain ⟨k', hg'⟩ := h2 u1 u2 k hm hg
          exact ⟨_, GoN.free hl (x := (mLay t S to).2) (by simp) hg'⟩
theorem seq_spec : ∀ (l : List PT) (_ : okRepL l) (S : List MSt) (to : Nat) (F : List MSt), Agree F S (mSeq l S to).1 → Lays (ML l) F S.length (mSeq l S to).1.length (mSeq l S to).2 to
  | [], _, S, to, F, h => by
    rw [mSeq] at *
    intro e he
    refine ⟨fun k u hg => ⟨[], u, k, rfl, ML.nil, Nat.le_refl _, hg⟩, fun u1 u2 k hm hg => ?_⟩
    cases hm
    exact ⟨k, hg⟩
  | t :: l, ok, S, to, F, h => by
    rw [okRepL] at ok
    rw [mSeq] at *
    have hx := mSeq_ext l S to
    have hy := mLay_ext t (mSeq l S to).1 (mSeq l S to).2
    intro e he
    obtain ⟨h1, h2⟩ := lay_spec t ok.1 _ _ F (Agree.right h hx.1) e (fun hh => he ⟨Nat.le_trans hx.1 hh.1, hh.2⟩)
    obtain ⟨h3, h4⟩ := seq_spec l ok.2 S to F (Agree.left h hy) e (fun hh => he ⟨hh.1, Nat.lt_of_lt_of_le hh.2 hy.1⟩)
    refine ⟨fun k u hg => ?_, fun u1 u2 k hm hg => ?_⟩
    · obtain ⟨u1, u2, k2, rfl, b1, c1, d1⟩ := h1 k u hg
      obtain ⟨u3, u4, k3, rfl, b2, c2, d2⟩ := h3 k2 u2 d1
      exact ⟨u1 ++ u3, u4, k3, by simp, ML.cons b1 b2, by omega, d2⟩
    · cases hm with
      | cons m1 m2 =>
        obtain ⟨k3, hg3⟩ := h4 _ u2 k m2 hg
        obtain ⟨k4, hg4⟩ := h2 _ _ k3 m1 hg3
        exact ⟨k4, by rw [List.append_assoc]; exact hg4⟩
theorem alt_spec : ∀ (l : List PT) (_ : okRepL l) (S : List MSt) (to : Nat) (F : List MSt), Agree F S (mAlt l S to).1 → LaysA l F S.length (mAlt l S to).1.length (mAlt l S to).2 to
  | [], _, S, to, F, h => by
    rw [mAlt] at *
    intro e he
    exact ⟨fun x hx => (by cases hx), fun t ht => (by cases ht)⟩
  | t :: l, ok, S, to, F, h => by
    rw [okRepL] at ok
    rw [mAlt] at *
    have hx := mLay_ext t S to
    have hy := mAlt_ext l (mLay t S to).1 to
    intro e he
    obtain ⟨h1, h2⟩ := lay_spec t ok.1 S to F (Agree.left h hy) e (fun hh => he ⟨hh.1, Nat.lt_of_lt_of_le hh.2 hy.1⟩)
    obtain ⟨h3, h4⟩ := alt_spec l ok.2 _ to F (Agree.right h hx.1) e (fun hh => he ⟨Nat.le_trans hx.1 hh.1, hh.2⟩)
    refine ⟨fun x hxm k u hg => ?_, fun t' ht u1 u2 k hm hg => ?_⟩
    · rcases List.mem_cons.1 hxm with rfl | hxm
      · obtain ⟨u1, u2, k2, a, b, c, d⟩ := h1 k u hg
        exact ⟨t, List.mem_cons_self, u1, u2, k2, a, b, c, d⟩
      · obtain ⟨t', ht, r⟩ := h3 x hxm k u hg
        exact ⟨t', List.mem_cons_of_mem _ ht, r⟩
    · rcases List.mem_cons.1 ht with rfl | ht
      · obtain ⟨k', hg'⟩ := h2 u1 u2 k hm hg
        exact ⟨_, List.mem_cons_self, k', hg'⟩
      · obtain ⟨x, hxm, r⟩ := h4 t' ht u1 u2 k hm hg
        exact ⟨x, List.mem_cons_of_mem _ hxm, r⟩
end

end Go.Proofs.YtlljggefbngkeaaGreatDoor

namespace Go.Proofs.YtlljggefbngkeaaGreatDoor
open Go.RowKit

/-- the machine of a pattern: its states, and its start; its end is state 0 -/
def mBuild (t : PT) : List MSt × Nat := mLay t [⟨[], 0, []⟩] 0

theorem mBuild_zero (t : PT) : (mBuild t).1[0]? = some ⟨[], 0, []⟩ := by
  have h := mLay_ext t [⟨[], 0, []⟩] 0
  exact (h.2 0 (by simp)).trans rfl

theorem GoN.zero {F : List MSt} (h0 : F[0]? = some ⟨[], 0, []⟩) {k : Nat} {u : List UInt8} {e : Nat} (h : GoN F k 0 u e) : u = [] := by
  cases h with
  | refl => rfl
  | sign h1 h2 h3 => rw [h0] at h1; cases h1; cases h2
  | free h1 h2 h3 => rw [h0] at h1; cases h1; cases h2

/-- the machine reads the pattern's texts -/
theorem mBuild_spec {t : PT} (ok : okRep t) (u : List UInt8) : (∃ k, GoN (mBuild t).1 k (mBuild t).2 u 0) ↔ M t u := by
  obtain ⟨h1, h2⟩ := lay_spec t ok [⟨[], 0, []⟩] 0 (mBuild t).1 (fun _ _ _ => rfl) 0 (by simp)
  constructor
  · rintro ⟨k, hg⟩
    obtain ⟨u1, u2, k', rfl, hm, _, hg'⟩ := h1 k u hg
    rw [GoN.zero (mBuild_zero t) hg', List.append_nil]
    exact hm
  · intro hm
    obtain ⟨k', hg⟩ := h2 u [] 0 hm (GoN.refl 0)
    rw [List.append_nil] at hg
    exact ⟨k', hg⟩

/-- what can be come to without a sign -/
def Rch (F : List MSt) (a b : Nat) : Prop := ∃ k, GoN F k a [] b
theorem Rch.refl (F : List MSt) (a : Nat) : Rch F a a := ⟨0, GoN.refl a⟩
theorem Rch.step {F : List MSt} {a x b : Nat} {p : MSt} (h : F[a]? = some p) (hx : x ∈ p.free) (hr : Rch F x b) : Rch F a b := by
  obtain ⟨k, hk⟩ := hr
  exact ⟨_, GoN.free h hx hk⟩

theorem GoN.first {F : List MSt} {k a : Nat} {v : List UInt8} {e : Nat} (h : GoN F k a v e) : ∀ c u, v = c :: u → ∃ s p, Rch F a s ∧ F[s]? = some p ∧ c ∈ p.set ∧ ∃ k', GoN F k' p.nx u e := by
  induction h with
  | refl a => intro c u h; cases h
  | sign h1 h2 h3 ih => intro c u h; cases h; exact ⟨_, _, Rch.refl F _, h1, h2, _, h3⟩
  | free h1 h2 h3 ih =>
    intro c u h
    obtain ⟨s, p, hr, r⟩ := ih c u h
    exact ⟨s, p, Rch.step h1 h2 hr, r⟩

theorem GoN.join {F : List MSt} {k a : Nat} {v : List UInt8} {s : Nat} (h : GoN F k a v s) : ∀ {k' u e}, GoN F k' s u e → ∃ k'', GoN F k'' a (v ++ u) e := by
  induction h with
  | refl a => intro k' u e h; exact ⟨k', h⟩
  | sign h1 h2 h3 ih => intro k' u e h; obtain ⟨k'', hh⟩ := ih h; exact ⟨_, GoN.sign h1 h2 hh⟩
  | free h1 h2 h3 ih => intro k' u e h; obtain ⟨k'', hh⟩ := ih h; exact ⟨_, GoN.free h1 h2 hh⟩

theorem Rch.trans {F : List MSt} {a b c : Nat} (h : Rch F a b) (h' : Rch F b c) : Rch F a c := by
  obtain ⟨k, h⟩ := h
  obtain ⟨k', h'⟩ := h'
  obtain ⟨k'', hh⟩ := h.join h'
  exact ⟨k'', hh⟩

/-- some state of a list comes to e, reading u -/
def Some_ (F : List MSt) (N : List Nat) (u : List UInt8) (e : Nat) : Prop := ∃ s ∈ N, ∃ k, GoN F k s u e

/-- one more byte: the states behind it -/
def Stepped (F : List MSt) (N : List Nat) (c : UInt8) (N' : List Nat) : Prop := ∀ x, x ∈ N' ↔ ∃ a ∈ N, ∃ s p, Rch F a s ∧ F[s]? = some p ∧ c ∈ p.set ∧ x = p.nx

theorem step_some {F : List MSt} {N N' : List Nat} {c : UInt8} (h : Stepped F N c N') (u : List UInt8) (e : Nat) : Some_ F N (c :: u) e ↔ Some_ F N' u e := by
  constructor
  · rintro ⟨a, ha, k, hg⟩
    obtain ⟨s, p, hr, hp, hc, k', hg'⟩ := hg.first c u rfl
    exact ⟨p.nx, (h _).2 ⟨a, ha, s, p, hr, hp, hc, rfl⟩, k', hg'⟩
  · rintro ⟨x, hx, k, hg⟩
    obtain ⟨a, ha, s, p, ⟨k1, hr⟩, hp, hc, rfl⟩ := (h x).1 hx
    obtain ⟨k2, hg2⟩ := hr.join (GoN.sign hp hc hg)
    exact ⟨a, ha, k2, hg2⟩

end Go.Proofs.YtlljggefbngkeaaGreatDoor

namespace Go.Proofs.YtlljggefbngkeaaGreatDoor
open Go.RowKit

/-! Two readers of one text (package pattern's pairs.go), as a matter of states alone: what the search looks for is a text that can be parted twice. -/

/-- how far the two readers have come: 0 neither has parted the text, 1 the first one has, just here, 2 and signs have been read since, 3 both have -/
def nextPh (ph : Nat) : Nat := if ph = 1 then 2 else ph

/-- from a pair to a pair, reading u -/
inductive PW (F : List MSt) (gate beh : Nat) : Nat → Nat → Nat → List UInt8 → Nat → Nat → Nat → Prop
  | refl (ph a b : Nat) : PW F gate beh ph a b [] ph a b
  | free1 {ph a b x : Nat} {p : MSt} {u : List UInt8} {qh c d : Nat} : F[a]? = some p → x ∈ p.free → PW F gate beh ph x b u qh c d → PW F gate beh ph a b u qh c d
  | free2 {ph a b x : Nat} {p : MSt} {u : List UInt8} {qh c d : Nat} : F[b]? = some p → x ∈ p.free → PW F gate beh ph a x u qh c d → PW F gate beh ph a b u qh c d
  | part {b : Nat} {u : List UInt8} {qh c d : Nat} : PW F gate beh 1 beh b u qh c d → PW F gate beh 0 gate b u qh c d
  | join {a : Nat} {u : List UInt8} {qh c d : Nat} : PW F gate beh 3 a beh u qh c d → PW F gate beh 2 a gate u qh c d
  | sign {ph a b : Nat} {p q : MSt} {s : UInt8} {u : List UInt8} {qh c d : Nat} : F[a]? = some p → F[b]? = some q → s ∈ p.set → s ∈ q.set → PW F gate beh (nextPh ph) p.nx q.nx u qh c d → PW F gate beh ph a b (s :: u) qh c d

/-- a reader's way, whatever its length -/
def Go1 (F : List MSt) (a : Nat) (u : List UInt8) (e : Nat) : Prop := ∃ k, GoN F k a u e

section
variable {F : List MSt} {gate beh : Nat}

theorem Go1.refl (a : Nat) : Go1 F a [] a := ⟨0, GoN.refl a⟩
theorem Go1.sign {a : Nat} {p : MSt} {c : UInt8} {u : List UInt8} {e : Nat} (h : F[a]? = some p) (hc : c ∈ p.set) (hr : Go1 F p.nx u e) : Go1 F a (c :: u) e := by
  obtain ⟨k, hk⟩ := hr
  exact ⟨_, GoN.sign h hc hk⟩
theorem Go1.free {a : Nat} {p : MSt} {x : Nat} {u : List UInt8} {e : Nat} (h : F[a]? = some p) (hx : x ∈ p.free) (hr : Go1 F x u e) : Go1 F a u e := by
  obtain ⟨k, hk⟩ := hr
  exact ⟨_, GoN.free h hx hk⟩

theorem GoN.split {k a : Nat} {w : List UInt8} {e : Nat} (h : GoN F k a w e) : ∀ u v, w = u ++ v → ∃ m, Go1 F a u m ∧ Go1 F m v e := by
  induction h with
  | refl a =>
    intro u v h
    have h1 : u = [] ∧ v = [] := by simpa using h.symm
    rw [h1.1, h1.2]
    exact ⟨a, Go1.refl a, Go1.refl a⟩
  | @sign k a p c u0 e h1 h2 h3 ih =>
    intro u v h
    cases u with
    | nil =>
      simp at h
      subst h
      exact ⟨a, Go1.refl a, Go1.sign h1 h2 ⟨_, h3⟩⟩
    | cons c' u =>
      simp at h
      obtain ⟨rfl, rfl⟩ := h
      obtain ⟨m, hm1, hm2⟩ := ih u v rfl
      exact ⟨m, Go1.sign h1 h2 hm1, hm2⟩
  | free h1 h2 h3 ih =>
    intro u v h
    obtain ⟨m, hm1, hm2⟩ := ih u v h
    exact ⟨m, Go1.free h1 h2 hm1, hm2⟩

/-- what a way of the pair says of the two readers, by the phase that it begins in -/
def Says (F : List MSt) (gate beh e : Nat) (ph a b : Nat) (u : List UInt8) : Prop :=
  (ph = 3 → Go1 F a u e ∧ Go1 F b u e) ∧
  (ph = 2 → ∃ u1 u2, u = u1 ++ u2 ∧ Go1 F a u e ∧ Go1 F b u1 gate ∧ Go1 F beh u2 e) ∧
  (ph = 1 → ∃ u1 u2, u = u1 ++ u2 ∧ u1 ≠ [] ∧ Go1 F a u e ∧ Go1 F b u1 gate ∧ Go1 F beh u2 e) ∧
  (ph = 0 → ∃ w u1 u2, u = w ++ (u1 ++ u2) ∧ u1 ≠ [] ∧ Go1 F a w gate ∧ Go1 F beh (u1 ++ u2) e ∧ Go1 F b (w ++ u1) gate ∧ Go1 F beh u2 e)

theorem pw_says {e : Nat} {ph a b : Nat} {u : List UInt8} {qh c d : Nat} (h : PW F gate beh ph a b u qh c d) : qh = 3 → c = e → d = e → Says F gate beh e ph a b u := by
  induction h with
  | refl ph a b =>
    rintro rfl rfl rfl
    exact ⟨fun _ => ⟨Go1.refl _, Go1.refl _⟩, fun h => (by omega), fun h => (by omega), fun h => (by omega)⟩
  | free1 h1 h2 h3 ih =>
    intro e1 e2 e3
    obtain ⟨i3, i2, i1, i0⟩ := ih e1 e2 e3
    refine ⟨fun h => ?_, fun h => ?_, fun h => ?_, fun h => ?_⟩
    · exact ⟨Go1.free h1 h2 (i3 h).1, (i3 h).2⟩
    · obtain ⟨u1, u2, q1, q2, q3, q4⟩ := i2 h
      exact ⟨u1, u2, q1, Go1.free h1 h2 q2, q3, q4⟩
    · obtain ⟨u1, u2, q1, q0, q2, q3, q4⟩ := i1 h
      exact ⟨u1, u2, q1, q0, Go1.free h1 h2 q2, q3, q4⟩
    · obtain ⟨w, u1, u2, q1, q0, q2, q3, q4, q5⟩ := i0 h
      exact ⟨w, u1, u2, q1, q0, Go1.free h1 h2 q2, q3, q4, q5⟩
  | free2 h1 h2 h3 ih =>
    intro e1 e2 e3
    obtain ⟨i3, i2, i1, i0⟩ := ih e1 e2 e3
    refine ⟨fun h => ?_, fun h => ?_, fun h => ?_, fun h => ?_⟩
    · exact ⟨(i3 h).1, Go1.free h1 h2 (i3 h).2⟩
    · obtain ⟨u1, u2, q1, q2, q3, q4⟩ := i2 h
      exact ⟨u1, u2, q1, q2, Go1.free h1 h2 q3, q4⟩
    · obtain ⟨u1, u2, q1, q0, q2, q3, q4⟩ := i1 h
      exact ⟨u1, u2, q1, q0, q2, Go1.free h1 h2 q3, q4⟩
    · obtain ⟨w, u1, u2, q1, q0, q2, q3, q4, q5⟩ := i0 h
      exact ⟨w, u1, u2, q1, q0, q2, q3, Go1.free h1 h2 q4, q5⟩
  | @part b u qh c d h1 ih =>
    intro e1 e2 e3
    obtain ⟨_, _, i1, _⟩ := ih e1 e2 e3
    refine ⟨fun h => (by omega), fun h => (by omega), fun h => (by omega), fun _ => ?_⟩
    obtain ⟨u1, u2, q1, q0, q2, q3, q4⟩ := i1 rfl
    exact ⟨[], u1, u2, by simpa using q1, q0, Go1.refl _, by rw [← q1]; exact q2, by simpa using q3, q4⟩
  | @join a u qh c d h1 ih =>
    intro e1 e2 e3
    obtain ⟨i3, _, _, _⟩ := ih e1 e2 e3
    refine ⟨fun h => (by omega), fun _ => ?_, fun h => (by omega), fun h => (by omega)⟩
    obtain ⟨q1, q2⟩ := i3 rfl
    exact ⟨[], u, by simp, q1, Go1.refl _, q2⟩
  | @sign ph a b p q s u qh c d h1 h2 h3 h4 h5 ih =>
    intro e1 e2 e3
    obtain ⟨i3, i2, i1, i0⟩ := ih e1 e2 e3
    unfold nextPh at i3 i2 i1 i0
    refine ⟨fun h => ?_, fun h => ?_, fun h => ?_, fun h => ?_⟩
    · subst h
      obtain ⟨q1, q2⟩ := i3 rfl
      exact ⟨Go1.sign h1 h3 q1, Go1.sign h2 h4 q2⟩
    · subst h
      obtain ⟨u1, u2, q1, q2, q3, q4⟩ := i2 rfl
      exact ⟨s :: u1, u2, by simp [q1], Go1.sign h1 h3 q2, Go1.sign h2 h4 q3, q4⟩
    · subst h
      obtain ⟨u1, u2, q1, q2, q3, q4⟩ := i2 rfl
      exact ⟨s :: u1, u2, by simp [q1], by simp, Go1.sign h1 h3 q2, Go1.sign h2 h4 q3, q4⟩
    · subst h
      obtain ⟨w, u1, u2, q1, q0, q2, q3, q4, q5⟩ := i0 rfl
      exact ⟨s :: w, u1, u2, by simp [q1], q0, Go1.sign h1 h3 q2, q3, by simpa using Go1.sign h2 h4 q4, q5⟩

/-- free moves of the first reader, and of the second -/
theorem PW.rch1 {k a x : Nat} {v : List UInt8} (hr : GoN F k a v x) : v = [] → ∀ {ph b : Nat} {u : List UInt8} {qh c d : Nat}, PW F gate beh ph x b u qh c d → PW F gate beh ph a b u qh c d := by
  induction hr with
  | refl a => intro _ _ _ _ _ _ _ h; exact h
  | sign h1 h2 h3 ih => intro e; cases e
  | free h1 h2 h3 ih => intro e _ _ _ _ _ _ h; exact PW.free1 h1 h2 (ih e h)
theorem PW.rch2 {k b x : Nat} {v : List UInt8} (hr : GoN F k b v x) : v = [] → ∀ {ph a : Nat} {u : List UInt8} {qh c d : Nat}, PW F gate beh ph a x u qh c d → PW F gate beh ph a b u qh c d := by
  induction hr with
  | refl a => intro _ _ _ _ _ _ _ h; exact h
  | sign h1 h2 h3 ih => intro e; cases e
  | free h1 h2 h3 ih => intro e _ _ _ _ _ _ h; exact PW.free2 h1 h2 (ih e h)

/-- both readers read u -/
theorem PW.both {ph : Nat} (hph : ph ≠ 1) : ∀ (u : List UInt8) {a b a' b' : Nat} {v : List UInt8} {qh c d : Nat}, Go1 F a u a' → Go1 F b u b' → PW F gate beh ph a' b' v qh c d → PW F gate beh ph a b (u ++ v) qh c d
  | [], a, b, a', b', v, qh, c, d, ⟨k, ha⟩, ⟨k', hb⟩, h => PW.rch1 ha rfl (PW.rch2 hb rfl h)
  | s :: u, a, b, a', b', v, qh, c, d, ⟨k, ha⟩, ⟨k', hb⟩, h => by
    obtain ⟨x, p, ⟨kx, hx⟩, hp, hsp, hx'⟩ := ha.first s u rfl
    obtain ⟨y, q, ⟨ky, hy⟩, hq, hsq, hy'⟩ := hb.first s u rfl
    refine PW.rch1 hx rfl (PW.rch2 hy rfl (PW.sign hp hq hsp hsq ?_))
    rw [show nextPh ph = ph by unfold nextPh; rw [if_neg hph]]
    exact PW.both hph u hx' hy' h

theorem PW.both1 (u : List UInt8) (hu : u ≠ []) {a b a' b' : Nat} {v : List UInt8} {qh c d : Nat} (ha : Go1 F a u a') (hb : Go1 F b u b') (h : PW F gate beh 2 a' b' v qh c d) : PW F gate beh 1 a b (u ++ v) qh c d := by
  cases u with
  | nil => exact absurd rfl hu
  | cons s u =>
    obtain ⟨k, ha⟩ := ha
    obtain ⟨k', hb⟩ := hb
    obtain ⟨x, p, ⟨kx, hx⟩, hp, hsp, hx'⟩ := ha.first s u rfl
    obtain ⟨y, q, ⟨ky, hy⟩, hq, hsq, hy'⟩ := hb.first s u rfl
    exact PW.rch1 hx rfl (PW.rch2 hy rfl (PW.sign hp hq hsp hsq (PW.both (by decide) u hx' hy' h)))

/-- a text that is parted twice is a way of the pair -/
theorem pw_of {e a : Nat} {w u1 u2 : List UInt8} (hu : u1 ≠ []) (h1 : Go1 F a w gate) (h2 : Go1 F beh (u1 ++ u2) e) (h3 : Go1 F a (w ++ u1) gate) (h4 : Go1 F beh u2 e) : PW F gate beh 0 a a (w ++ (u1 ++ u2)) 3 e e := by
  obtain ⟨k3, h3⟩ := h3
  obtain ⟨m, hm1, hm2⟩ := h3.split w u1 rfl
  obtain ⟨k2, h2⟩ := h2
  obtain ⟨m', hm3, hm4⟩ := h2.split u1 u2 rfl
  refine PW.both (by decide) w h1 hm1 (PW.part (PW.both1 u1 hu hm3 hm2 (PW.join ?_)))
  have := PW.both (F := F) (gate := gate) (beh := beh) (ph := 3) (by decide) u2 (v := []) hm4 h4 (PW.refl 3 e e)
  rwa [List.append_nil] at this

/-- a text that both read is a way of the pair -/
theorem pw_of3 {e a b : Nat} {u : List UInt8} (h1 : Go1 F a u e) (h2 : Go1 F b u e) : PW F gate beh 3 a b u 3 e e := by
  have := PW.both (F := F) (gate := gate) (beh := beh) (ph := 3) (by decide) u (v := []) h1 h2 (PW.refl 3 e e)
  rwa [List.append_nil] at this

end

/-- the machine of PartedTwice: its states, where a text of the pattern ahead ends, where the pattern behind begins, where both readers begin -/
def twM (ta tb : PT) : List MSt × Nat × Nat × Nat :=
  let b := mLay tb [⟨[], 0, []⟩] 0
  let a := mLay ta (b.1 ++ [⟨[], 0, []⟩]) b.1.length
  (a.1, b.1.length, b.2, a.2)

/-- a text that can be parted in two ways -/
def Twice (ta tb : PT) (s : List UInt8) : Prop := ∃ w u1 u2, s = w ++ (u1 ++ u2) ∧ u1 ≠ [] ∧ M ta w ∧ M tb (u1 ++ u2) ∧ M ta (w ++ u1) ∧ M tb u2

end Go.Proofs.YtlljggefbngkeaaGreatDoor

namespace Go.Proofs.YtlljggefbngkeaaGreatDoor
open Go.RowKit

theorem GoN.dead {F : List MSt} {a : Nat} (h0 : F[a]? = some ⟨[], 0, []⟩) {k : Nat} {u : List UInt8} {e : Nat} (h : GoN F k a u e) : u = [] := by
  cases h with
  | refl => rfl
  | sign h1 h2 h3 => rw [h0] at h1; cases h1; cases h2
  | free h1 h2 h3 => rw [h0] at h1; cases h1; cases h2

/-- what is laid to a state that leads nowhere reads the pattern's texts -/
theorem laid_dead {t : PT} (ok : okRep t) {S : List MSt} {to : Nat} {F : List MSt} (hA : Agree F S (mLay t S to).1) (h0 : F[to]? = some ⟨[], 0, []⟩) (ho : to < S.length) (u : List UInt8) : Go1 F (mLay t S to).2 u to ↔ M t u := by
  obtain ⟨h1, h2⟩ := lay_spec t ok S to F hA to (fun h => by omega)
  constructor
  · rintro ⟨k, hk⟩
    obtain ⟨u1, u2, k', rfl, hm, _, hg⟩ := h1 k u hk
    rw [GoN.dead h0 hg, List.append_nil]
    exact hm
  · intro hm
    obtain ⟨k, hk⟩ := h2 u [] 0 hm (GoN.refl to)
    rw [List.append_nil] at hk
    exact ⟨k, hk⟩

section
variable {ta tb : PT}

theorem tw_facts (oka : okRep ta) (okb : okRep tb) : (∀ u, Go1 (twM ta tb).1 (twM ta tb).2.2.1 u 0 ↔ M tb u) ∧ (∀ u, Go1 (twM ta tb).1 (twM ta tb).2.2.2 u (twM ta tb).2.1 ↔ M ta u) := by
  unfold twM
  simp only
  have x1 := mLay_ext tb [⟨[], 0, []⟩] 0
  have l1 : 1 ≤ (mLay tb [⟨[], 0, []⟩] 0).1.length := by have := x1.1; simpa using this
  have z1 : (mLay tb [⟨[], 0, []⟩] 0).1[0]? = some ⟨[], 0, []⟩ := (x1.2 0 (by simp)).trans rfl
  generalize hb : mLay tb [⟨[], 0, []⟩] 0 = b at *
  have x2 := mLay_ext ta (b.1 ++ [⟨[], 0, []⟩]) b.1.length
  have x3 : Ext b.1 (mLay ta (b.1 ++ [⟨[], 0, []⟩]) b.1.length).1 := (Ext.app b.1 [⟨[], 0, []⟩]).trans x2
  have zg : (mLay ta (b.1 ++ [⟨[], 0, []⟩]) b.1.length).1[b.1.length]? = some ⟨[], 0, []⟩ := (x2.2 b.1.length (by simp)).trans (by simp)
  have z0 : (mLay ta (b.1 ++ [⟨[], 0, []⟩]) b.1.length).1[0]? = some ⟨[], 0, []⟩ := (x3.2 0 (by omega)).trans z1
  constructor
  · intro u
    have := laid_dead (t := tb) okb (S := [⟨[], 0, []⟩]) (to := 0) (F := (mLay ta (b.1 ++ [⟨[], 0, []⟩]) b.1.length).1) (fun k _ h2 => by rw [hb] at h2 ⊢; exact x3.2 k h2) z0 (by simp) u
    rw [hb] at this
    exact this
  · intro u
    exact laid_dead (t := ta) oka (S := b.1 ++ [⟨[], 0, []⟩]) (to := b.1.length) (fun k _ _ => rfl) zg (by simp) u

/-- PartedTwice's search: a way from its start to its goal reads a text that can be parted twice, and each such text is so read -/
theorem tw_spec (oka : okRep ta) (okb : okRep tb) (s : List UInt8) : PW (twM ta tb).1 (twM ta tb).2.1 (twM ta tb).2.2.1 0 (twM ta tb).2.2.2 (twM ta tb).2.2.2 s 3 0 0 ↔ Twice ta tb s := by
  obtain ⟨hb, ha⟩ := tw_facts oka okb
  constructor
  · intro h
    obtain ⟨w, u1, u2, q1, q0, q2, q3, q4, q5⟩ := (pw_says h rfl rfl rfl).2.2.2 rfl
    exact ⟨w, u1, u2, q1, q0, (ha _).1 q2, (hb _).1 q3, (ha _).1 q4, (hb _).1 q5⟩
  · rintro ⟨w, u1, u2, rfl, q0, q2, q3, q4, q5⟩
    exact pw_of q0 ((ha _).2 q2) ((hb _).2 q3) ((ha _).2 q4) ((hb _).2 q5)

end

/-- the machine of Shared: its states, where the first and the second reader begin -/
def shM (tp tq : PT) : List MSt × Nat × Nat :=
  let p := mLay tp [⟨[], 0, []⟩] 0
  let q := mLay tq p.1 0
  (q.1, p.2, q.2)

theorem sh_spec {tp tq : PT} (okp : okRep tp) (okq : okRep tq) (gate beh : Nat) (s : List UInt8) : PW (shM tp tq).1 gate beh 3 (shM tp tq).2.1 (shM tp tq).2.2 s 3 0 0 ↔ M tp s ∧ M tq s := by
  unfold shM
  simp only
  have x1 := mLay_ext tp [⟨[], 0, []⟩] 0
  have l1 : 1 ≤ (mLay tp [⟨[], 0, []⟩] 0).1.length := by have := x1.1; simpa using this
  have z1 : (mLay tp [⟨[], 0, []⟩] 0).1[0]? = some ⟨[], 0, []⟩ := (x1.2 0 (by simp)).trans rfl
  generalize hp : mLay tp [⟨[], 0, []⟩] 0 = p at *
  have x2 := mLay_ext tq p.1 0
  have z0 : (mLay tq p.1 0).1[0]? = some ⟨[], 0, []⟩ := (x2.2 0 (by omega)).trans z1
  have hP : ∀ u, Go1 (mLay tq p.1 0).1 p.2 u 0 ↔ M tp u := fun u => by
    have := laid_dead (t := tp) okp (S := [⟨[], 0, []⟩]) (to := 0) (F := (mLay tq p.1 0).1) (fun k _ h2 => by rw [hp] at h2 ⊢; exact x2.2 k h2) z0 (by simp) u
    rw [hp] at this
    exact this
  have hQ : ∀ u, Go1 (mLay tq p.1 0).1 (mLay tq p.1 0).2 u 0 ↔ M tq u := fun u => laid_dead (t := tq) okq (S := p.1) (to := 0) (fun k _ _ => rfl) z0 (by omega) u
  constructor
  · intro h
    obtain ⟨q1, q2⟩ := (pw_says h rfl rfl rfl).1 rfl
    exact ⟨(hP _).1 q1, (hQ _).1 q2⟩
  · rintro ⟨q1, q2⟩
    exact pw_of3 ((hP _).2 q1) ((hQ _).2 q2)

/-- rows of texts of a piece, in two ways -/
def Rows2 (t : PT) (s : List UInt8) : Prop := ∃ l l' : List (List UInt8), l ≠ l' ∧ (∀ x, x ∈ l → M t x) ∧ (∀ x, x ∈ l' → M t x) ∧ l.flatten = s ∧ l'.flatten = s

end Go.Proofs.YtlljggefbngkeaaGreatDoor

namespace Go.Proofs.YtlljggefbngkeaaGreatDoor
open Go.RowKit

theorem MS.list {t : PT} {s : List UInt8} (h : MS t s) : ∃ l : List (List UInt8), (∀ x, x ∈ l → M t x) ∧ l.flatten = s := by
  match s, h with
  | _, .nil => exact ⟨[], fun x hx => (by cases hx), rfl⟩
  | _, .cons (u := u) h1 h2 =>
    obtain ⟨l, hl, rfl⟩ := MS.list h2
    refine ⟨u :: l, fun x hx => ?_, by simp⟩
    rcases List.mem_cons.1 hx with rfl | hx
    · exact h1
    · exact hl x hx
theorem MS.of_list {t : PT} : ∀ (l : List (List UInt8)), (∀ x, x ∈ l → M t x) → MS t l.flatten
  | [], _ => MS.nil
  | x :: l, h => by
    rw [List.flatten_cons]
    exact MS.cons (h x (List.mem_cons_self ..)) (MS.of_list l (fun y hy => h y (List.mem_cons_of_mem _ hy)))
theorem M.star_iff {t : PT} {s : List UInt8} : M (.rep 42 t) s ↔ MS t s := by
  constructor
  · intro h
    cases h with
    | star h => exact h
  · exact M.star

/-- a witness of repeatedTwice's search is a row of texts in two ways -/
theorem rows_of_twice {t : PT} {s : List UInt8} (h : Twice t (.rep 42 t) s) : Rows2 t s := by
  obtain ⟨w, u1, u2, rfl, hu, h1, h2, h3, h4⟩ := h
  obtain ⟨l, hl, hls⟩ := (M.star_iff.1 h2).list
  obtain ⟨l', hl', hls'⟩ := (M.star_iff.1 h4).list
  refine ⟨w :: l, (w ++ u1) :: l', fun e => ?_, fun x hx => ?_, fun x hx => ?_, by rw [List.flatten_cons, hls], by rw [List.flatten_cons, hls', List.append_assoc]⟩
  · injection e with e1 e2
    have := congrArg List.length e1
    simp at this
    exact hu (by simpa using this)
  · rcases List.mem_cons.1 hx with rfl | hx
    · exact h1
    · exact hl x hx
  · rcases List.mem_cons.1 hx with rfl | hx
    · exact h3
    · exact hl' x hx

theorem pre_of {α : Type} : ∀ (x y r r' : List α), x ++ r = y ++ r' → x.length ≤ y.length → ∃ u, y = x ++ u ∧ r = u ++ r'
  | [], y, r, r', h, _ => ⟨y, rfl, h⟩
  | a :: x, [], r, r', h, hl => by simp at hl
  | a :: x, b :: y, r, r', h, hl => by
    simp only [List.cons_append, List.cons.injEq] at h
    obtain ⟨rfl, h⟩ := h
    obtain ⟨u, rfl, rfl⟩ := pre_of x y r r' h (by simpa using hl)
    exact ⟨u, rfl, rfl⟩

/-- where some text is a row of texts in two ways, the search finds a text -/
theorem twice_of_rows {t : PT} (h0 : ¬ M t []) : ∀ (l l' : List (List UInt8)), l ≠ l' → (∀ x, x ∈ l → M t x) → (∀ x, x ∈ l' → M t x) → l.flatten = l'.flatten → ∃ s, Twice t (.rep 42 t) s
  | [], [], hn, _, _, _ => absurd rfl hn
  | [], y :: r', _, _, h', hf => by
    rw [List.flatten_nil, List.flatten_cons] at hf
    have : y = [] := (List.append_eq_nil_iff.1 hf.symm).1
    exact absurd (this ▸ h' y (List.mem_cons_self ..)) h0
  | x :: r, [], _, h, _, hf => by
    rw [List.flatten_nil, List.flatten_cons] at hf
    have : x = [] := (List.append_eq_nil_iff.1 hf).1
    exact absurd (this ▸ h x (List.mem_cons_self ..)) h0
  | x :: r, y :: r', hn, h, h', hf => by
    have hx := h x (List.mem_cons_self ..)
    have hy := h' y (List.mem_cons_self ..)
    have hr := fun z hz => h z (List.mem_cons_of_mem _ hz)
    have hr' := fun z hz => h' z (List.mem_cons_of_mem _ hz)
    rw [List.flatten_cons, List.flatten_cons] at hf
    by_cases e : x = y
    · subst e
      exact twice_of_rows h0 r r' (fun e => hn (by rw [e])) hr hr' (List.append_cancel_left hf)
    · rcases Nat.le_total x.length y.length with hle | hle
      · obtain ⟨u, rfl, hu⟩ := pre_of x y _ _ hf hle
        refine ⟨x ++ (u ++ r'.flatten), x, u, r'.flatten, rfl, fun e' => e (by simp [e']), hx, ?_, hy, M.star (MS.of_list r' hr')⟩
        rw [← hu]
        exact M.star (MS.of_list r hr)
      · obtain ⟨u, rfl, hu⟩ := pre_of y x _ _ hf.symm hle
        refine ⟨y ++ (u ++ r.flatten), y, u, r.flatten, rfl, fun e' => e (by simp [e']), hy, ?_, hx, M.star (MS.of_list r hr)⟩
        rw [← hu]
        exact M.star (MS.of_list r' hr')

end Go.Proofs.YtlljggefbngkeaaGreatDoor

namespace Go.Proofs.YtlljggefbngkeaaGreatDoor
open Go.RowKit

theorem sub_zero_take (d : List UInt8) (j : Nat) : sub d 0 j = d.take j := by simp [sub]
theorem sub_end_drop (d : List UInt8) (i : Nat) : sub d i d.length = d.drop i := by
  unfold sub
  rw [List.take_of_length_le (by rw [List.length_drop]; exact Nat.le_refl _)]

/-- a text that is parted twice: at two places -/
theorem twice_places {ta tb : PT} {d : List UInt8} : Twice ta tb d ↔ ∃ i j, i < j ∧ j ≤ d.length ∧ M ta (sub d 0 i) ∧ M tb (sub d i d.length) ∧ M ta (sub d 0 j) ∧ M tb (sub d j d.length) := by
  constructor
  · rintro ⟨w, u1, u2, rfl, hu, h1, h2, h3, h4⟩
    have hl : 0 < u1.length := List.length_pos_iff.2 hu
    have e1 : (w ++ (u1 ++ u2)).take w.length = w := by simp
    have e2 : (w ++ (u1 ++ u2)).drop w.length = u1 ++ u2 := by simp
    have e3 : (w ++ (u1 ++ u2)).take (w ++ u1).length = w ++ u1 := by rw [← List.append_assoc]; exact List.take_left ..
    have e4 : (w ++ (u1 ++ u2)).drop (w ++ u1).length = u2 := by rw [← List.append_assoc]; exact List.drop_left ..
    refine ⟨w.length, (w ++ u1).length, by simp; omega, by simp, ?_, ?_, ?_, ?_⟩
    · rw [sub_zero_take, e1]; exact h1
    · rw [sub_end_drop, e2]; exact h2
    · rw [sub_zero_take, e3]; exact h3
    · rw [sub_end_drop, e4]; exact h4
  · rintro ⟨i, j, hij, hj, h1, h2, h3, h4⟩
    have a1 := sub_app d 0 i d.length (Nat.zero_le _) (by omega)
    have a2 := sub_app d i j d.length (by omega) hj
    have a3 := sub_app d 0 i j (Nat.zero_le _) (by omega)
    refine ⟨sub d 0 i, sub d i j, sub d j d.length, ?_, fun e => ?_, h1, by rw [a2]; exact h2, by rw [a3]; exact h3, h4⟩
    · rw [a2, a1, sub_all]
    · have := sub_len d i j hj
      rw [e] at this
      simp at this
      omega

section
variable {t : PT} {d : List UInt8} {E : Nat → Nat → Bool}

/-- the texts of a way -/
def pcs (d : List UInt8) : Nat → List Nat → List (List UInt8)
  | _, [] => []
  | j, i :: l => pcs d i l ++ [sub d i j]

theorem pt_pcs (hE : ∀ i j, i < j → j ≤ d.length → (E i j = true ↔ M t (sub d i j))) : ∀ (l : List Nat) (j : Nat), j ≤ d.length → Pt E j l → (∀ x, x ∈ pcs d j l → M t x) ∧ (pcs d j l).flatten = sub d 0 j
  | [], j, hj, h => by
    have : j = 0 := h
    subst this
    rw [pcs]
    exact ⟨fun x hx => (by cases hx), by rw [sub_self]; rfl⟩
  | i :: l, j, hj, h => by
    obtain ⟨h1, h2, h3⟩ := h
    obtain ⟨q1, q2⟩ := pt_pcs hE l i (by omega) h3
    rw [pcs]
    refine ⟨fun x hx => ?_, ?_⟩
    · rcases List.mem_append.1 hx with hx | hx
      · exact q1 x hx
      · rw [List.mem_singleton] at hx
        subst hx
        exact (hE i j h1 hj).1 h2
    · rw [List.flatten_append, q2, List.flatten_cons, List.flatten_nil, List.append_nil]
      exact sub_app d 0 i j (Nat.zero_le _) (by omega)

theorem pcs_inj : ∀ (l l' : List Nat) (j : Nat), j ≤ d.length → Pt E j l → Pt E j l' → pcs d j l = pcs d j l' → l = l'
  | [], [], _, _, _, _, _ => rfl
  | [], i :: l', j, _, h, h', _ => by
    have : j = 0 := h
    have := h'.1
    omega
  | i :: l, [], j, _, h, h', _ => by
    have : j = 0 := h'
    have := h.1
    omega
  | i :: l, i' :: l', j, hj, h, h', e => by
    rw [pcs, pcs] at e
    obtain ⟨e1, e2⟩ := List.append_inj' e rfl
    injection e2 with e2 _
    have n1 := sub_len d i j hj
    have n2 := sub_len d i' j hj
    rw [e2] at n1
    have hi := h.1
    have hi' := h'.1
    have : i = i' := by omega
    subst this
    rw [pcs_inj l l' i (by omega) h.2.2 h'.2.2 e1]

/-- two ways to the end: rows of texts in two ways -/
theorem rows_of_pt (hE : ∀ i j, i < j → j ≤ d.length → (E i j = true ↔ M t (sub d i j))) (h : ∃ l l', l ≠ l' ∧ Pt E d.length l ∧ Pt E d.length l') : Rows2 t d := by
  obtain ⟨l, l', hn, h1, h2⟩ := h
  obtain ⟨a1, a2⟩ := pt_pcs hE l _ (Nat.le_refl _) h1
  obtain ⟨b1, b2⟩ := pt_pcs hE l' _ (Nat.le_refl _) h2
  rw [sub_all] at a2 b2
  exact ⟨_, _, fun e => hn (pcs_inj l l' _ (Nat.le_refl _) h1 h2 e), a1, b1, a2, b2⟩

/-- the places of a row of texts, its last text first -/
def plc : List (List UInt8) → List Nat
  | [] => []
  | _ :: r => r.reverse.flatten.length :: plc r

theorem pt_plc (hE : ∀ i j, i < j → j ≤ d.length → (E i j = true ↔ M t (sub d i j))) (h0 : ¬ M t []) : ∀ (r : List (List UInt8)), (∀ x, x ∈ r → M t x) → r.reverse.flatten.length ≤ d.length → d.take r.reverse.flatten.length = r.reverse.flatten → Pt E r.reverse.flatten.length (plc r) ∧ pcs d r.reverse.flatten.length (plc r) = r.reverse
  | [], _, _, _ => ⟨rfl, rfl⟩
  | x :: r, hx, hl, ht => by
    have hf : (x :: r).reverse.flatten = r.reverse.flatten ++ x := by simp
    rw [hf] at hl ht ⊢
    have hlen : (r.reverse.flatten ++ x).length = r.reverse.flatten.length + x.length := List.length_append
    rw [hlen] at hl ht ⊢
    have hx0 : 0 < x.length := List.length_pos_iff.2 (fun e => h0 (e ▸ hx x (List.mem_cons_self ..)))
    have ht' : d.take r.reverse.flatten.length = r.reverse.flatten := by
      have := congrArg (List.take r.reverse.flatten.length) ht
      rw [List.take_take, Nat.min_eq_left (by omega), List.take_left] at this
      exact this
    have hs : sub d r.reverse.flatten.length (r.reverse.flatten.length + x.length) = x := by
      have a := sub_app d 0 r.reverse.flatten.length (r.reverse.flatten.length + x.length) (Nat.zero_le _) (by omega)
      rw [sub_zero_take, sub_zero_take, ht, ht'] at a
      exact List.append_cancel_left a
    obtain ⟨q1, q2⟩ := pt_plc hE h0 r (fun y hy => hx y (List.mem_cons_of_mem _ hy)) (by omega) ht'
    rw [plc]
    refine ⟨⟨by omega, (hE _ _ (by omega) hl).2 (by rw [hs]; exact hx x (List.mem_cons_self ..)), q1⟩, ?_⟩
    rw [pcs, q2, hs]
    simp

/-- a row of texts in two ways: two ways to the end -/
theorem pt_of_rows (hE : ∀ i j, i < j → j ≤ d.length → (E i j = true ↔ M t (sub d i j))) (h0 : ¬ M t []) (h : Rows2 t d) : ∃ l l', l ≠ l' ∧ Pt E d.length l ∧ Pt E d.length l' := by
  obtain ⟨r, r', hn, h1, h2, e1, e2⟩ := h
  have key : ∀ r : List (List UInt8), (∀ x, x ∈ r → M t x) → r.flatten = d → Pt E d.length (plc r.reverse) ∧ pcs d d.length (plc r.reverse) = r := fun r hr e => by
    have hrr : r.reverse.reverse.flatten = d := by rw [List.reverse_reverse]; exact e
    have := pt_plc hE h0 r.reverse (fun x hx => hr x (List.mem_reverse.1 hx)) (by rw [hrr]; exact Nat.le_refl _) (by rw [hrr, List.take_length])
    rw [hrr, List.reverse_reverse] at this
    exact this
  obtain ⟨a1, a2⟩ := key r h1 e1
  obtain ⟨b1, b2⟩ := key r' h2 e2
  exact ⟨_, _, fun e => hn (by rw [← a2, ← b2, e]), a1, b1⟩

end
end Go.Proofs.YtlljggefbngkeaaGreatDoor

namespace Go.Proofs.YtlljggefbngkeaaGreatDoor
open Go.RowKit

/-! The witnesses of a node, as the reference finds them. -/

/-- in two ways a row of texts, none of them empty -/
def Ways2 (t : PT) (d : List UInt8) : Prop := ∃ E, Steps2 t d E ∧ ∃ l l', l ≠ l' ∧ Pt E d.length l ∧ Pt E d.length l'

/-- is the text a witness of the node? -/
def BWit : BT → List UInt8 → Prop
  | .two kd _ a b, u => if kd = 124 then M (bS a) u ∧ M (bS b) u else Twice (bS a) (bS b) u ∨ (if kd = 126 then Twice (bV b) (bV a) u else Twice (bV a) (bV b) u)
  | .star _ a, u => if u = [] then M (bS a) [] ∨ M (bV a) [] else Ways2 (bS a) u ∨ Ways2 (bV a) u
  | .pat _, _ => False
  | .key _ _ _, _ => False

/-- a node's place -/
def bat : BT → Option Nat
  | .two _ p _ _ => some p
  | .star p _ => some p
  | .pat _ => none
  | .key _ _ _ => none


end Go.Proofs.YtlljggefbngkeaaGreatDoor

namespace Go.Proofs.YtlljggefbngkeaaGreatDoor
open Go.RowKit

/-! What a lens sees of a source, makes of a view, lays back: as functions of texts. -/

open Classical in
/-- can the text be parted here? -/
noncomputable def pqF (A B : PT) (u : List UInt8) (i : Nat) : Bool := decide (M A (sub u 0 i) ∧ M B (sub u i u.length))
theorem pqF_parted (A B : PT) (u : List UInt8) : Parted A B u (pqF A B u) := fun i => by simp [pqF]
/-- the first place at which it can -/
noncomputable def cutI (A B : PT) (u : List UInt8) : Int := fstAt (pqF A B u) (u.length + 1)
noncomputable def cutN (A B : PT) (u : List UInt8) : Nat := (cutI A B u).toNat

theorem fstAt_none (q : Nat → Bool) : ∀ m, fstAt q m < 0 ↔ ∀ i, i < m → q i = false
  | 0 => by rw [fstAt]; simp
  | m + 1 => by
    have ih := fstAt_none q m
    have hb := fstAt_bd q m
    rw [fstAt]
    split
    · rename_i h
      exact ⟨fun h1 => by omega, fun h1 => by have := h1 m (by omega); rw [this] at h; cases h.1⟩
    · rename_i h
      rw [ih]
      constructor
      · intro h1 i hi
        by_cases e : i = m
        · subst e
          cases hq : q i with
          | false => rfl
          | true => exact absurd ⟨hq, (ih.2 h1)⟩ h
        · exact h1 i (by omega)
      · intro h1 i hi
        exact h1 i (by omega)
theorem fstAt_some (q : Nat → Bool) : ∀ m, 0 ≤ fstAt q m → q (fstAt q m).toNat = true ∧ (fstAt q m).toNat < m ∧ ∀ j, j < (fstAt q m).toNat → q j = false
  | 0, h => by rw [fstAt] at h; omega
  | m + 1, h => by
    have hb := fstAt_bd q m
    rw [fstAt] at h ⊢
    split
    · rename_i h1
      have h2 := (fstAt_none q m).1 h1.2
      exact ⟨by simpa using h1.1, by simp, fun j hj => h2 j (by simpa using hj)⟩
    · rename_i h1
      rw [if_neg h1] at h
      obtain ⟨a, b, c⟩ := fstAt_some q m h
      exact ⟨a, by omega, c⟩

/-- where it can be parted the first place is one -/
theorem cut_spec {A B : PT} {u : List UInt8} (h : ∃ i, i ≤ u.length ∧ M A (u.take i) ∧ M B (u.drop i)) :
    cutI A B u = (cutN A B u : Int) ∧ cutN A B u ≤ u.length ∧ M A (u.take (cutN A B u)) ∧ M B (u.drop (cutN A B u)) ∧ ∀ j, j < cutN A B u → ¬ (M A (u.take j) ∧ M B (u.drop j)) := by
  have hq := pqF_parted A B u
  have key : ∀ i, pqF A B u i = true ↔ M A (u.take i) ∧ M B (u.drop i) := fun i => by rw [hq i, sub_zero_take, sub_end_drop]
  have h0 : 0 ≤ cutI A B u := by
    have hb := fstAt_bd (pqF A B u) (u.length + 1)
    rcases Int.lt_or_le (cutI A B u) 0 with h1 | h1
    · obtain ⟨i, hi, h2⟩ := h
      have := (fstAt_none _ _).1 h1 i (by omega)
      rw [(key i).2 h2] at this
      cases this
    · exact h1
  obtain ⟨a, b, c⟩ := fstAt_some (pqF A B u) (u.length + 1) h0
  have e : cutI A B u = (cutN A B u : Int) := by unfold cutN; omega
  refine ⟨e, ?_, ((key _).1 a).1, ((key _).1 a).2, fun j hj hn => ?_⟩
  · have : cutN A B u < u.length + 1 := b
    omega
  · have := c j hj
    rw [(key j).2 hn] at this
    cases this
theorem M_cut {A B : PT} {u : List UInt8} (h : M (.seq [A, B]) u) : ∃ i, i ≤ u.length ∧ M A (u.take i) ∧ M B (u.drop i) := by
  cases h with
  | seq h =>
    cases h with
    | cons h1 h2 =>
      cases h2 with
      | cons h3 h4 =>
        cases h4
        rename_i x y
        refine ⟨x.length, by simp, by simpa using h1, by simpa using h3⟩
theorem cut_M {A B : PT} {u : List UInt8} {i : Nat} (h1 : M A (u.take i)) (h2 : M B (u.drop i)) : M (.seq [A, B]) u := by
  have := M.seq (ML.cons h1 (ML.cons h2 ML.nil))
  rwa [List.append_nil, List.take_append_drop] at this

/-- a text, the first piece taken off, and so on -/
noncomputable def pcN (A : PT) : Nat → List UInt8 → List (List UInt8)
  | 0, _ => []
  | n + 1, u => if u = [] then [] else u.take (cutN A (.rep 42 A) u) :: pcN A n (u.drop (cutN A (.rep 42 A) u))
noncomputable def pcF (A : PT) (u : List UInt8) : List (List UInt8) := pcN A u.length u

theorem star_cut {A : PT} {u : List UInt8} (hu : u ≠ []) (h : M (.rep 42 A) u) : ∃ i, i ≤ u.length ∧ M A (u.take i) ∧ M (.rep 42 A) (u.drop i) := by
  rw [M.star_iff] at h
  cases h with
  | nil => exact absurd rfl hu
  | cons h1 h2 =>
    rename_i x y
    exact ⟨x.length, by simp, by simpa using h1, by simpa using M.star h2⟩
theorem star_pos {A : PT} {u : List UInt8} (h0 : ¬ M A []) (hu : u ≠ []) (h : M (.rep 42 A) u) : 0 < cutN A (.rep 42 A) u := by
  obtain ⟨_, _, h1, _⟩ := cut_spec (star_cut hu h)
  rcases Nat.eq_zero_or_pos (cutN A (.rep 42 A) u) with e | e
  · rw [e] at h1
    exact absurd (by simpa using h1) h0
  · exact e
theorem pcN_spec {A : PT} (h0 : ¬ M A []) : ∀ (n : Nat) (u : List UInt8), u.length ≤ n → M (.rep 42 A) u → (∀ x, x ∈ pcN A n u → M A x ∧ x ≠ []) ∧ (pcN A n u).flatten = u
  | 0, u, hn, h => by
    have : u = [] := List.eq_nil_of_length_eq_zero (by omega)
    subst this
    rw [pcN]
    exact ⟨fun x hx => (by cases hx), rfl⟩
  | n + 1, u, hn, h => by
    rw [pcN]
    by_cases hu : u = []
    · rw [if_pos hu, hu]
      exact ⟨fun x hx => (by cases hx), rfl⟩
    · rw [if_neg hu]
      obtain ⟨_, hl, h1, h2, _⟩ := cut_spec (star_cut hu h)
      have hp := star_pos h0 hu h
      obtain ⟨a, b⟩ := pcN_spec h0 n (u.drop (cutN A (.rep 42 A) u)) (by rw [List.length_drop]; omega) h2
      refine ⟨fun x hx => ?_, ?_⟩
      · rcases List.mem_cons.1 hx with rfl | hx
        · exact ⟨h1, fun e => h0 (by rw [e] at h1; exact h1)⟩
        · exact a x hx
      · rw [List.flatten_cons, b, List.take_append_drop]
theorem pcF_spec {A : PT} (h0 : ¬ M A []) {u : List UInt8} (h : M (.rep 42 A) u) : (∀ x, x ∈ pcF A u → M A x ∧ x ≠ []) ∧ (pcF A u).flatten = u := pcN_spec h0 _ u (Nat.le_refl _) h
theorem pcN_step {A : PT} (h0 : ¬ M A []) : ∀ (n m : Nat) (u : List UInt8), u.length ≤ n → u.length ≤ m → M (.rep 42 A) u → pcN A n u = pcN A m u
  | 0, 0, u, _, _, _ => rfl
  | 0, m + 1, u, h, _, _ => by
    have : u = [] := List.eq_nil_of_length_eq_zero (by omega)
    rw [pcN, pcN, if_pos this]
  | n + 1, 0, u, _, h, _ => by
    have : u = [] := List.eq_nil_of_length_eq_zero (by omega)
    rw [pcN, pcN, if_pos this]
  | n + 1, m + 1, u, h1, h2, h => by
    rw [pcN, pcN]
    by_cases hu : u = []
    · rw [if_pos hu, if_pos hu]
    · rw [if_neg hu, if_neg hu]
      obtain ⟨_, hl, _, h3, _⟩ := cut_spec (star_cut hu h)
      have hp := star_pos h0 hu h
      rw [pcN_step h0 n m _ (by rw [List.length_drop]; omega) (by rw [List.length_drop]; omega) h3]
theorem pcF_nil (A : PT) : pcF A [] = [] := by rw [pcF]; rfl
/-- one more piece -/
theorem pcF_cons {A : PT} (h0 : ¬ M A []) {u : List UInt8} (hu : u ≠ []) (h : M (.rep 42 A) u) : pcF A u = u.take (cutN A (.rep 42 A) u) :: pcF A (u.drop (cutN A (.rep 42 A) u)) := by
  obtain ⟨_, hl, _, h3, _⟩ := cut_spec (star_cut hu h)
  have hp := star_pos h0 hu h
  obtain ⟨n, hn⟩ : ∃ n, u.length = n + 1 := ⟨u.length - 1, by have := List.length_pos_iff.2 hu; omega⟩
  rw [pcF, hn, pcN, if_neg hu, pcF]
  rw [pcN_step h0 n _ _ (by rw [List.length_drop]; omega) (Nat.le_refl _) h3]

open Classical in
/-- what is seen of a source -/
noncomputable def getF : BT → List UInt8 → List UInt8
  | .pat _, u => u
  | .key _ v _, _ => v
  | .two kd _ a b, u =>
    if kd = 124 then (if M (bS a) u then getF a u else getF b u)
    else if kd = 126 then getF b (u.drop (cutN (bS a) (bS b) u)) ++ getF a (u.take (cutN (bS a) (bS b) u))
    else getF a (u.take (cutN (bS a) (bS b) u)) ++ getF b (u.drop (cutN (bS a) (bS b) u))
  | .star _ a, u => (pcF (bS a) u).flatMap (getF a)
open Classical in
/-- what is made of a view -/
noncomputable def makeF : BT → List UInt8 → List UInt8
  | .pat _, v => v
  | .key _ _ d, _ => d
  | .two kd _ a b, v =>
    if kd = 124 then (if M (bV a) v then makeF a v else makeF b v)
    else if kd = 126 then makeF a (v.drop (cutN (bV b) (bV a) v)) ++ makeF b (v.take (cutN (bV b) (bV a) v))
    else makeF a (v.take (cutN (bV a) (bV b) v)) ++ makeF b (v.drop (cutN (bV a) (bV b) v))
  | .star _ a, v => (pcF (bV a) v).flatMap (makeF a)
/-- pieces laid back into pieces; the others made anew -/
def rowPutF (f : List UInt8 → List UInt8 → List UInt8) (g : List UInt8 → List UInt8) : List (List UInt8) → List (List UInt8) → List UInt8
  | [], _ => []
  | p :: ps, [] => g p ++ rowPutF f g ps []
  | p :: ps, q :: qs => f p q ++ rowPutF f g ps qs
open Classical in
/-- a view laid back into a source -/
noncomputable def putF : BT → List UInt8 → List UInt8 → List UInt8
  | .pat _, v, _ => v
  | .key _ _ _, _, s => s
  | .two kd p a b, v, s =>
    if kd = 124 then
      (if M (bS a) s then (if M (bV a) v then putF a v s else makeF (.two kd p a b) v)
      else (if M (bV b) v then putF b v s else makeF (.two kd p a b) v))
    else if kd = 126 then putF a (v.drop (cutN (bV b) (bV a) v)) (s.take (cutN (bS a) (bS b) s)) ++ putF b (v.take (cutN (bV b) (bV a) v)) (s.drop (cutN (bS a) (bS b) s))
    else putF a (v.take (cutN (bV a) (bV b) v)) (s.take (cutN (bS a) (bS b) s)) ++ putF b (v.drop (cutN (bV a) (bV b) v)) (s.drop (cutN (bS a) (bS b) s))
  | .star _ a, v, s => rowPutF (putF a) (makeF a) (pcF (bV a) v) (pcF (bS a) s)

/-- no row's piece is empty; a default and a view are short -/
def bNE : BT → Prop
  | .pat _ => True
  | .key _ v d => v.length ≤ 120 ∧ d.length ≤ 120
  | .two kd _ a b => (kd = 114 ∨ kd = 124 ∨ kd = 126) ∧ bNE a ∧ bNE b
  | .star _ a => ¬ M (bS a) [] ∧ ¬ M (bV a) [] ∧ bNE a
/-- how many nodes -/
def bsz : BT → Nat
  | .pat _ => 1
  | .key _ _ _ => 1
  | .two _ _ a b => bsz a + bsz b + 1
  | .star _ a => bsz a + 1

end Go.Proofs.YtlljggefbngkeaaGreatDoor

namespace Go.Proofs.YtlljggefbngkeaaGreatDoor
open Go.RowKit

theorem src_row {kd : Int} {p : Nat} {a b : BT} {u : List UInt8} (hk : kd ≠ 124) (h : M (bS (.two kd p a b)) u) : ∃ i, i ≤ u.length ∧ M (bS a) (u.take i) ∧ M (bS b) (u.drop i) := by
  rw [bS, if_neg hk] at h
  exact M_cut h
theorem vw_row {kd : Int} {p : Nat} {a b : BT} {u : List UInt8} (hk : kd ≠ 124) (hk2 : kd ≠ 126) (h : M (bV (.two kd p a b)) u) : ∃ i, i ≤ u.length ∧ M (bV a) (u.take i) ∧ M (bV b) (u.drop i) := by
  rw [bV, if_neg hk, if_neg hk2] at h
  exact M_cut h
theorem vw_swap {p : Nat} {a b : BT} {u : List UInt8} (h : M (bV (.two 126 p a b)) u) : ∃ i, i ≤ u.length ∧ M (bV b) (u.take i) ∧ M (bV a) (u.drop i) := by
  rw [bV, if_neg (by decide), if_pos rfl] at h
  exact M_cut h
theorem M_alt_or {a b : PT} {u : List UInt8} (h : M (.alt [a, b]) u) : M a u ∨ M b u := by
  cases h with
  | alt h1 h2 =>
    rcases List.mem_cons.1 h1 with rfl | h1
    · exact .inl h2
    · rw [List.mem_singleton] at h1
      subst h1
      exact .inr h2
theorem src_alt {p : Nat} {a b : BT} {u : List UInt8} (h : M (bS (.two 124 p a b)) u) : M (bS a) u ∨ M (bS b) u := by
  rw [bS, if_pos rfl] at h
  exact M_alt_or h
theorem vw_alt {p : Nat} {a b : BT} {u : List UInt8} (h : M (bV (.two 124 p a b)) u) : M (bV a) u ∨ M (bV b) u := by
  rw [bV, if_pos rfl] at h
  exact M_alt_or h

def bd (c : BT) (n : Nat) : Nat := 120 * bsz c * max 1 n
theorem bd_two (kd : Int) (p : Nat) (a b : BT) (n i j : Nat) (hi : i ≤ n) (hj : j ≤ n) : bd a i + bd b j ≤ bd (.two kd p a b) n := by
  unfold bd
  rw [bsz]
  have h1 : 120 * bsz a * max 1 i ≤ 120 * bsz a * max 1 n := Nat.mul_le_mul_left _ (by omega)
  have h2 : 120 * bsz b * max 1 j ≤ 120 * bsz b * max 1 n := Nat.mul_le_mul_left _ (by omega)
  have h3 : 120 * (bsz a + bsz b + 1) * max 1 n = 120 * bsz a * max 1 n + 120 * bsz b * max 1 n + 120 * max 1 n := by
    rw [Nat.mul_add, Nat.mul_add, Nat.add_mul, Nat.add_mul, Nat.mul_one]
  omega
theorem bd_key (t : PT) (v d : List UInt8) (n : Nat) : 120 ≤ bd (.key t v d) n := by
  unfold bd
  rw [bsz]
  omega
theorem bd_star (p : Nat) (a : BT) (n : Nat) : 120 * bsz a * n ≤ bd (.star p a) n := by
  unfold bd
  rw [bsz]
  exact Nat.mul_le_mul (by omega) (by omega)

theorem flat_len {K : Nat} {f : List UInt8 → List UInt8} : ∀ (l : List (List UInt8)), (∀ x, x ∈ l → (f x).length ≤ x.length + K * x.length) → (l.flatMap f).length ≤ l.flatten.length + K * l.flatten.length
  | [], _ => by simp
  | x :: l, h => by
    have h1 := h x List.mem_cons_self
    have h2 := flat_len l (fun y hy => h y (List.mem_cons_of_mem _ hy))
    rw [List.flatMap_cons, List.flatten_cons, List.length_append, List.length_append, Nat.mul_add]
    omega
theorem max1 {x : List UInt8} (h : x ≠ []) : max 1 x.length = x.length := by
  have := List.length_pos_iff.2 h
  omega

theorem get_len : ∀ (c : BT), bNE c → ∀ u, M (bS c) u → (getF c u).length ≤ u.length + bd c u.length
  | .pat t, _, u, _ => by rw [getF]; omega
  | .key t v d, h, u, _ => by
    rw [getF]
    have := bd_key t v d u.length
    have := h.1
    omega
  | .two kd p a b, h, u, hu => by
    have ia := get_len a h.2.1
    have ib := get_len b h.2.2
    by_cases hk : kd = 124
    · subst hk
      rw [getF, if_pos rfl]
      have hb := bd_two 124 p a b u.length u.length u.length (Nat.le_refl _) (Nat.le_refl _)
      split
      · rename_i h1; have := ia u h1; omega
      · rename_i h1; have := ib u ((src_alt hu).resolve_left h1); omega
    · obtain ⟨_, hl, h1, h2, _⟩ := cut_spec (src_row hk hu)
      have e1 := ia _ h1
      have e2 := ib _ h2
      have l1 : (u.take (cutN (bS a) (bS b) u)).length = cutN (bS a) (bS b) u := by rw [List.length_take]; omega
      have l2 : (u.drop (cutN (bS a) (bS b) u)).length = u.length - cutN (bS a) (bS b) u := by rw [List.length_drop]
      rw [l1] at e1
      rw [l2] at e2
      have hb := bd_two kd p a b u.length (cutN (bS a) (bS b) u) (u.length - cutN (bS a) (bS b) u) hl (by omega)
      rw [getF, if_neg hk]
      split
      · rw [List.length_append]; omega
      · rw [List.length_append]; omega
  | .star p a, h, u, hu => by
    have ia := get_len a h.2.2
    obtain ⟨h1, h2⟩ := pcF_spec h.1 (u := u) hu
    rw [getF]
    have := flat_len (K := 120 * bsz a) (f := getF a) (pcF (bS a) u) (fun x hx => by
      have := ia x (h1 x hx).1
      rw [bd, max1 (h1 x hx).2] at this
      exact this)
    rw [h2] at this
    have hb := bd_star p a u.length
    omega

theorem make_len : ∀ (c : BT), bNE c → ∀ u, M (bV c) u → (makeF c u).length ≤ u.length + bd c u.length
  | .pat t, _, u, _ => by rw [makeF]; omega
  | .key t v d, h, u, _ => by
    rw [makeF]
    have := bd_key t v d u.length
    have := h.2
    omega
  | .two kd p a b, h, u, hu => by
    have ia := make_len a h.2.1
    have ib := make_len b h.2.2
    by_cases hk : kd = 124
    · subst hk
      rw [makeF, if_pos rfl]
      have hb := bd_two 124 p a b u.length u.length u.length (Nat.le_refl _) (Nat.le_refl _)
      split
      · rename_i h1; have := ia u h1; omega
      · rename_i h1; have := ib u ((vw_alt hu).resolve_left h1); omega
    · rw [makeF, if_neg hk]
      by_cases hk2 : kd = 126
      · subst hk2
        rw [if_pos rfl]
        obtain ⟨_, hl, h1, h2, _⟩ := cut_spec (vw_swap hu)
        have e1 := ib _ h1
        have e2 := ia _ h2
        have l1 : (u.take (cutN (bV b) (bV a) u)).length = cutN (bV b) (bV a) u := by rw [List.length_take]; omega
        have l2 : (u.drop (cutN (bV b) (bV a) u)).length = u.length - cutN (bV b) (bV a) u := by rw [List.length_drop]
        rw [l1] at e1
        rw [l2] at e2
        have hb := bd_two 126 p a b u.length (u.length - cutN (bV b) (bV a) u) (cutN (bV b) (bV a) u) (by omega) hl
        rw [List.length_append]; omega
      · rw [if_neg hk2]
        obtain ⟨_, hl, h1, h2, _⟩ := cut_spec (vw_row hk hk2 hu)
        have e1 := ia _ h1
        have e2 := ib _ h2
        have l1 : (u.take (cutN (bV a) (bV b) u)).length = cutN (bV a) (bV b) u := by rw [List.length_take]; omega
        have l2 : (u.drop (cutN (bV a) (bV b) u)).length = u.length - cutN (bV a) (bV b) u := by rw [List.length_drop]
        rw [l1] at e1
        rw [l2] at e2
        have hb := bd_two kd p a b u.length (cutN (bV a) (bV b) u) (u.length - cutN (bV a) (bV b) u) hl (by omega)
        rw [List.length_append]; omega
  | .star p a, h, u, hu => by
    have ia := make_len a h.2.2
    obtain ⟨h1, h2⟩ := pcF_spec h.2.1 (u := u) hu
    rw [makeF]
    have := flat_len (K := 120 * bsz a) (f := makeF a) (pcF (bV a) u) (fun x hx => by
      have := ia x (h1 x hx).1
      rw [bd, max1 (h1 x hx).2] at this
      exact this)
    rw [h2] at this
    have hb := bd_star p a u.length
    omega

theorem rowPut_len {K : Nat} {f : List UInt8 → List UInt8 → List UInt8} {g : List UInt8 → List UInt8} : ∀ (l m : List (List UInt8)), (∀ x, x ∈ l → (g x).length ≤ x.length + K * x.length) → (∀ x, x ∈ l → ∀ y, y ∈ m → (f x y).length ≤ x.length + y.length + K * x.length) →
    (rowPutF f g l m).length ≤ l.flatten.length + m.flatten.length + K * l.flatten.length
  | [], m, _, _ => by rw [rowPutF]; simp
  | x :: l, [], hg, hf => by
    have h1 := hg x List.mem_cons_self
    have h2 := rowPut_len (f := f) l [] (fun y hy => hg y (List.mem_cons_of_mem _ hy)) (fun y hy z hz => by cases hz)
    rw [rowPutF, List.flatten_cons, List.length_append, List.length_append, Nat.mul_add]
    simp only [List.flatten_nil, List.length_nil] at h2 ⊢
    omega
  | x :: l, y :: m, hg, hf => by
    have h1 := hf x List.mem_cons_self y List.mem_cons_self
    have h2 := rowPut_len l m (fun y hy => hg y (List.mem_cons_of_mem _ hy)) (fun u hu z hz => hf u (List.mem_cons_of_mem _ hu) z (List.mem_cons_of_mem _ hz))
    rw [rowPutF, List.flatten_cons, List.flatten_cons, List.length_append, List.length_append, List.length_append, Nat.mul_add]
    omega

theorem put_len : ∀ (c : BT), bNE c → ∀ v s, M (bV c) v → M (bS c) s → (putF c v s).length ≤ v.length + s.length + bd c v.length
  | .pat t, _, v, s, _, _ => by rw [putF]; omega
  | .key t x d, h, v, s, _, _ => by rw [putF]; omega
  | .two kd p a b, h, v, s, hv, hs => by
    have ia := put_len a h.2.1
    have ib := put_len b h.2.2
    by_cases hk : kd = 124
    · subst hk
      have hb := bd_two 124 p a b v.length v.length v.length (Nat.le_refl _) (Nat.le_refl _)
      have hm := make_len _ h v hv
      rw [putF, if_pos rfl]
      split
      · rename_i h1
        split
        · rename_i h2; have := ia v s h2 h1; omega
        · omega
      · rename_i h1
        split
        · rename_i h2; have := ib v s h2 ((src_alt hs).resolve_left h1); omega
        · omega
    · obtain ⟨_, hsl, s1, s2, _⟩ := cut_spec (src_row hk hs)
      have ls1 : (s.take (cutN (bS a) (bS b) s)).length = cutN (bS a) (bS b) s := by rw [List.length_take]; omega
      have ls2 : (s.drop (cutN (bS a) (bS b) s)).length = s.length - cutN (bS a) (bS b) s := by rw [List.length_drop]
      rw [putF, if_neg hk]
      by_cases hk2 : kd = 126
      · subst hk2
        rw [if_pos rfl]
        obtain ⟨_, hl, h1, h2, _⟩ := cut_spec (vw_swap hv)
        have e1 := ib _ _ h1 s2
        have e2 := ia _ _ h2 s1
        have l1 : (v.take (cutN (bV b) (bV a) v)).length = cutN (bV b) (bV a) v := by rw [List.length_take]; omega
        have l2 : (v.drop (cutN (bV b) (bV a) v)).length = v.length - cutN (bV b) (bV a) v := by rw [List.length_drop]
        rw [l1, ls2] at e1
        rw [l2, ls1] at e2
        have hb := bd_two 126 p a b v.length (v.length - cutN (bV b) (bV a) v) (cutN (bV b) (bV a) v) (by omega) hl
        rw [List.length_append]; omega
      · rw [if_neg hk2]
        obtain ⟨_, hl, h1, h2, _⟩ := cut_spec (vw_row hk hk2 hv)
        have e1 := ia _ _ h1 s1
        have e2 := ib _ _ h2 s2
        have l1 : (v.take (cutN (bV a) (bV b) v)).length = cutN (bV a) (bV b) v := by rw [List.length_take]; omega
        have l2 : (v.drop (cutN (bV a) (bV b) v)).length = v.length - cutN (bV a) (bV b) v := by rw [List.length_drop]
        rw [l1, ls1] at e1
        rw [l2, ls2] at e2
        have hb := bd_two kd p a b v.length (cutN (bV a) (bV b) v) (v.length - cutN (bV a) (bV b) v) hl (by omega)
        rw [List.length_append]; omega
  | .star p a, h, v, s, hv, hs => by
    have ia := put_len a h.2.2
    have im := make_len a h.2.2
    obtain ⟨h1, h2⟩ := pcF_spec h.2.1 (u := v) hv
    obtain ⟨h3, h4⟩ := pcF_spec h.1 (u := s) hs
    rw [putF]
    have := rowPut_len (K := 120 * bsz a) (f := putF a) (g := makeF a) (pcF (bV a) v) (pcF (bS a) s) (fun x hx => by
      have := im x (h1 x hx).1
      rw [bd, max1 (h1 x hx).2] at this
      exact this) (fun x hx y hy => by
      have := ia x y (h1 x hx).1 (h3 y hy).1
      rw [bd, max1 (h1 x hx).2] at this
      exact this)
    rw [h2, h4] at this
    have hb := bd_star p a v.length
    omega


end Go.Proofs.YtlljggefbngkeaaGreatDoor
