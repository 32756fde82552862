import Derived.Test.YtlljggefbngkeaaGreatDoorV25
import Derived.DeepKeys4
import Derived.Maps.OwnIn
import Derived.Maps.Views
namespace Go.Proofs.YtlljggefbngkeaaGreatDoor
open Go.RowKit Go.Maps

theorem Tryz.laidOutP : laidOutB Tryz.prog = true := by kernel_rfl
theorem Tryz.rowPair : (211 : TypeId) < Tryz.prog.types.size := of_decide_eq_true (by kernel_rfl)
theorem Tryz.widePair : (match Tryz.prog.underlying 211 with | some (.array _ _) | some (.struct _) => true | _ => false) = true := by rw [Tryz.underlying211]
set_option maxRecDepth 1000000 in
theorem pairLaw : Keyed Tryz.prog 211 := Keyed.of_law (deep_law_laid Tryz.laidOutP (m := 2) (by omega) Tryz.rowPair (by kernel_rfl) Tryz.widePair)
theorem zeroI (w : World) : (zeroValue 3).run Tryz.prog w = .ok (.int .i64 0) w := by kernel_rfl

/-- a pair as a key -/
def pval (pr : P3) : Value := .agg #[.int .i64 (pr.1 : Int), .int .i64 (pr.2.1 : Int), .int .i64 (pr.2.2 : Int)]
def klit (pr : P3) : Lit := .string (keyBytes [.int .i64 (pr.1 : Int), .int .i64 (pr.2.1 : Int), .int .i64 (pr.2.2 : Int)])
/-- a pair of states of a machine of n -/
def Rng (n : Nat) (pr : P3) : Prop := pr.1 < 4 ∧ pr.2.1 < n ∧ pr.2.2 < n

theorem Tryz.cellsPair : Tryz.prog.cellsOf 211 = 3 := by kernel_rfl
theorem Tryz.ktPair : Tryz.prog.keyType 211 = true := by kernel_rfl
theorem Tryz.cellsInt : Tryz.prog.cellsOf 3 = 1 := by kernel_rfl
theorem Tryz.cellsPhase : Tryz.prog.cellsOf 207 = 1 := by kernel_rfl

set_option maxRecDepth 100000 in
theorem pkey {n : Nat} {pr : P3} (h : Rng n pr) (hn : n ≤ 1000000) : keyOf Tryz.prog 211 (pval pr) = some (klit pr) := by
  obtain ⟨ph, a, b⟩ := pr
  obtain ⟨h1, h2, h3⟩ := h
  simp only at h1 h2 h3
  have w1 : (Lit.int .i64 (ph : Int)).wf = true := WalkArith.wf_i64 (by omega)
  have w2 : (Lit.int .i64 (a : Int)).wf = true := WalkArith.wf_i64 (by omega)
  have w3 : (Lit.int .i64 (b : Int)).wf = true := WalkArith.wf_i64 (by omega)
  obtain ⟨m, hm⟩ : ∃ m, Tryz.prog.types.size + 1 = m + 2 := ⟨Tryz.prog.types.size - 1, by have h0 : 0 < Tryz.prog.types.size := Nat.lt_of_le_of_lt (Nat.zero_le _) Tryz.rowPair; omega⟩
  unfold keyOf
  rw [hm]
  simp [Tryz.underlying211, Tryz.ktPair, pval, klit, Value.formed, Tryz.cellsPair, Value.cells, Program.keyLits, Tryz.cellsInt, Tryz.cellsPhase, Tryz.underlying3, Tryz.underlying207, w1, w2, w3]

theorem klit_inj {n : Nat} {pr pr' : P3} (h : Rng n pr) (h' : Rng n pr') (hn : n ≤ 1000000) (e : klit pr = klit pr') : pr = pr' := by
  have := pairLaw.inj (pkey h hn) (e ▸ pkey h' hn)
  obtain ⟨ph, a, b⟩ := pr
  obtain ⟨ph', a', b'⟩ := pr'
  simp [pval] at this
  obtain ⟨e1, e2, e3⟩ := this
  have e1 : ph = ph' := by omega
  have e2 : a = a' := by omega
  have e3 : b = b' := by omega
  rw [e1, e2, e3]

/-- the counts: of each pair how often it was come to -/
structure TM (A : World) (B n : Nat) (pre : List P3) (it : Nat) (D : DataW Unit) : Prop where
  own : A.ownsMap Tryz.prog 211 (plainElem Tryz.prog 3) B it D
  val : ∀ pr, Rng n pr → ∃ c : Nat, D.atKey (klit pr) (.lit (.int .i64 0)) = .lit (.int .i64 (c : Int)) ∧ c ≤ it ∧ (1 ≤ c ↔ pr ∈ pre)
  has_ : ∀ pr, Rng n pr → (Maps.has D (klit pr) = true ↔ pr ∈ pre)
  siz : Maps.size D = pre.length

theorem TM.start (A : World) (n : Nat) : TM (A.alloc (.map #[] 0)) A.heap.size n [] 0 (.map []) where
  own := World.ownsMap_made A _ _ _
  val := fun pr _ => ⟨0, rfl, Nat.le_refl _, by simp⟩
  has_ := fun pr _ => by simp [Maps.has]
  siz := rfl

/-- one more -/
theorem TM.step {A A' : World} {B n : Nat} {pre : List P3} {it : Nat} {D : DataW Unit} (h : TM A B n pre it D) (hn : n ≤ 1000000) {pr : P3} (hr : Rng n pr) {c : Nat} (hc : D.atKey (klit pr) (.lit (.int .i64 0)) = .lit (.int .i64 (c : Int)))
    (ho : A'.ownsMap Tryz.prog 211 (plainElem Tryz.prog 3) B (it + 1) (D.put (klit pr) (.lit (.int .i64 ((c : Int) + 1))))) :
    TM A' B n (if pr ∈ pre then pre else pre ++ [pr]) (it + 1) (D.put (klit pr) (.lit (.int .i64 ((c : Int) + 1)))) := by
  have ht : Tidy D := h.own.tidy pairLaw
  have hk : WideAt.IsKeyLit (klit pr) := pairLaw.key (pkey hr hn)
  obtain ⟨c', hc', hle, hpre⟩ := h.val pr hr
  have hcc : c = c' := by
    rw [hc] at hc'
    simp at hc'
    omega
  subst hcc
  refine ⟨ho, fun q hq => ?_, fun q hq => ?_, ?_⟩
  · by_cases e : q = pr
    · subst e
      refine ⟨c + 1, by rw [atKey_put_same ht.isMap hk]; simp, by omega, ?_⟩
      by_cases hm : q ∈ pre
      · rw [if_pos hm]; exact ⟨fun _ => hm, fun _ => by omega⟩
      · rw [if_neg hm]; exact ⟨fun _ => by simp, fun _ => by omega⟩
    · obtain ⟨d, hd, hdl, hdp⟩ := h.val q hq
      refine ⟨d, by rw [atKey_put_other (fun e' => e (klit_inj hq hr hn e'))]; exact hd, by omega, ?_⟩
      rw [hdp]
      by_cases hm : pr ∈ pre
      · rw [if_pos hm]
      · rw [if_neg hm]; simp [e]
  · by_cases e : q = pr
    · subst e
      rw [has_put_same ht.isMap hk]
      by_cases hm : q ∈ pre
      · rw [if_pos hm]; simp [hm]
      · rw [if_neg hm]; simp
    · rw [has_put_other (fun e' => e (klit_inj hq hr hn e')), h.has_ q hq]
      by_cases hm : pr ∈ pre
      · rw [if_pos hm]
      · rw [if_neg hm]; simp [e]
  · rw [size_put ht, h.siz]
    by_cases hm : pr ∈ pre
    · rw [if_pos hm, if_pos ((h.has_ pr hr).2 hm)]
    · rw [if_neg hm, if_neg (fun e => hm ((h.has_ pr hr).1 e))]
      simp

/-- how many entries a map in memory has -/
def mapN (A : World) (B : Nat) : Nat := match A.heap[B]? with | some (.map es _) => es.size | _ => 0
theorem TM.count {A : World} {B n : Nat} {pre : List P3} {it : Nat} {D : DataW Unit} (h : TM A B n pre it D) : mapN A B = pre.length := by
  obtain ⟨es, clock, hb, _, _, hD⟩ := h.own
  have hs := h.siz
  rw [hD] at hs
  unfold mapN
  rw [hb, ← hs]
  simp [Maps.size, length_sorted]

/-- numbers below N, none twice -/
theorem nodup_le : ∀ (N : Nat) (l : List Nat), l.Nodup → (∀ x, x ∈ l → x < N) → l.length ≤ N
  | 0, l, _, h => by
    cases l with
    | nil => simp
    | cons a l => exact absurd (h a (by simp)) (Nat.not_lt_zero _)
  | N + 1, l, hd, h => by
    have h1 := nodup_le N (l.filter (fun x => decide (x < N))) (hd.filter _) (fun x hx => by simpa using (List.mem_filter.1 hx).2)
    have h2 : (l.filter (fun x => !decide (x < N))).length ≤ 1 := by
      have hall : ∀ x, x ∈ l.filter (fun x => !decide (x < N)) → x = N := fun x hx => by
        have hx' := List.mem_filter.1 hx
        have := h x hx'.1
        have h3 := hx'.2
        simp at h3
        omega
      have hnd := hd.filter (fun x => !decide (x < N))
      generalize l.filter (fun x => !decide (x < N)) = m at *
      match m with
      | [] => simp
      | [a] => simp
      | a :: b :: r =>
        have e1 := hall a (by simp)
        have e2 := hall b (by simp)
        simp [e1, e2] at hnd
    have h3 : l.length = (l.filter (fun x => decide (x < N))).length + (l.filter (fun x => !decide (x < N))).length := by
      clear h1 h2 h hd
      induction l with
      | nil => rfl
      | cons a l ih =>
        by_cases ha : a < N
        · simp [ha, ih]; omega
        · simp [ha, ih]; omega
    omega

theorem pre_bound {n : Nat} {pre : List P3} (hd : pre.Nodup) (hr : ∀ pr, pr ∈ pre → Rng n pr) : pre.length ≤ 4 * (n * n) := by
  have h := nodup_le (4 * (n * n)) (pre.map fun pr => pr.1 * (n * n) + (pr.2.1 * n + pr.2.2)) ?_ ?_
  · simpa using h
  · rw [List.nodup_iff_pairwise_ne, List.pairwise_map]
    refine List.Pairwise.imp_of_mem ?_ hd
    rintro ⟨p, a, b⟩ ⟨p', a', b'⟩ h1 h2 hne e
    obtain ⟨r1, r2, r3⟩ := hr _ h1
    obtain ⟨q1, q2, q3⟩ := hr _ h2
    simp only at r1 r2 r3 q1 q2 q3 e
    have k1 : a * n + b < n * n := by
      have : a * n + n ≤ n * n := by rw [← Nat.succ_mul]; exact Nat.mul_le_mul_right n r2
      omega
    have k2 : a' * n + b' < n * n := by
      have : a' * n + n ≤ n * n := by rw [← Nat.succ_mul]; exact Nat.mul_le_mul_right n q2
      omega
    have hnn : 0 < n * n := by omega
    have e1 : p = p' := by
      have h1 := congrArg (· / (n * n)) e
      simp only [Nat.mul_comm _ (n * n), Nat.mul_add_div hnn, Nat.div_eq_of_lt k1, Nat.div_eq_of_lt k2] at h1
      omega
    subst e1
    have e2 : a * n + b = a' * n + b' := by omega
    have hn0 : 0 < n := by omega
    have e3 : a = a' := by
      have h1 := congrArg (· / n) e2
      simp only [Nat.mul_comm _ n, Nat.mul_add_div hn0, Nat.div_eq_of_lt r3, Nat.div_eq_of_lt q3] at h1
      omega
    subst e3
    have e4 : b = b' := by omega
    subst e4
    exact hne rfl
  · intro x hx
    obtain ⟨⟨p, a, b⟩, hp, rfl⟩ := List.mem_map.1 hx
    obtain ⟨r1, r2, r3⟩ := hr _ hp
    simp only at r1 r2 r3 ⊢
    have k1 : a * n + b < n * n := by
      have : a * n + n ≤ n * n := by rw [← Nat.succ_mul]; exact Nat.mul_le_mul_right n r2
      omega
    have k2 : p * (n * n) ≤ 3 * (n * n) := Nat.mul_le_mul_right _ (by omega)
    omega

end Go.Proofs.YtlljggefbngkeaaGreatDoor
