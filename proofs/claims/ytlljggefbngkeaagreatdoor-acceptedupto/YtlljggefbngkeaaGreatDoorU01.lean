import Derived.WalkKit
namespace Go.Proofs.YtlljggefbngkeaaGreatDoor

/-! The grammar of the document, as functions on places of a text: what both readers are held against. -/

/-- a pattern's tree: one sign of a list; one behind the other; one of several; repeated (42, 43, 63) -/
inductive PT where
  | chr (l : List UInt8)
  | seq (l : List PT)
  | alt (l : List PT)
  | rep (c : Int) (t : PT)

/-- what a reader answers: a value and the place behind it; or the place of the byte that cannot stand there -/
inductive Res (α : Type) where
  | ok (a : α) (j : Nat)
  | err (p : Nat)

def Res.bind {α β : Type} (r : Res α) (f : α → Nat → Res β) : Res β :=
  match r with
  | .ok a j => f a j
  | .err p => .err p

def Res.map {α β : Type} (f : α → β) (r : Res α) : Res β :=
  match r with
  | .ok a j => .ok (f a) j
  | .err p => .err p

theorem Res.map_map {α β γ : Type} (f : α → β) (g : β → γ) (r : Res α) : (r.map f).map g = r.map (fun a => g (f a)) := by cases r <;> rfl

/-- a byte lies between two others -/
def withinB (c lo hi : Int) : Bool := decide (lo ≤ c) && decide (c ≤ hi)

/-- is a byte among those of a text -/
def hasL (l : List UInt8) (c : Int) : Bool := l.any fun x => (x.toNat : Int) == c

/-- the signs of the document -/
def signI (c : Int) : Bool := withinB c 97 122 || withinB c 48 57 || hasL [61, 44, 59, 58, 95] c

section
variable (s : ByteArray)

/-- the byte at a place; 0: the end -/
def pk (i : Nat) : Int := if h : i < s.size then (s[i].toNat : Int) else 0

/-- the signs from one byte on, below another -/
def uptoN (a k : Nat) : List UInt8 := ((List.range' a (k - a)).filter (fun c : Nat => signI (c : Int))).map UInt8.ofNat
/-- the signs from one byte to another -/
def upto (a b : Int) : List UInt8 := uptoN a.toNat (b.toNat + 1)

/-- behind a bracket: spans, and the closing bracket -/
def gSpans : Nat → Nat → List UInt8 → Res (List UInt8)
  | 0, i, _ => .err i
  | n + 1, i, l =>
    if signI (pk s i) then
      if pk s (i + 1) = 45 then
        if signI (pk s (i + 2)) && decide (pk s i ≤ pk s (i + 2)) then
          (if pk s (i + 3) = 93 then .ok (l ++ upto (pk s i) (pk s (i + 2))) (i + 4) else gSpans n (i + 3) (l ++ upto (pk s i) (pk s (i + 2))))
        else .err (i + 2)
      else (if pk s (i + 1) = 93 then .ok (l ++ upto (pk s i) (pk s i)) (i + 2) else gSpans n (i + 1) (l ++ upto (pk s i) (pk s i)))
    else .err i

/-- a sign of repetition behind a base -/
def gRep (t : PT) (j : Nat) : PT × Nat :=
  if pk s j = 42 ∨ pk s j = 43 ∨ pk s j = 63 then (.rep (pk s j) t, j + 1) else (t, j)

def atBase (c : Int) : Bool := decide (c = 91) || decide (c = 40) || signI c

mutual
def gBase : Nat → Nat → Res PT
  | 0, i => .err i
  | n + 1, i =>
    if pk s i = 91 then (gSpans s n (i + 1) []).map .chr
    else if pk s i = 40 then
      (gAlts n (i + 1)).bind fun l j => if pk s j = 41 then .ok (.alt l) (j + 1) else .err j
    else if signI (pk s i) then .ok (.chr [UInt8.ofNat (pk s i).toNat]) (i + 1)
    else .err i
def gBranch : Nat → Nat → Res (List PT)
  | 0, i => .err i
  | n + 1, i =>
    if atBase (pk s i) then
      (gBase n i).bind fun t j => (gBranch n (gRep s t j).2).map fun l => (gRep s t j).1 :: l
    else .ok [] i
def gAlts : Nat → Nat → Res (List PT)
  | 0, i => .err i
  | n + 1, i =>
    (gBranch n i).bind fun b j => if pk s j = 124 then (gAlts n (j + 1)).map fun l => .seq b :: l else .ok [.seq b] j
end
end

theorem uptoN_self (a : Nat) : uptoN a a = [] := by simp [uptoN]

theorem uptoN_yes (a k : Nat) (h : a ≤ k) (hs : signI (k : Int) = true) : uptoN a (k + 1) = uptoN a k ++ [UInt8.ofNat k] := by
  unfold uptoN
  rw [show k + 1 - a = (k - a) + 1 by omega, List.range'_concat]
  simp only [List.filter_append, List.map_append]
  rw [show a + 1 * (k - a) = k by omega]
  simp [hs]

theorem uptoN_no (a k : Nat) (h : a ≤ k) (hs : signI (k : Int) = false) : uptoN a (k + 1) = uptoN a k := by
  unfold uptoN
  rw [show k + 1 - a = (k - a) + 1 by omega, List.range'_concat]
  simp only [List.filter_append, List.map_append]
  rw [show a + 1 * (k - a) = k by omega]
  simp [hs]

theorem uptoN_length (a k : Nat) : (uptoN a k).length ≤ k - a := by
  unfold uptoN
  rw [List.length_map]
  refine Nat.le_trans (List.length_filter_le _ _) ?_
  simp

end Go.Proofs.YtlljggefbngkeaaGreatDoor

namespace Go.Proofs.YtlljggefbngkeaaGreatDoor

/-! The texts of a pattern, and the places at which one can end. -/
mutual
inductive M : PT → List UInt8 → Prop
  | chr {l : List UInt8} {c : UInt8} : c ∈ l → M (.chr l) [c]
  | seq {l : List PT} {u : List UInt8} : ML l u → M (.seq l) u
  | alt {l : List PT} {t : PT} {u : List UInt8} : t ∈ l → M t u → M (.alt l) u
  | star {t : PT} {u : List UInt8} : MS t u → M (.rep 42 t) u
  | plus {t : PT} {u v : List UInt8} : M t u → MS t v → M (.rep 43 t) (u ++ v)
  | optN {t : PT} : M (.rep 63 t) []
  | optY {t : PT} {u : List UInt8} : M t u → M (.rep 63 t) u
inductive ML : List PT → List UInt8 → Prop
  | nil : ML [] []
  | cons {t : PT} {l : List PT} {u v : List UInt8} : M t u → ML l v → ML (t :: l) (u ++ v)
inductive MS : PT → List UInt8 → Prop
  | nil {t : PT} : MS t []
  | cons {t : PT} {u v : List UInt8} : M t u → MS t v → MS t (u ++ v)
end

theorem ML.snoc {l : List PT} {u : List UInt8} (h : ML l u) {t : PT} {v : List UInt8} (ht : M t v) : ML (l ++ [t]) (u ++ v) := by
  match l, u, h with
  | _, _, .nil => simpa using ML.cons ht .nil
  | _, _, .cons (u := u1) (v := u2) h1 h2 =>
    rw [List.cons_append, List.append_assoc]
    exact .cons h1 (ML.snoc h2 ht)
termination_by l.length

theorem ML.unsnoc : ∀ {l : List PT} {t : PT} {u : List UInt8}, ML (l ++ [t]) u → ∃ a b, u = a ++ b ∧ ML l a ∧ M t b
  | [], t, u, h => by
    cases h with
    | cons h1 h2 => cases h2; exact ⟨[], _, by simp, .nil, h1⟩
  | x :: l, t, u, h => by
    cases h with
    | cons h1 h2 =>
      obtain ⟨a, b, e, ha, hb⟩ := ML.unsnoc h2
      exact ⟨_ ++ a, b, by rw [e, List.append_assoc], .cons h1 ha, hb⟩

theorem MS.snoc {t : PT} {u v : List UInt8} (h : MS t u) (ht : M t v) : MS t (u ++ v) := by
  match u, h with
  | _, .nil => simpa using MS.cons ht .nil
  | _, .cons (u := u1) (v := u2) h1 h2 =>
    rw [List.append_assoc]
    exact .cons h1 (MS.snoc h2 ht)
termination_by structural h

/-- the text between two places -/
def sub (d : List UInt8) (i j : Nat) : List UInt8 := (d.drop i).take (j - i)

theorem sub_self (d : List UInt8) (i : Nat) : sub d i i = [] := by simp [sub]
theorem sub_app (d : List UInt8) (i k j : Nat) (h1 : i ≤ k) (h2 : k ≤ j) : sub d i k ++ sub d k j = sub d i j := by
  unfold sub
  have : (d.drop i).take (j - i) = (d.drop i).take (k - i) ++ ((d.drop i).drop (k - i)).take (j - k) := by
    rw [← List.take_add]; congr 1; omega
  rw [this, List.drop_drop, show i + (k - i) = k by omega]
theorem sub_len (d : List UInt8) (i j : Nat) (hj : j ≤ d.length) : (sub d i j).length = j - i := by
  simp [sub]; omega
theorem sub_split {d : List UInt8} {i j : Nat} (hij : i ≤ j) (hj : j ≤ d.length) {a b : List UInt8} (h : sub d i j = a ++ b) : ∃ k, i ≤ k ∧ k ≤ j ∧ a = sub d i k ∧ b = sub d k j := by
  have hl := congrArg List.length h
  rw [sub_len d i j hj, List.length_append] at hl
  refine ⟨i + a.length, by omega, by omega, ?_⟩
  have h1 := sub_app d i (i + a.length) j (by omega) (by omega)
  rw [h] at h1
  have h2 : (sub d i (i + a.length)).length = a.length := by rw [sub_len d i _ (by omega)]; omega
  obtain ⟨e1, e2⟩ := List.append_inj h1 h2
  exact ⟨e1.symm, e2.symm⟩
theorem sub_one (d : List UInt8) (i j : Nat) (c : UInt8) (hij : i ≤ j) (hj : j ≤ d.length) (h : sub d i j = [c]) : j = i + 1 ∧ d[i]? = some c := by
  have hl := congrArg List.length h
  rw [sub_len d i j hj] at hl
  simp at hl
  obtain rfl : j = i + 1 := by omega
  refine ⟨rfl, ?_⟩
  have h0 := congrArg (fun l => l[0]?) h
  simpa [sub] using h0
theorem sub_at (d : List UInt8) (i : Nat) (c : UInt8) (h : d[i]? = some c) : sub d i (i + 1) = [c] := by
  have hlt := (List.getElem?_eq_some_iff.1 h).1
  unfold sub
  rw [show i + 1 - i = 1 by omega, List.drop_eq_getElem_cons hlt, (List.getElem?_eq_some_iff.1 h).2]
  rfl
theorem sub_all (d : List UInt8) : sub d 0 d.length = d := by simp [sub]

/-- from places to places, through texts of which p holds -/
def Via (p : List UInt8 → Prop) (d : List UInt8) (f f' : Nat → Bool) : Prop := ∀ j, j ≤ d.length → (f' j = true ↔ ∃ i, i ≤ j ∧ f i = true ∧ p (sub d i j))

theorem Via.seq0 (d : List UInt8) (f : Nat → Bool) : Via (ML []) d f f := by
  intro j hj
  constructor
  · intro h; exact ⟨j, Nat.le_refl _, h, by rw [sub_self]; exact .nil⟩
  · rintro ⟨i, hi, hf, hm⟩
    have : sub d i j = [] := by generalize sub d i j = u at hm; cases hm; rfl
    have hl := congrArg List.length this
    rw [sub_len d i j hj] at hl
    simp at hl
    obtain rfl : i = j := by omega
    exact hf

theorem Via.seq1 {d : List UInt8} {f f1 f2 : Nat → Bool} {l : List PT} {t : PT} (h1 : Via (ML l) d f f1) (h2 : Via (M t) d f1 f2) : Via (ML (l ++ [t])) d f f2 := by
  intro j hj
  rw [h2 j hj]
  constructor
  · rintro ⟨k, hk, hf, hm⟩
    obtain ⟨i, hi, hfi, hmi⟩ := (h1 k (by omega)).1 hf
    exact ⟨i, by omega, hfi, by rw [← sub_app d i k j hi hk]; exact hmi.snoc hm⟩
  · rintro ⟨i, hi, hf, hm⟩
    obtain ⟨a, b, e, ha, hb⟩ := hm.unsnoc
    obtain ⟨k, hk1, hk2, rfl, rfl⟩ := sub_split hi hj e
    exact ⟨k, hk2, (h1 k (by omega)).2 ⟨i, hk1, hf, ha⟩, hb⟩

theorem Via.seqM {d : List UInt8} {f f1 : Nat → Bool} {l : List PT} (h : Via (ML l) d f f1) : Via (M (.seq l)) d f f1 := by
  intro j hj
  rw [h j hj]
  constructor
  · rintro ⟨i, hi, hf, hm⟩; exact ⟨i, hi, hf, .seq hm⟩
  · rintro ⟨i, hi, hf, hm⟩
    refine ⟨i, hi, hf, ?_⟩
    generalize sub d i j = u at hm
    cases hm with | seq h => exact h

theorem Via.alt0 (d : List UInt8) (f : Nat → Bool) : Via (M (.alt [])) d f (fun _ => false) := by
  intro j hj
  simp
  intro i hi hf hm
  generalize sub d i j = u at hm
  cases hm with | alt h _ => cases h

theorem Via.alt1 {d : List UInt8} {f f1 f2 : Nat → Bool} {l : List PT} {t : PT} (h1 : Via (M (.alt l)) d f f1) (h2 : Via (M t) d f f2) : Via (M (.alt (l ++ [t]))) d f (fun j => f1 j || f2 j) := by
  intro j hj
  simp only [Bool.or_eq_true]
  rw [h1 j hj, h2 j hj]
  constructor
  · rintro (⟨i, hi, hf, hm⟩ | ⟨i, hi, hf, hm⟩)
    · refine ⟨i, hi, hf, ?_⟩
      generalize sub d i j = u at hm
      cases hm with | alt h hm => exact .alt (List.mem_append_left _ h) hm
    · exact ⟨i, hi, hf, .alt (by simp) hm⟩
  · rintro ⟨i, hi, hf, hm⟩
    generalize hu : sub d i j = u at hm
    cases hm with
    | alt h hm =>
      subst hu
      rcases List.mem_append.1 h with h | h
      · exact Or.inl ⟨i, hi, hf, .alt h hm⟩
      · obtain rfl := List.mem_singleton.1 h
        exact Or.inr ⟨i, hi, hf, hm⟩

theorem Via.opt {d : List UInt8} {f f1 : Nat → Bool} {t : PT} (h : Via (M t) d f f1) : Via (M (.rep 63 t)) d f (fun j => f j || f1 j) := by
  intro j hj
  simp only [Bool.or_eq_true]
  rw [h j hj]
  constructor
  · rintro (hf | ⟨i, hi, hf, hm⟩)
    · exact ⟨j, Nat.le_refl _, hf, by rw [sub_self]; exact .optN⟩
    · exact ⟨i, hi, hf, .optY hm⟩
  · rintro ⟨i, hi, hf, hm⟩
    generalize hu : sub d i j = u at hm
    cases hm with
    | optN =>
      have hl := congrArg List.length hu
      rw [sub_len d i j hj] at hl
      simp at hl
      obtain rfl : i = j := by omega
      exact Or.inl hf
    | optY hm => subst hu; exact Or.inr ⟨i, hi, hf, hm⟩

/-- one sign -/
theorem Via.chr {d : List UInt8} {f f1 : Nat → Bool} {l : List UInt8} (h0 : f1 0 = false) (h : ∀ i c, d[i]? = some c → f1 (i + 1) = (f i && l.contains c)) : Via (M (.chr l)) d f f1 := by
  intro j hj
  constructor
  · intro hf
    match j, hj, hf with
    | 0, _, hf => rw [h0] at hf; cases hf
    | i + 1, hj, hf =>
      have hc : d[i]? = some d[i] := List.getElem?_eq_getElem (by omega)
      rw [h i _ hc] at hf
      simp only [Bool.and_eq_true, List.contains_iff_mem] at hf
      exact ⟨i, by omega, hf.1, by rw [sub_at d i _ hc]; exact .chr hf.2⟩
  · rintro ⟨i, hi, hf, hm⟩
    generalize hu : sub d i j = u at hm
    cases hm with
    | chr hc =>
      obtain ⟨rfl, hd⟩ := sub_one d i j _ hi hj hu
      rw [h i _ hd, hf]
      simpa using hc

/-- how many places of n are not yet found -/
def miss (n : Nat) (f : Nat → Bool) : Nat := ((List.range n).filter fun j => !f j).length

theorem miss_le {n : Nat} {f f' : Nat → Bool} (h : ∀ j, j < n → f j = true → f' j = true) : miss n f' ≤ miss n f := by
  unfold miss
  induction n with
  | zero => simp
  | succ n ih =>
    have ih := ih (fun j hj => h j (by omega))
    rw [List.range_succ, List.filter_append, List.filter_append, List.length_append, List.length_append]
    have := h n (by omega)
    cases h1 : f n with
    | true => simp [this h1, h1]; exact ih
    | false => cases h2 : f' n <;> simp [h1, h2] <;> omega

theorem miss_lt {n : Nat} {f f' : Nat → Bool} (h : ∀ j, j < n → f j = true → f' j = true) (k : Nat) (hk : k < n) (h1 : f k = false) (h2 : f' k = true) : miss n f' < miss n f := by
  unfold miss
  induction n with
  | zero => omega
  | succ n ih =>
    rw [List.range_succ, List.filter_append, List.filter_append, List.length_append, List.length_append]
    by_cases hkn : k = n
    · subst hkn
      have := miss_le (n := k) (f := f) (f' := f') (fun j hj => h j (by omega))
      unfold miss at this
      simp [h1, h2]
      omega
    · have ih := ih (fun j hj => h j (by omega)) (by omega)
      have := h n (by omega)
      cases h3 : f n with
      | true => simp [this h3, h3]; exact ih
      | false => cases h4 : f' n <;> simp [h3, h4] <;> omega

/-- what holds between two rounds of a row's search; st: is it a star -/
structure RowsInv (st : Bool) (t : PT) (d : List UInt8) (f out at_ : Nat → Bool) : Prop where
  snd : ∀ j, j ≤ d.length → out j = true → ∃ i, i ≤ j ∧ f i = true ∧ (if st then MS t (sub d i j) else M (.rep 43 t) (sub d i j))
  ats : ∀ j, j ≤ d.length → at_ j = true → ∃ i, i ≤ j ∧ f i = true ∧ MS t (sub d i j)
  src : st = true → ∀ j, j ≤ d.length → f j = true → out j = true
  cl : ∀ p, p ≤ d.length → (f p = true ∨ out p = true) → at_ p = true ∨ ∀ k, p ≤ k → k ≤ d.length → M t (sub d p k) → out k = true

theorem RowsInv.start (t : PT) (d : List UInt8) (f : Nat → Bool) : RowsInv true t d f f f where
  snd := fun j _ h => ⟨j, Nat.le_refl _, h, by rw [sub_self]; exact .nil⟩
  ats := fun j _ h => ⟨j, Nat.le_refl _, h, by rw [sub_self]; exact .nil⟩
  src := fun _ _ _ h => h
  cl := fun p _ h => Or.inl (h.elim id id)
theorem RowsInv.plus (t : PT) (d : List UInt8) (f : Nat → Bool) : RowsInv false t d f (fun _ => false) f where
  snd := fun j _ h => by cases h
  ats := fun j _ h => ⟨j, Nat.le_refl _, h, by rw [sub_self]; exact .nil⟩
  src := fun h => by cases h
  cl := fun p _ h => Or.inl (h.elim id (fun h => by cases h))

theorem M.plus_of {t : PT} {u v : List UInt8} (h : MS t u) (hv : M t v) : M (.rep 43 t) (u ++ v) := by
  cases h with
  | nil => simpa using M.plus hv .nil
  | cons h1 h2 =>
    rw [List.append_assoc]
    exact .plus h1 (h2.snoc hv)

theorem RowsInv.step {st : Bool} {t : PT} {d : List UInt8} {f out at_ at1 : Nat → Bool} (h : RowsInv st t d f out at_) (hv : Via (M t) d at_ at1) :
    RowsInv st t d f (fun j => out j || (at1 j && !out j)) (fun j => at1 j && !out j) := by
  have hat1 : ∀ j, j ≤ d.length → at1 j = true → ∃ i, i ≤ j ∧ f i = true ∧ (if st then MS t (sub d i j) else M (.rep 43 t) (sub d i j)) ∧ MS t (sub d i j) := by
    intro j hj hj1
    obtain ⟨k, hk, hk1, hm⟩ := (hv j hj).1 hj1
    obtain ⟨i, hi, hf, hms⟩ := h.ats k (by omega) hk1
    refine ⟨i, by omega, hf, ?_, by rw [← sub_app d i k j hi hk]; exact hms.snoc hm⟩
    rw [← sub_app d i k j hi hk]
    cases st
    · exact M.plus_of hms hm
    · exact hms.snoc hm
  exact {
    snd := by
      intro j hj hj1
      simp only [Bool.or_eq_true, Bool.and_eq_true] at hj1
      rcases hj1 with h1 | ⟨h1, _⟩
      · exact h.snd j hj h1
      · obtain ⟨i, a, b, c, _⟩ := hat1 j hj h1
        exact ⟨i, a, b, c⟩
    ats := by
      intro j hj hj1
      simp only [Bool.and_eq_true] at hj1
      obtain ⟨i, a, b, _, c⟩ := hat1 j hj hj1.1
      exact ⟨i, a, b, c⟩
    src := fun hs j hj hf => by simp [h.src hs j hj hf]
    cl := by
      intro p hp hsrc
      by_cases hnew : (at1 p && !out p) = true
      · exact Or.inl hnew
      · right
        intro k hk1 hk2 hm
        have hp' : f p = true ∨ out p = true := by
          rcases hsrc with h1 | h1
          · exact Or.inl h1
          · simp only [Bool.or_eq_true] at h1
            exact Or.inr (h1.resolve_right hnew)
        rcases h.cl p hp hp' with h1 | h1
        · have : at1 k = true := (hv k hk2).2 ⟨p, hk1, h1, hm⟩
          cases out k <;> simp [this]
        · simp [h1 k hk1 hk2 hm] }

theorem MS.reach {t : PT} {d : List UInt8} {out : Nat → Bool} (hcl : ∀ p k, p ≤ k → k ≤ d.length → out p = true → M t (sub d p k) → out k = true) {v : List UInt8} (h : MS t v) : ∀ p k, p ≤ k → k ≤ d.length → out p = true → sub d p k = v → out k = true := by
  match v, h with
  | _, .nil =>
    intro p k hk hkd hp hs
    have hl := congrArg List.length hs
    rw [sub_len d p k hkd] at hl
    simp at hl
    obtain rfl : p = k := by omega
    exact hp
  | _, .cons (u := u1) (v := u2) h1 h2 =>
    intro p k hk hkd hp hs
    obtain ⟨m, hm1, hm2, e1, e2⟩ := sub_split hk hkd hs
    exact MS.reach hcl h2 m k hm2 hkd (hcl p m hm1 (by omega) hp (e1 ▸ h1)) e2.symm
termination_by structural h

theorem RowsInv.done {st : Bool} {t : PT} {d : List UInt8} {f out at_ : Nat → Bool} (h : RowsInv st t d f out at_) (hno : ∀ j, j ≤ d.length → at_ j = false) : Via (M (.rep (if st then 42 else 43) t)) d f out := by
  have hcl : ∀ p, p ≤ d.length → (f p = true ∨ out p = true) → ∀ k, p ≤ k → k ≤ d.length → M t (sub d p k) → out k = true := by
    intro p hp hs
    rcases h.cl p hp hs with h1 | h1
    · rw [hno p hp] at h1; cases h1
    · exact h1
  have hreach : ∀ (v : List UInt8), MS t v → ∀ p k, p ≤ k → k ≤ d.length → out p = true → sub d p k = v → out k = true :=
    fun v hv => MS.reach (fun p k h1 h2 h3 h4 => hcl p (by omega) (Or.inr h3) k h1 h2 h4) hv
  intro j hj
  constructor
  · intro ho
    obtain ⟨i, hi, hf, hm⟩ := h.snd j hj ho
    refine ⟨i, hi, hf, ?_⟩
    cases st
    · exact hm
    · exact .star hm
  · rintro ⟨i, hi, hf, hm⟩
    cases st with
    | true =>
      simp only [if_true] at hm
      generalize hu : sub d i j = u at hm
      cases hm with | star hm => exact hreach _ hm i j hi hj (h.src rfl i (by omega) hf) hu
    | false =>
      have hm' : M (.rep 43 t) (sub d i j) := hm
      generalize hu : sub d i j = u at hm'
      cases hm' with
      | plus h1 h2 =>
        obtain ⟨m, hm1, hm2, e1, e2⟩ := sub_split hi hj hu
        exact hreach _ h2 m j hm2 hj (hcl i (by omega) (Or.inl hf) m hm1 (by omega) (e1 ▸ h1)) e2.symm

end Go.Proofs.YtlljggefbngkeaaGreatDoor

namespace Go.Proofs.YtlljggefbngkeaaGreatDoor

/-! Lenses: their trees, the reading of them, their plain form, their defaults. -/

/-- a lens's tree. same, fixed: the pattern's branches, and the places of both its slashes; places: of a default's quote, of a ~, of a *, of the items but the first, of the bars -/
inductive LT where
  | same (l : List PT) (i j : Nat)
  | fixed (l : List PT) (i j : Nat) (view dflt : List UInt8) (at_ : Nat)
  | swap (at_ : Nat) (a b : LT)
  | group (a : LT)
  | many (at_ : Nat) (a : LT)
  | row (l : List LT) (ps : List Nat)
  | choice (l : List LT) (ps : List Nat)

/-- one alone stays what it is -/
def joinRow : List LT → List Nat → LT
  | [t], _ => t
  | l, ps => .row l ps
def joinAlt : List LT → List Nat → LT
  | [t], _ => t
  | l, ps => .choice l ps

section
variable (s : ByteArray)

def blankI (c : Int) : Bool := c == 32 || c == 10

/-- behind the blanks, of which there are at most n -/
def skipN : Nat → Nat → Nat
  | 0, i => i
  | n + 1, i => if blankI (pk s i) then skipN n (i + 1) else i

/-- behind the blanks -/
def skipB (i : Nat) : Nat := skipN s (s.size - i) i

/-- behind the signs, of which there are at most n -/
def signsN : Nat → Nat → Nat
  | 0, i => i
  | n + 1, i => if signI (pk s i) then signsN n (i + 1) else i
def signsE (i : Nat) : Nat := signsN s (s.size - i) i

/-- a text in quotes -/
def gQuoted (i : Nat) : Res (List UInt8) :=
  if pk s i = 34 then (if pk s (signsE s (i + 1)) = 34 then .ok (sub s.data.toList (i + 1) (signsE s (i + 1))) (signsE s (i + 1) + 1) else .err (signsE s (i + 1))) else .err i

/-- a pattern, and what stands behind it -/
def gPlain (n i : Nat) : Res LT :=
  (gAlts s n (i + 1)).bind fun l j =>
    if pk s j = 47 then
      (if pk s (skipB s (j + 1)) = 34 then
        (gQuoted s (skipB s (j + 1))).bind fun v k =>
          (gQuoted s (skipB s k)).bind fun d m => .ok (.fixed l i (j + 1) v d (skipB s k)) m
      else .ok (.same l i (j + 1)) (skipB s (j + 1)))
    else .err j

def atPiece (c : Int) : Bool := hasL [47, 126, 40] c

theorem skipN_bd : ∀ n i, i ≤ skipN s n i ∧ skipN s n i ≤ i + n
  | 0, i => by simp [skipN]
  | n + 1, i => by
    rw [skipN]
    split
    · have := skipN_bd n (i + 1); omega
    · omega
theorem skipB_bd (i : Nat) (h : i ≤ s.size) : i ≤ skipB s i ∧ skipB s i ≤ s.size := by
  have := skipN_bd s (s.size - i) i
  unfold skipB
  omega
theorem skipB_step (i : Nat) (h : i < s.size) (hb : blankI (pk s i) = true) : skipB s i = skipB s (i + 1) := by
  unfold skipB
  rw [show s.size - i = (s.size - (i + 1)) + 1 by omega, skipN, if_pos hb]
theorem skipB_stop (i : Nat) (hb : blankI (pk s i) = false) : skipB s i = i := by
  unfold skipB
  cases s.size - i with
  | zero => rfl
  | succ n => rw [skipN, if_neg (by simp [hb])]
theorem signsN_bd : ∀ n i, i ≤ signsN s n i ∧ signsN s n i ≤ i + n
  | 0, i => by simp [signsN]
  | n + 1, i => by
    rw [signsN]
    split
    · have := signsN_bd n (i + 1); omega
    · omega
theorem signsE_bd (i : Nat) (h : i ≤ s.size) : i ≤ signsE s i ∧ signsE s i ≤ s.size := by
  have := signsN_bd s (s.size - i) i
  unfold signsE
  omega
theorem signsE_step (i : Nat) (h : i < s.size) (hb : signI (pk s i) = true) : signsE s i = signsE s (i + 1) := by
  unfold signsE
  rw [show s.size - i = (s.size - (i + 1)) + 1 by omega, signsN, if_pos hb]
theorem signsE_stop (i : Nat) (hb : signI (pk s i) = false) : signsE s i = i := by
  unfold signsE
  cases s.size - i with
  | zero => rfl
  | succ n => rw [signsN, if_neg (by simp [hb])]

mutual
def gPiece : Nat → Nat → Res LT
  | 0, i => .err i
  | n + 1, i =>
    if pk s i = 47 then gPlain s (4 * s.size + 4) i
    else if pk s i = 126 then
      (if pk s (skipB s (i + 1)) = 40 then
        (gRows n (skipB s (i + 1) + 1)).bind fun a j =>
          if pk s j = 44 then (gRows n (j + 1)).bind fun b k => if pk s k = 41 then .ok (.swap i (joinAlt a.1 a.2) (joinAlt b.1 b.2)) (k + 1) else .err k
          else .err j
      else .err (skipB s (i + 1)))
    else if pk s i = 40 then (gRows n (i + 1)).bind fun a j => if pk s j = 41 then .ok (.group (joinAlt a.1 a.2)) (j + 1) else .err j
    else .err i
def gItem : Nat → Nat → Res LT
  | 0, i => .err i
  | n + 1, i => (gPiece n i).bind fun t j => if pk s (skipB s j) = 42 then .ok (.many (skipB s j) t) (skipB s (skipB s j + 1)) else .ok t (skipB s j)
/-- the items, and the places of all but the first -/
def gItems : Nat → Nat → Res (List LT × List Nat)
  | 0, i => .err i
  | n + 1, i => (gItem n i).bind fun t j => if atPiece (pk s j) then (gItems n j).map fun x => (t :: x.1, j :: x.2) else .ok ([t], []) j
/-- the rows, and the places of the bars -/
def gRows : Nat → Nat → Res (List LT × List Nat)
  | 0, i => .err i
  | n + 1, i => (gItems n (skipB s i)).bind fun x j => if pk s j = 124 then (gRows n (j + 1)).map fun y => (joinRow x.1 x.2 :: y.1, j :: y.2) else .ok ([joinRow x.1 x.2], []) j
end

mutual
/-- the plain form -/
def form : LT → List UInt8
  | .same _ i j => sub s.data.toList i j
  | .fixed _ i j v d _ => sub s.data.toList i j ++ (34 :: v ++ [34, 34] ++ d ++ [34])
  | .swap _ a b => [126, 40] ++ form a ++ [44, 32] ++ form b ++ [41]
  | .group a => 40 :: form a ++ [41]
  | .many _ a => form a ++ [42]
  | .row l _ => formL [32] l
  | .choice l _ => formL [32, 124, 32] l
def formL (sep : List UInt8) : List LT → List UInt8
  | [] => []
  | t :: l => form t ++ formT sep l
def formT (sep : List UInt8) : List LT → List UInt8
  | [] => []
  | t :: l => sep ++ form t ++ formT sep l
end
end

mutual
/-- the defaults, in their order: the pattern, the text, the place -/
def dflts : LT → List (List PT × List UInt8 × Nat)
  | .same _ _ _ => []
  | .fixed l _ _ _ d a => [(l, d, a)]
  | .swap _ a b => dflts a ++ dflts b
  | .group a => dflts a
  | .many _ a => dflts a
  | .row l _ => dfltsL l
  | .choice l _ => dfltsL l
def dfltsL : List LT → List (List PT × List UInt8 × Nat)
  | [] => []
  | t :: l => dflts t ++ dfltsL l
end

/-- the place of the first default that is no text of its pattern -/
def FirstW : List (List PT × List UInt8 × Nat) → Option Nat → Prop
  | [], o => o = none
  | (l, d, a) :: r, o => (M (.alt l) d ∧ FirstW r o) ∨ (¬ M (.alt l) d ∧ o = some a)

theorem FirstW.det : ∀ {x : List (List PT × List UInt8 × Nat)} {o o' : Option Nat}, FirstW x o → FirstW x o' → o = o'
  | [], o, o', h, h' => by rw [FirstW] at h h'; rw [h, h']
  | (l, d, a) :: r, o, o', h, h' => by
    rw [FirstW] at h h'
    rcases h with ⟨h1, h2⟩ | ⟨h1, h2⟩ <;> rcases h' with ⟨h3, h4⟩ | ⟨h3, h4⟩
    · exact FirstW.det h2 h4
    · exact absurd h1 h3
    · exact absurd h3 h1
    · rw [h2, h4]

theorem FirstW.app_none : ∀ {x y : List (List PT × List UInt8 × Nat)} {o : Option Nat}, FirstW x none → FirstW y o → FirstW (x ++ y) o
  | [], y, o, _, h => h
  | (l, d, a) :: r, y, o, h, h' => by
    rw [FirstW] at h
    rw [List.cons_append, FirstW]
    rcases h with ⟨h1, h2⟩ | ⟨_, h2⟩
    · exact Or.inl ⟨h1, FirstW.app_none h2 h'⟩
    · cases h2
theorem FirstW.app_some : ∀ {x y : List (List PT × List UInt8 × Nat)} {a : Nat}, FirstW x (some a) → FirstW (x ++ y) (some a)
  | [], y, a, h => by rw [FirstW] at h; cases h
  | (l, d, c) :: r, y, a, h => by
    rw [FirstW] at h
    rw [List.cons_append, FirstW]
    rcases h with ⟨h1, h2⟩ | ⟨h1, h2⟩
    · exact Or.inl ⟨h1, FirstW.app_some h2⟩
    · exact Or.inr ⟨h1, h2⟩

/-- what becomes of the place of the first wrong default -/
def WnRel (wn wn' : Int) (x : List (List PT × List UInt8 × Nat)) : Prop :=
  (wn < 0 → wn = -1 ∧ ∃ o, FirstW x o ∧ wn' = (match o with | none => -1 | some a => (a : Int))) ∧ (0 ≤ wn → wn' = wn)

theorem WnRel.nil {wn : Int} (h : -1 ≤ wn) : WnRel wn wn [] := ⟨fun h1 => ⟨by omega, none, rfl, by show wn = -1; omega⟩, fun _ => rfl⟩
theorem WnRel.app {a b c : Int} {x y : List (List PT × List UInt8 × Nat)} (h : WnRel a b x) (k : WnRel b c y) : WnRel a c (x ++ y) := by
  refine ⟨fun ha => ?_, fun ha => ?_⟩
  · obtain ⟨h0, o, ho, hb⟩ := h.1 ha
    refine ⟨h0, ?_⟩
    cases o with
    | none =>
      simp only at hb
      obtain ⟨_, o', ho', hc⟩ := k.1 (by omega)
      exact ⟨o', ho.app_none ho', hc⟩
    | some p =>
      simp only at hb
      exact ⟨some p, ho.app_some, by rw [k.2 (by omega), hb]⟩
  · rw [k.2 (by rw [h.2 ha]; exact ha), h.2 ha]

end Go.Proofs.YtlljggefbngkeaaGreatDoor

namespace Go.Proofs.YtlljggefbngkeaaGreatDoor

/-! The tree as the program keeps it: a row or a choice of one part is that part. -/

def pSeq : List PT → PT
  | [t] => t
  | l => .seq l
def pAlt : List PT → PT
  | [t] => t
  | l => .alt l

mutual
def nf : PT → PT
  | .chr l => .chr l
  | .seq l => pSeq (nfL l)
  | .alt l => pAlt (nfL l)
  | .rep c t => .rep c (nf t)
def nfL : List PT → List PT
  | [] => []
  | t :: l => nf t :: nfL l
end

theorem nfL_app : ∀ (l k : List PT), nfL (l ++ k) = nfL l ++ nfL k
  | [], k => by rw [nfL]; rfl
  | t :: l, k => by rw [List.cons_append, nfL, nfL, nfL_app l k]; rfl
theorem nfL_length : ∀ (l : List PT), (nfL l).length = l.length
  | [] => by rw [nfL]
  | t :: l => by rw [nfL, List.length_cons, List.length_cons, nfL_length l]

theorem M_pSeq (l : List PT) (u : List UInt8) : M (pSeq l) u ↔ ML l u := by
  have gen : ∀ l, M (.seq l) u ↔ ML l u := fun l => ⟨fun h => by cases h; assumption, .seq⟩
  match l with
  | [] => exact gen []
  | [t] =>
    constructor
    · intro h
      change M t u at h
      have := ML.cons (l := []) h .nil
      simpa using this
    · intro h
      cases h with
      | cons h1 h2 => cases h2; simpa [pSeq] using h1
  | t :: t2 :: l => exact gen _

theorem M_pAlt (l : List PT) (u : List UInt8) : M (pAlt l) u ↔ ∃ t, t ∈ l ∧ M t u := by
  have gen : ∀ l, M (.alt l) u ↔ ∃ t, t ∈ l ∧ M t u := fun l => ⟨fun h => by cases h with | alt h1 h2 => exact ⟨_, h1, h2⟩, fun ⟨t, h1, h2⟩ => .alt h1 h2⟩
  match l with
  | [] => exact gen []
  | [t] =>
    constructor
    · intro h; exact ⟨t, by simp, h⟩
    · rintro ⟨x, h1, h2⟩
      simp at h1
      subst h1
      exact h2
  | t :: t2 :: l => exact gen _

theorem MS.to {t t' : PT} (H : ∀ u, M t u → M t' u) {u : List UInt8} (h : MS t u) : MS t' u := by
  match u, h with
  | _, .nil => exact .nil
  | _, .cons (u := u1) (v := u2) h1 h2 => exact .cons (H _ h1) (MS.to H h2)
termination_by structural h

theorem rep_to {c : Int} {t t' : PT} (H : ∀ u, M t u → M t' u) {u : List UInt8} (h : M (.rep c t) u) : M (.rep c t') u := by
  cases h with
  | star h => exact .star (h.to H)
  | plus h1 h2 => exact .plus (H _ h1) (h2.to H)
  | optN => exact .optN
  | optY h => exact .optY (H _ h)

mutual
theorem M_nf : ∀ (t : PT) (u : List UInt8), M (nf t) u ↔ M t u
  | .chr l, u => by rw [nf]
  | .seq l, u => by
    rw [nf, M_pSeq]
    exact (ML_nf l u).trans ⟨.seq, fun h => by cases h; assumption⟩
  | .alt l, u => by
    rw [nf, M_pAlt]
    exact (MA_nf l u).trans ⟨fun ⟨t, h1, h2⟩ => .alt h1 h2, fun h => by cases h with | alt h1 h2 => exact ⟨_, h1, h2⟩⟩
  | .rep c t, u => by
    rw [nf]
    exact ⟨rep_to (fun v h => (M_nf t v).1 h), rep_to (fun v h => (M_nf t v).2 h)⟩
theorem ML_nf : ∀ (l : List PT) (u : List UInt8), ML (nfL l) u ↔ ML l u
  | [], u => by rw [nfL]
  | t :: l, u => by
    rw [nfL]
    constructor
    · intro h; cases h with | cons h1 h2 => exact .cons ((M_nf t _).1 h1) ((ML_nf l _).1 h2)
    · intro h; cases h with | cons h1 h2 => exact .cons ((M_nf t _).2 h1) ((ML_nf l _).2 h2)
theorem MA_nf : ∀ (l : List PT) (u : List UInt8), (∃ t, t ∈ nfL l ∧ M t u) ↔ ∃ t, t ∈ l ∧ M t u
  | [], u => by rw [nfL]
  | t :: l, u => by
    rw [nfL]
    have h0 := M_nf t u
    have h1 := MA_nf l u
    simp only [List.mem_cons, exists_eq_or_imp]
    rw [h0, h1]
end

end Go.Proofs.YtlljggefbngkeaaGreatDoor

namespace Go.Proofs.YtlljggefbngkeaaGreatDoor
open Go.RowKit

/-! In how many ways (2: two or more) a place is come to by steps: as glassref's ways counts. -/

/-- the table behind the first m places -/
def wtab (E : Nat → Nat → Bool) : Nat → Nat → Nat
  | 0, j => if j = 0 then 1 else 0
  | m + 1, j => if m < j ∧ E m j = true then min 2 (wtab E m j + wtab E m m) else wtab E m j

/-- a way to place j: the places before it, the last one first -/
def Pt (E : Nat → Nat → Bool) : Nat → List Nat → Prop
  | j, [] => j = 0
  | j, i :: l => i < j ∧ E i j = true ∧ Pt E i l

/-- its last step is from a place below m -/
def Ptm (E : Nat → Nat → Bool) (m j : Nat) (l : List Nat) : Prop := Pt E j l ∧ ∀ i r, l = i :: r → i < m

theorem Ptm.self {E : Nat → Nat → Bool} {j : Nat} {l : List Nat} (h : Pt E j l) : Ptm E j j l := ⟨h, fun i r e => by subst e; exact h.1⟩
theorem Ptm.up {E : Nat → Nat → Bool} {m j : Nat} {l : List Nat} (h : Ptm E m j l) : Ptm E (m + 1) j l := ⟨h.1, fun i r e => Nat.lt_succ_of_lt (h.2 i r e)⟩
theorem Ptm.down {E : Nat → Nat → Bool} {m j : Nat} {l : List Nat} (h : Ptm E (m + 1) j l) : Ptm E m j l ∨ ∃ r, l = m :: r ∧ m < j ∧ E m j = true ∧ Ptm E m m r := by
  match l, h with
  | [], h => exact .inl ⟨h.1, fun i r e => by cases e⟩
  | i :: r, h =>
    have hi := h.2 i r rfl
    by_cases e : i = m
    · subst e
      exact .inr ⟨r, rfl, h.1.1, h.1.2.1, Ptm.self h.1.2.2⟩
    · exact .inl ⟨h.1, fun i' r' e' => by injection e' with e1 _; omega⟩

theorem wtab_le (E : Nat → Nat → Bool) : ∀ m j, wtab E m j ≤ 2
  | 0, j => by rw [wtab]; split <;> omega
  | m + 1, j => by
    have := wtab_le E m j
    rw [wtab]
    split
    · exact Nat.min_le_left ..
    · exact this

theorem wtab_spec (E : Nat → Nat → Bool) : ∀ m j, (1 ≤ wtab E m j ↔ ∃ l, Ptm E m j l) ∧ (2 ≤ wtab E m j ↔ ∃ l l', l ≠ l' ∧ Ptm E m j l ∧ Ptm E m j l')
  | 0, j => by
    have key : ∀ l, Ptm E 0 j l ↔ j = 0 ∧ l = [] := fun l => by
      match l with
      | [] => exact ⟨fun h => ⟨h.1, rfl⟩, fun h => ⟨h.1, fun i r e => by cases e⟩⟩
      | i :: r => exact ⟨fun h => absurd (h.2 i r rfl) (Nat.not_lt_zero _), fun h => absurd h.2 (by simp)⟩
    rw [wtab]
    constructor
    · constructor
      · intro h
        refine ⟨[], (key []).2 ⟨?_, rfl⟩⟩
        by_cases e : j = 0
        · exact e
        · rw [if_neg e] at h
          omega
      · rintro ⟨l, hl⟩
        rw [if_pos ((key l).1 hl).1]
        exact Nat.le_refl _
    · constructor
      · intro h
        split at h <;> omega
      · rintro ⟨l, l', hn, h1, h2⟩
        exact absurd (((key l).1 h1).2.trans ((key l').1 h2).2.symm) hn
  | m + 1, j => by
    obtain ⟨a1, a2⟩ := wtab_spec E m j
    obtain ⟨b1, b2⟩ := wtab_spec E m m
    rw [wtab]
    by_cases hE : m < j ∧ E m j = true
    · rw [if_pos hE]
      have up : ∀ r, Ptm E m m r → Ptm E (m + 1) j (m :: r) := fun r hr => ⟨⟨hE.1, hE.2, hr.1⟩, fun i r' e => by injection e with e1 _; omega⟩
      have ne : ∀ l r, Ptm E m j l → l ≠ m :: r := fun l r hl e => by have := hl.2 m r e; omega
      constructor
      · constructor
        · intro h
          have h' : 1 ≤ wtab E m j ∨ 1 ≤ wtab E m m := by omega
          rcases h' with h' | h'
          · obtain ⟨l, hl⟩ := a1.1 h'
            exact ⟨l, hl.up⟩
          · obtain ⟨r, hr⟩ := b1.1 h'
            exact ⟨_, up r hr⟩
        · rintro ⟨l, hl⟩
          rcases hl.down with hl | ⟨r, _, _, _, hr⟩
          · have := a1.2 ⟨l, hl⟩
            omega
          · have := b1.2 ⟨r, hr⟩
            omega
      · constructor
        · intro h
          have h' : 2 ≤ wtab E m j ∨ 2 ≤ wtab E m m ∨ (1 ≤ wtab E m j ∧ 1 ≤ wtab E m m) := by omega
          rcases h' with h' | h' | ⟨h', h''⟩
          · obtain ⟨l, l', hn, h1, h2⟩ := a2.1 h'
            exact ⟨l, l', hn, h1.up, h2.up⟩
          · obtain ⟨l, l', hn, h1, h2⟩ := b2.1 h'
            exact ⟨_, _, fun e => hn (by injection e), up l h1, up l' h2⟩
          · obtain ⟨l, hl⟩ := a1.1 h'
            obtain ⟨r, hr⟩ := b1.1 h''
            exact ⟨l, _, ne l r hl, hl.up, up r hr⟩
        · rintro ⟨l, l', hn, h1, h2⟩
          rcases h1.down with h1 | ⟨r, e1, _, _, hr⟩
          · rcases h2.down with h2 | ⟨r', e2, _, _, hr'⟩
            · have := a2.2 ⟨l, l', hn, h1, h2⟩
              omega
            · have := a1.2 ⟨l, h1⟩
              have := b1.2 ⟨r', hr'⟩
              omega
          · rcases h2.down with h2 | ⟨r', e2, _, _, hr'⟩
            · have := a1.2 ⟨l', h2⟩
              have := b1.2 ⟨r, hr⟩
              omega
            · have := b2.2 ⟨r, r', fun e => hn (by rw [e1, e2, e]), hr, hr'⟩
              omega
    · rw [if_neg hE]
      have same : ∀ l, Ptm E (m + 1) j l ↔ Ptm E m j l := fun l => ⟨fun h => by
        rcases h.down with h | ⟨r, _, h1, h2, _⟩
        · exact h
        · exact absurd ⟨h1, h2⟩ hE, Ptm.up⟩
      simp only [same]
      exact ⟨a1, a2⟩

/-- two or more: two ways that differ -/
theorem wtab_two (E : Nat → Nat → Bool) (n : Nat) : 2 ≤ wtab E n n ↔ ∃ l l', l ≠ l' ∧ Pt E n l ∧ Pt E n l' := by
  rw [(wtab_spec E n n).2]
  exact ⟨fun ⟨l, l', h, h1, h2⟩ => ⟨l, l', h, h1.1, h2.1⟩, fun ⟨l, l', h, h1, h2⟩ => ⟨l, l', h, Ptm.self h1, Ptm.self h2⟩⟩

end Go.Proofs.YtlljggefbngkeaaGreatDoor
