import Derived.WalkKit
namespace Go.Proofs.YtlljggefbngkeaaGreatDoor

/-! The grammar of the document, as functions on places of a text: what both readers are held against. -/

/-- a pattern's tree: one sign of a list; one behind the other; one of several; repeated (42, 43, 63) -/
inductive PT where
  | chr (l : List UInt8)
  | seq (l : List PT)
  | alt (l : List PT)
  | rep (c : Int) (t : PT)

/-- what a reader answers: a value and the place behind it; or the place of the byte that cannot stand there -/
inductive Res (α : Type) where
  | ok (a : α) (j : Nat)
  | err (p : Nat)

def Res.bind {α β : Type} (r : Res α) (f : α → Nat → Res β) : Res β :=
  match r with
  | .ok a j => f a j
  | .err p => .err p

def Res.map {α β : Type} (f : α → β) (r : Res α) : Res β :=
  match r with
  | .ok a j => .ok (f a) j
  | .err p => .err p

theorem Res.map_map {α β γ : Type} (f : α → β) (g : β → γ) (r : Res α) : (r.map f).map g = r.map (fun a => g (f a)) := by cases r <;> rfl

/-- a byte lies between two others -/
def withinB (c lo hi : Int) : Bool := decide (lo ≤ c) && decide (c ≤ hi)

/-- is a byte among those of a text -/
def hasL (l : List UInt8) (c : Int) : Bool := l.any fun x => (x.toNat : Int) == c

/-- the signs of the document -/
def signI (c : Int) : Bool := withinB c 97 122 || withinB c 48 57 || hasL [61, 44, 59, 58, 95] c

section
variable (s : ByteArray)

/-- the byte at a place; 0: the end -/
def pk (i : Nat) : Int := if h : i < s.size then (s[i].toNat : Int) else 0

/-- the signs from one byte on, below another -/
def uptoN (a k : Nat) : List UInt8 := ((List.range' a (k - a)).filter (fun c : Nat => signI (c : Int))).map UInt8.ofNat
/-- the signs from one byte to another -/
def upto (a b : Int) : List UInt8 := uptoN a.toNat (b.toNat + 1)

/-- behind a bracket: spans, and the closing bracket -/
def gSpans : Nat → Nat → List UInt8 → Res (List UInt8)
  | 0, i, _ => .err i
  | n + 1, i, l =>
    if signI (pk s i) then
      if pk s (i + 1) = 45 then
        if signI (pk s (i + 2)) && decide (pk s i ≤ pk s (i + 2)) then
          (if pk s (i + 3) = 93 then .ok (l ++ upto (pk s i) (pk s (i + 2))) (i + 4) else gSpans n (i + 3) (l ++ upto (pk s i) (pk s (i + 2))))
        else .err (i + 2)
      else (if pk s (i + 1) = 93 then .ok (l ++ upto (pk s i) (pk s i)) (i + 2) else gSpans n (i + 1) (l ++ upto (pk s i) (pk s i)))
    else .err i

/-- a sign of repetition behind a base -/
def gRep (t : PT) (j : Nat) : PT × Nat :=
  if pk s j = 42 ∨ pk s j = 43 ∨ pk s j = 63 then (.rep (pk s j) t, j + 1) else (t, j)

def atBase (c : Int) : Bool := decide (c = 91) || decide (c = 40) || signI c

mutual
def gBase : Nat → Nat → Res PT
  | 0, i => .err i
  | n + 1, i =>
    if pk s i = 91 then (gSpans s n (i + 1) []).map .chr
    else if pk s i = 40 then
      (gAlts n (i + 1)).bind fun l j => if pk s j = 41 then .ok (.alt l) (j + 1) else .err j
    else if signI (pk s i) then .ok (.chr [UInt8.ofNat (pk s i).toNat]) (i + 1)
    else .err i
def gBranch : Nat → Nat → Res (List PT)
  | 0, i => .err i
  | n + 1, i =>
    if atBase (pk s i) then
      (gBase n i).bind fun t j => (gBranch n (gRep s t j).2).map fun l => (gRep s t j).1 :: l
    else .ok [] i
def gAlts : Nat → Nat → Res (List PT)
  | 0, i => .err i
  | n + 1, i =>
    (gBranch n i).bind fun b j => if pk s j = 124 then (gAlts n (j + 1)).map fun l => .seq b :: l else .ok [.seq b] j
end
end

theorem uptoN_self (a : Nat) : uptoN a a = [] := by simp [uptoN]

theorem uptoN_yes (a k : Nat) (h : a ≤ k) (hs : signI (k : Int) = true) : uptoN a (k + 1) = uptoN a k ++ [UInt8.ofNat k] := by
  unfold uptoN
  rw [show k + 1 - a = (k - a) + 1 by omega, List.range'_concat]
  simp only [List.filter_append, List.map_append]
  rw [show a + 1 * (k - a) = k by omega]
  simp [hs]


theorem uptoN_length (a k : Nat) : (uptoN a k).length ≤ k - a := by
  unfold uptoN
  rw [List.length_map]
  refine Nat.le_trans (List.length_filter_le _ _) ?_
  simp

end Go.Proofs.YtlljggefbngkeaaGreatDoor

namespace Go.Proofs.YtlljggefbngkeaaGreatDoor

/-! The texts of a pattern, and the places at which one can end. -/
mutual
inductive M : PT → List UInt8 → Prop
  | chr {l : List UInt8} {c : UInt8} : c ∈ l → M (.chr l) [c]
  | seq {l : List PT} {u : List UInt8} : ML l u → M (.seq l) u
  | alt {l : List PT} {t : PT} {u : List UInt8} : t ∈ l → M t u → M (.alt l) u
  | star {t : PT} {u : List UInt8} : MS t u → M (.rep 42 t) u
  | plus {t : PT} {u v : List UInt8} : M t u → MS t v → M (.rep 43 t) (u ++ v)
  | optN {t : PT} : M (.rep 63 t) []
  | optY {t : PT} {u : List UInt8} : M t u → M (.rep 63 t) u
inductive ML : List PT → List UInt8 → Prop
  | nil : ML [] []
  | cons {t : PT} {l : List PT} {u v : List UInt8} : M t u → ML l v → ML (t :: l) (u ++ v)
inductive MS : PT → List UInt8 → Prop
  | nil {t : PT} : MS t []
  | cons {t : PT} {u v : List UInt8} : M t u → MS t v → MS t (u ++ v)
end




/-- the text between two places -/
def sub (d : List UInt8) (i j : Nat) : List UInt8 := (d.drop i).take (j - i)

theorem sub_self (d : List UInt8) (i : Nat) : sub d i i = [] := by simp [sub]
theorem sub_app (d : List UInt8) (i k j : Nat) (h1 : i ≤ k) (h2 : k ≤ j) : sub d i k ++ sub d k j = sub d i j := by
  unfold sub
  have : (d.drop i).take (j - i) = (d.drop i).take (k - i) ++ ((d.drop i).drop (k - i)).take (j - k) := by
    rw [← List.take_add]; congr 1; omega
  rw [this, List.drop_drop, show i + (k - i) = k by omega]
theorem sub_len (d : List UInt8) (i j : Nat) (hj : j ≤ d.length) : (sub d i j).length = j - i := by
  simp [sub]; omega
theorem sub_at (d : List UInt8) (i : Nat) (c : UInt8) (h : d[i]? = some c) : sub d i (i + 1) = [c] := by
  have hlt := (List.getElem?_eq_some_iff.1 h).1
  unfold sub
  rw [show i + 1 - i = 1 by omega, List.drop_eq_getElem_cons hlt, (List.getElem?_eq_some_iff.1 h).2]
  rfl
theorem sub_all (d : List UInt8) : sub d 0 d.length = d := by simp [sub]


















end Go.Proofs.YtlljggefbngkeaaGreatDoor

namespace Go.Proofs.YtlljggefbngkeaaGreatDoor

/-! Lenses: their trees, the reading of them, their plain form, their defaults. -/

/-- a lens's tree. same, fixed: the pattern's branches, and the places of both its slashes; places: of a default's quote, of a ~, of a *, of the items but the first, of the bars -/
inductive LT where
  | same (l : List PT) (i j : Nat)
  | fixed (l : List PT) (i j : Nat) (view dflt : List UInt8) (at_ : Nat)
  | swap (at_ : Nat) (a b : LT)
  | group (a : LT)
  | many (at_ : Nat) (a : LT)
  | row (l : List LT) (ps : List Nat)
  | choice (l : List LT) (ps : List Nat)

/-- one alone stays what it is -/
def joinRow : List LT → List Nat → LT
  | [t], _ => t
  | l, ps => .row l ps
def joinAlt : List LT → List Nat → LT
  | [t], _ => t
  | l, ps => .choice l ps

section
variable (s : ByteArray)

def blankI (c : Int) : Bool := c == 32 || c == 10

/-- behind the blanks, of which there are at most n -/
def skipN : Nat → Nat → Nat
  | 0, i => i
  | n + 1, i => if blankI (pk s i) then skipN n (i + 1) else i

/-- behind the blanks -/
def skipB (i : Nat) : Nat := skipN s (s.size - i) i

/-- behind the signs, of which there are at most n -/
def signsN : Nat → Nat → Nat
  | 0, i => i
  | n + 1, i => if signI (pk s i) then signsN n (i + 1) else i
def signsE (i : Nat) : Nat := signsN s (s.size - i) i

/-- a text in quotes -/
def gQuoted (i : Nat) : Res (List UInt8) :=
  if pk s i = 34 then (if pk s (signsE s (i + 1)) = 34 then .ok (sub s.data.toList (i + 1) (signsE s (i + 1))) (signsE s (i + 1) + 1) else .err (signsE s (i + 1))) else .err i

/-- a pattern, and what stands behind it -/
def gPlain (n i : Nat) : Res LT :=
  (gAlts s n (i + 1)).bind fun l j =>
    if pk s j = 47 then
      (if pk s (skipB s (j + 1)) = 34 then
        (gQuoted s (skipB s (j + 1))).bind fun v k =>
          (gQuoted s (skipB s k)).bind fun d m => .ok (.fixed l i (j + 1) v d (skipB s k)) m
      else .ok (.same l i (j + 1)) (skipB s (j + 1)))
    else .err j

def atPiece (c : Int) : Bool := hasL [47, 126, 40] c

theorem skipN_bd : ∀ n i, i ≤ skipN s n i ∧ skipN s n i ≤ i + n
  | 0, i => by simp [skipN]
  | n + 1, i => by
    rw [skipN]
    split
    · have := skipN_bd n (i + 1); omega
    · omega
theorem skipB_bd (i : Nat) (h : i ≤ s.size) : i ≤ skipB s i ∧ skipB s i ≤ s.size := by
  have := skipN_bd s (s.size - i) i
  unfold skipB
  omega
theorem skipB_step (i : Nat) (h : i < s.size) (hb : blankI (pk s i) = true) : skipB s i = skipB s (i + 1) := by
  unfold skipB
  rw [show s.size - i = (s.size - (i + 1)) + 1 by omega, skipN, if_pos hb]
theorem skipB_stop (i : Nat) (hb : blankI (pk s i) = false) : skipB s i = i := by
  unfold skipB
  cases s.size - i with
  | zero => rfl
  | succ n => rw [skipN, if_neg (by simp [hb])]
theorem signsN_bd : ∀ n i, i ≤ signsN s n i ∧ signsN s n i ≤ i + n
  | 0, i => by simp [signsN]
  | n + 1, i => by
    rw [signsN]
    split
    · have := signsN_bd n (i + 1); omega
    · omega
theorem signsE_bd (i : Nat) (h : i ≤ s.size) : i ≤ signsE s i ∧ signsE s i ≤ s.size := by
  have := signsN_bd s (s.size - i) i
  unfold signsE
  omega
theorem signsE_step (i : Nat) (h : i < s.size) (hb : signI (pk s i) = true) : signsE s i = signsE s (i + 1) := by
  unfold signsE
  rw [show s.size - i = (s.size - (i + 1)) + 1 by omega, signsN, if_pos hb]
theorem signsE_stop (i : Nat) (hb : signI (pk s i) = false) : signsE s i = i := by
  unfold signsE
  cases s.size - i with
  | zero => rfl
  | succ n => rw [signsN, if_neg (by simp [hb])]

mutual
def gPiece : Nat → Nat → Res LT
  | 0, i => .err i
  | n + 1, i =>
    if pk s i = 47 then gPlain s (4 * s.size + 4) i
    else if pk s i = 126 then
      (if pk s (skipB s (i + 1)) = 40 then
        (gRows n (skipB s (i + 1) + 1)).bind fun a j =>
          if pk s j = 44 then (gRows n (j + 1)).bind fun b k => if pk s k = 41 then .ok (.swap i (joinAlt a.1 a.2) (joinAlt b.1 b.2)) (k + 1) else .err k
          else .err j
      else .err (skipB s (i + 1)))
    else if pk s i = 40 then (gRows n (i + 1)).bind fun a j => if pk s j = 41 then .ok (.group (joinAlt a.1 a.2)) (j + 1) else .err j
    else .err i
def gItem : Nat → Nat → Res LT
  | 0, i => .err i
  | n + 1, i => (gPiece n i).bind fun t j => if pk s (skipB s j) = 42 then .ok (.many (skipB s j) t) (skipB s (skipB s j + 1)) else .ok t (skipB s j)
/-- the items, and the places of all but the first -/
def gItems : Nat → Nat → Res (List LT × List Nat)
  | 0, i => .err i
  | n + 1, i => (gItem n i).bind fun t j => if atPiece (pk s j) then (gItems n j).map fun x => (t :: x.1, j :: x.2) else .ok ([t], []) j
/-- the rows, and the places of the bars -/
def gRows : Nat → Nat → Res (List LT × List Nat)
  | 0, i => .err i
  | n + 1, i => (gItems n (skipB s i)).bind fun x j => if pk s j = 124 then (gRows n (j + 1)).map fun y => (joinRow x.1 x.2 :: y.1, j :: y.2) else .ok ([joinRow x.1 x.2], []) j
end

mutual
/-- the plain form -/
def form : LT → List UInt8
  | .same _ i j => sub s.data.toList i j
  | .fixed _ i j v d _ => sub s.data.toList i j ++ (34 :: v ++ [34, 34] ++ d ++ [34])
  | .swap _ a b => [126, 40] ++ form a ++ [44, 32] ++ form b ++ [41]
  | .group a => 40 :: form a ++ [41]
  | .many _ a => form a ++ [42]
  | .row l _ => formL [32] l
  | .choice l _ => formL [32, 124, 32] l
def formL (sep : List UInt8) : List LT → List UInt8
  | [] => []
  | t :: l => form t ++ formT sep l
def formT (sep : List UInt8) : List LT → List UInt8
  | [] => []
  | t :: l => sep ++ form t ++ formT sep l
end
end

mutual
/-- the defaults, in their order: the pattern, the text, the place -/
def dflts : LT → List (List PT × List UInt8 × Nat)
  | .same _ _ _ => []
  | .fixed l _ _ _ d a => [(l, d, a)]
  | .swap _ a b => dflts a ++ dflts b
  | .group a => dflts a
  | .many _ a => dflts a
  | .row l _ => dfltsL l
  | .choice l _ => dfltsL l
def dfltsL : List LT → List (List PT × List UInt8 × Nat)
  | [] => []
  | t :: l => dflts t ++ dfltsL l
end

/-- the place of the first default that is no text of its pattern -/
def FirstW : List (List PT × List UInt8 × Nat) → Option Nat → Prop
  | [], o => o = none
  | (l, d, a) :: r, o => (M (.alt l) d ∧ FirstW r o) ∨ (¬ M (.alt l) d ∧ o = some a)

theorem FirstW.det : ∀ {x : List (List PT × List UInt8 × Nat)} {o o' : Option Nat}, FirstW x o → FirstW x o' → o = o'
  | [], o, o', h, h' => by rw [FirstW] at h h'; rw [h, h']
  | (l, d, a) :: r, o, o', h, h' => by
    rw [FirstW] at h h'
    rcases h with ⟨h1, h2⟩ | ⟨h1, h2⟩ <;> rcases h' with ⟨h3, h4⟩ | ⟨h3, h4⟩
    · exact FirstW.det h2 h4
    · exact absurd h1 h3
    · exact absurd h3 h1
    · rw [h2, h4]

theorem FirstW.app_none : ∀ {x y : List (List PT × List UInt8 × Nat)} {o : Option Nat}, FirstW x none → FirstW y o → FirstW (x ++ y) o
  | [], y, o, _, h => h
  | (l, d, a) :: r, y, o, h, h' => by
    rw [FirstW] at h
    rw [List.cons_append, FirstW]
    rcases h with ⟨h1, h2⟩ | ⟨_, h2⟩
    · exact Or.inl ⟨h1, FirstW.app_none h2 h'⟩
    · cases h2
theorem FirstW.app_some : ∀ {x y : List (List PT × List UInt8 × Nat)} {a : Nat}, FirstW x (some a) → FirstW (x ++ y) (some a)
  | [], y, a, h => by rw [FirstW] at h; cases h
  | (l, d, c) :: r, y, a, h => by
    rw [FirstW] at h
    rw [List.cons_append, FirstW]
    rcases h with ⟨h1, h2⟩ | ⟨h1, h2⟩
    · exact Or.inl ⟨h1, FirstW.app_some h2⟩
    · exact Or.inr ⟨h1, h2⟩



end Go.Proofs.YtlljggefbngkeaaGreatDoor

namespace Go.Proofs.YtlljggefbngkeaaGreatDoor

/-! The tree as the program keeps it: a row or a choice of one part is that part. -/

def pSeq : List PT → PT
  | [t] => t
  | l => .seq l
def pAlt : List PT → PT
  | [t] => t
  | l => .alt l

mutual
def nf : PT → PT
  | .chr l => .chr l
  | .seq l => pSeq (nfL l)
  | .alt l => pAlt (nfL l)
  | .rep c t => .rep c (nf t)
def nfL : List PT → List PT
  | [] => []
  | t :: l => nf t :: nfL l
end

theorem nfL_app : ∀ (l k : List PT), nfL (l ++ k) = nfL l ++ nfL k
  | [], k => by rw [nfL]; rfl
  | t :: l, k => by rw [List.cons_append, nfL, nfL, nfL_app l k]; rfl

theorem M_pSeq (l : List PT) (u : List UInt8) : M (pSeq l) u ↔ ML l u := by
  have gen : ∀ l, M (.seq l) u ↔ ML l u := fun l => ⟨fun h => by cases h; assumption, .seq⟩
  match l with
  | [] => exact gen []
  | [t] =>
    constructor
    · intro h
      change M t u at h
      have := ML.cons (l := []) h .nil
      simpa using this
    · intro h
      cases h with
      | cons h1 h2 => cases h2; simpa [pSeq] using h1
  | t :: t2 :: l => exact gen _

theorem M_pAlt (l : List PT) (u : List UInt8) : M (pAlt l) u ↔ ∃ t, t ∈ l ∧ M t u := by
  have gen : ∀ l, M (.alt l) u ↔ ∃ t, t ∈ l ∧ M t u := fun l => ⟨fun h => by cases h with | alt h1 h2 => exact ⟨_, h1, h2⟩, fun ⟨t, h1, h2⟩ => .alt h1 h2⟩
  match l with
  | [] => exact gen []
  | [t] =>
    constructor
    · intro h; exact ⟨t, by simp, h⟩
    · rintro ⟨x, h1, h2⟩
      simp at h1
      subst h1
      exact h2
  | t :: t2 :: l => exact gen _

theorem MS.to {t t' : PT} (H : ∀ u, M t u → M t' u) {u : List UInt8} (h : MS t u) : MS t' u := by
  match u, h with
  | _, .nil => exact .nil
  | _, .cons (u := u1) (v := u2) h1 h2 => exact .cons (H _ h1) (MS.to H h2)
termination_by structural h

theorem rep_to {c : Int} {t t' : PT} (H : ∀ u, M t u → M t' u) {u : List UInt8} (h : M (.rep c t) u) : M (.rep c t') u := by
  cases h with
  | star h => exact .star (h.to H)
  | plus h1 h2 => exact .plus (H _ h1) (h2.to H)
  | optN => exact .optN
  | optY h => exact .optY (H _ h)

mutual
theorem M_nf : ∀ (t : PT) (u : List UInt8), M (nf t) u ↔ M t u
  | .chr l, u => by rw [nf]
  | .seq l, u => by
    rw [nf, M_pSeq]
    exact (ML_nf l u).trans ⟨.seq, fun h => by cases h; assumption⟩
  | .alt l, u => by
    rw [nf, M_pAlt]
    exact (MA_nf l u).trans ⟨fun ⟨t, h1, h2⟩ => .alt h1 h2, fun h => by cases h with | alt h1 h2 => exact ⟨_, h1, h2⟩⟩
  | .rep c t, u => by
    rw [nf]
    exact ⟨rep_to (fun v h => (M_nf t v).1 h), rep_to (fun v h => (M_nf t v).2 h)⟩
theorem ML_nf : ∀ (l : List PT) (u : List UInt8), ML (nfL l) u ↔ ML l u
  | [], u => by rw [nfL]
  | t :: l, u => by
    rw [nfL]
    constructor
    · intro h; cases h with | cons h1 h2 => exact .cons ((M_nf t _).1 h1) ((ML_nf l _).1 h2)
    · intro h; cases h with | cons h1 h2 => exact .cons ((M_nf t _).2 h1) ((ML_nf l _).2 h2)
theorem MA_nf : ∀ (l : List PT) (u : List UInt8), (∃ t, t ∈ nfL l ∧ M t u) ↔ ∃ t, t ∈ l ∧ M t u
  | [], u => by rw [nfL]
  | t :: l, u => by
    rw [nfL]
    have h0 := M_nf t u
    have h1 := MA_nf l u
    simp only [List.mem_cons, exists_eq_or_imp]
    rw [h0, h1]
end

end Go.Proofs.YtlljggefbngkeaaGreatDoor

namespace Go.Proofs.YtlljggefbngkeaaGreatDoor
open Go.RowKit


/-- a way to place j: the places before it, the last one first -/
def Pt (E : Nat → Nat → Bool) : Nat → List Nat → Prop
  | j, [] => j = 0
  | j, i :: l => i < j ∧ E i j = true ∧ Pt E i l






end Go.Proofs.YtlljggefbngkeaaGreatDoor
