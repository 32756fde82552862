import Derived.Test.YtlljggefbngkeaaGreatDoorV05
import Derived.Test.YtlljggefbngkeaaGreatDoorV01
import Derived.Deep.RegionWith
import Derived.Deep.RegionHeld3
import Derived.BigRegion
namespace Go.Proofs.YtlljggefbngkeaaGreatDoor
open Go.RowKit


mutual
/-- the ends of such a tree lie in a row of their own -/
def fresh : PT → Bool
  | .chr _ => true
  | .seq l => freshL l
  | .alt _ => true
  | .rep _ _ => true
def freshL : List PT → Bool
  | [] => false
  | t :: l => fresh t || freshL l
end

mutual
/-- what is repeated has ends of its own -/
def wf : PT → Bool
  | .chr l => decide (l.length ≤ 100000)
  | .seq l => wfL l
  | .alt l => wfL l
  | .rep _ t => fresh t && wf t
def wfL : List PT → Bool
  | [] => true
  | t :: l => wf t && wfL l
end



theorem own_slice {w : World} {base : Nat} {e : TypeId} {size : Nat} {v : Value} {n : Nat} {xs : List Value} (h : w.ownsRow base e size v n xs) : ∃ ao cp, v = .slice ao n cp := by
  rcases h.2 with ⟨h1, h2⟩ | ⟨g, cap, cur, h1, _⟩
  · subst h2; exact ⟨none, 0, h1⟩
  · exact ⟨_, cap, h1⟩










end Go.Proofs.YtlljggefbngkeaaGreatDoor

namespace Go.Proofs.YtlljggefbngkeaaGreatDoor
open Go.RowKit









end Go.Proofs.YtlljggefbngkeaaGreatDoor

namespace Go.Proofs.YtlljggefbngkeaaGreatDoor
open Go.RowKit







end Go.Proofs.YtlljggefbngkeaaGreatDoor

namespace Go.Proofs.YtlljggefbngkeaaGreatDoor
open Go.RowKit










end Go.Proofs.YtlljggefbngkeaaGreatDoor

namespace Go.Proofs.YtlljggefbngkeaaGreatDoor
open Go.RowKit





end Go.Proofs.YtlljggefbngkeaaGreatDoor

namespace Go.Proofs.YtlljggefbngkeaaGreatDoor
open Go.RowKit

theorem txt_sub (s : ByteArray) (i j : Nat) : txt (sub s.data.toList i j) = s.extract i j := by
  apply ByteArray.ext
  rw [ByteArray.data_extract]
  apply Array.ext'
  simp only [txt, sub, Array.toList_extract, List.extract_eq_take_drop]



end Go.Proofs.YtlljggefbngkeaaGreatDoor

namespace Go.Proofs.YtlljggefbngkeaaGreatDoor
open Go.RowKit







end Go.Proofs.YtlljggefbngkeaaGreatDoor

namespace Go.Proofs.YtlljggefbngkeaaGreatDoor
open Go.RowKit



mutual
/-- the signs of repetition are the three -/
def okRep : PT → Prop
  | .chr _ => True
  | .seq l => okRepL l
  | .alt l => okRepL l
  | .rep c t => (c = 42 ∨ c = 43 ∨ c = 63) ∧ okRep t
def okRepL : List PT → Prop
  | [] => True
  | t :: l => okRep t ∧ okRepL l
end



theorem gSpans_len (s : ByteArray) : ∀ n i (l0 l : List UInt8) j, gSpans s n i l0 = .ok l j → l.length + 300 * i ≤ l0.length + 300 * j ∧ j ≤ s.size
  | 0, i, l0, l, j, h => by rw [gSpans] at h; cases h
  | n + 1, i, l0, l, j, h => by
    rw [gSpans] at h
    by_cases h1 : signI (pk s i) = true
    · rw [if_pos h1] at h
      have b0 := signI_bd h1
      by_cases h2 : pk s (i + 1) = 45
      · rw [if_pos h2] at h
        by_cases h3 : (signI (pk s (i + 2)) && decide (pk s i ≤ pk s (i + 2))) = true
        · rw [if_pos h3] at h
          simp only [Bool.and_eq_true] at h3
          have b2 := signI_bd h3.1
          have hu := uptoN_length (pk s i).toNat ((pk s (i + 2)).toNat + 1)
          have hl : (l0 ++ upto (pk s i) (pk s (i + 2))).length ≤ l0.length + 256 := by rw [List.length_append]; unfold upto; omega
          by_cases h4 : pk s (i + 3) = 93
          · rw [if_pos h4] at h
            cases h
            have : i + 3 < s.size := pk_lt (by rw [h4]; decide)
            omega
          · rw [if_neg h4] at h
            have := gSpans_len s n _ _ _ _ h
            omega
        · rw [if_neg h3] at h; cases h
      · rw [if_neg h2] at h
        have hu := uptoN_length (pk s i).toNat ((pk s i).toNat + 1)
        have hl : (l0 ++ upto (pk s i) (pk s i)).length ≤ l0.length + 256 := by rw [List.length_append]; unfold upto; omega
        by_cases h4 : pk s (i + 1) = 93
        · rw [if_pos h4] at h
          cases h
          have : i + 1 < s.size := pk_lt (by rw [h4]; decide)
          omega
        · rw [if_neg h4] at h
          have := gSpans_len s n _ _ _ _ h
          omega
    · rw [if_neg h1] at h; cases h

mutual
theorem gBase_wf (s : ByteArray) (hs : s.size ≤ 120) : ∀ n i (t : PT) j, gBase s n i = .ok t j → wf t = true ∧ fresh t = true ∧ okRep t
  | 0, i, t, j, h => by rw [gBase] at h; cases h
  | n + 1, i, t, j, h => by
    rw [gBase] at h
    by_cases h1 : pk s i = 91
    · rw [if_pos h1] at h
      cases hg : gSpans s n (i + 1) [] with
      | err p => rw [hg] at h; cases h
      | ok l k =>
        rw [hg] at h
        cases h
        have := gSpans_len s n _ _ _ _ hg
        simp at this
        exact ⟨by rw [wf]; simp; omega, by rw [fresh], by rw [okRep]; trivial⟩
    · rw [if_neg h1] at h
      by_cases h2 : pk s i = 40
      · rw [if_pos h2] at h
        cases hg : gAlts s n (i + 1) with
        | err p => rw [hg] at h; cases h
        | ok l k =>
          rw [hg] at h
          have hw := gAlts_wf s hs n _ _ _ hg
          simp only [Res.bind] at h
          by_cases h3 : pk s k = 41
          · rw [if_pos h3] at h
            cases h
            exact ⟨by rw [wf]; exact hw.1, by rw [fresh], by rw [okRep]; exact hw.2⟩
          · rw [if_neg h3] at h; cases h
      · rw [if_neg h2] at h
        by_cases h3 : signI (pk s i) = true
        · rw [if_pos h3] at h
          cases h
          exact ⟨by rw [wf]; rfl, by rw [fresh], by rw [okRep]; trivial⟩
        · rw [if_neg h3] at h; cases h
theorem gBranch_wf (s : ByteArray) (hs : s.size ≤ 120) : ∀ n i (l : List PT) j, gBranch s n i = .ok l j → wfL l = true ∧ okRepL l
  | 0, i, l, j, h => by rw [gBranch] at h; cases h
  | n + 1, i, l, j, h => by
    rw [gBranch] at h
    by_cases h1 : atBase (pk s i) = true
    · rw [if_pos h1] at h
      cases hg : gBase s n i with
      | err p => rw [hg] at h; cases h
      | ok t k =>
        rw [hg] at h
        simp only [Res.bind] at h
        have ht := gBase_wf s hs n _ _ _ hg
        cases hb : gBranch s n (gRep s t k).2 with
        | err p => rw [hb] at h; cases h
        | ok l' k' =>
          rw [hb] at h
          cases h
          have hl := gBranch_wf s hs n _ _ _ hb
          rw [wfL, okRepL]
          unfold gRep
          by_cases hr : pk s k = 42 ∨ pk s k = 43 ∨ pk s k = 63
          · rw [if_pos hr]
            exact ⟨by rw [wf]; simp [ht.1, ht.2.1, hl.1], by rw [okRep]; exact ⟨hr, ht.2.2⟩, hl.2⟩
          · rw [if_neg hr]
            exact ⟨by simp [ht.1, hl.1], ht.2.2, hl.2⟩
    · rw [if_neg h1] at h
      cases h
      rw [wfL, okRepL]; exact ⟨rfl, trivial⟩
theorem gAlts_wf (s : ByteArray) (hs : s.size ≤ 120) : ∀ n i (l : List PT) j, gAlts s n i = .ok l j → wfL l = true ∧ okRepL l
  | 0, i, l, j, h => by rw [gAlts] at h; cases h
  | n + 1, i, l, j, h => by
    rw [gAlts] at h
    cases hg : gBranch s n i with
    | err p => rw [hg] at h; cases h
    | ok br k =>
      rw [hg] at h
      simp only [Res.bind] at h
      have hb := gBranch_wf s hs n _ _ _ hg
      by_cases h1 : pk s k = 124
      · rw [if_pos h1] at h
        cases ha : gAlts s n (k + 1) with
        | err p => rw [ha] at h; cases h
        | ok l' k' =>
          rw [ha] at h
          cases h
          have hl := gAlts_wf s hs n _ _ _ ha
          rw [wfL, okRepL, wf, okRep]
          exact ⟨by simp [hb.1, hl.1], hb.2, hl.2⟩
      · rw [if_neg h1] at h
        cases h
        rw [wfL, okRepL, wf, okRep, wfL, okRepL]
        exact ⟨by simp [hb.1], hb.2, trivial⟩
end

theorem gQuoted_form {s : ByteArray} {i j : Nat} {v : List UInt8} (h : gQuoted s i = .ok v j) : i < j ∧ j ≤ s.size ∧ v.length ≤ s.size ∧ sub s.data.toList i j = 34 :: v ++ [34] := by
  unfold gQuoted at h
  by_cases h1 : pk s i = 34
  · rw [if_pos h1] at h
    by_cases h2 : pk s (signsE s (i + 1)) = 34
    · rw [if_pos h2] at h
      cases h
      have hi : i < s.size := pk_lt (by rw [h1]; decide)
      have he : signsE s (i + 1) < s.size := pk_lt (by rw [h2]; decide)
      have hb := signsE_bd s (i + 1) hi
      have hq : ∀ k, pk s k = 34 → s.data.toList[k]? = some 34 := by
        intro k hk
        have hks : k < s.size := pk_lt (by rw [hk]; decide)
        unfold pk at hk
        rw [dif_pos hks] at hk
        have e : s[k] = 34 := UInt8.toNat.inj (by show s[k].toNat = 34; omega)
        rw [List.getElem?_eq_getElem (by simpa using hks)]
        exact congrArg some e
      refine ⟨by omega, he, ?_, ?_⟩
      · rw [sub_len _ _ _ (by simpa using Nat.le_of_lt he)]; omega
      · rw [← sub_app _ i (i + 1) _ (by omega) (by omega), ← sub_app _ (i + 1) (signsE s (i + 1)) _ hb.1 (by omega), sub_at _ i 34 (hq i h1), sub_at _ _ 34 (hq _ h2)]
        rfl
    · rw [if_neg h2] at h; cases h
  · rw [if_neg h1] at h; cases h




end Go.Proofs.YtlljggefbngkeaaGreatDoor

namespace Go.Proofs.YtlljggefbngkeaaGreatDoor
open Go.RowKit

/-! A lens as the reference lays it: of two, of one, of none; and where its nodes lie. -/

inductive BT where
  | pat (t : PT)
  | key (t : PT) (v d : List UInt8)
  | two (kd : Int) (at_ : Nat) (a b : BT)
  | star (at_ : Nat) (a : BT)

/-- the pattern of its sources -/
def bS : BT → PT
  | .pat t => t
  | .key t _ _ => t
  | .two kd _ a b => if kd = 124 then .alt [bS a, bS b] else .seq [bS a, bS b]
  | .star _ a => .rep 42 (bS a)
/-- the pattern of its views -/
def bV : BT → PT
  | .pat t => t
  | .key _ v _ => .alt [.seq (v.map fun c => .chr [c])]
  | .two kd _ a b => if kd = 124 then .alt [bV a, bV b] else if kd = 126 then .seq [bV b, bV a] else .seq [bV a, bV b]
  | .star _ a => .rep 42 (bV a)
/-- a lens and those within it -/
def bsubs : BT → List BT
  | .pat t => [.pat t]
  | .key t v d => [.key t v d]
  | .two kd p a b => .two kd p a b :: (bsubs a ++ bsubs b)
  | .star p a => .star p a :: bsubs a
theorem bsubs_self (b : BT) : b ∈ bsubs b := by cases b <;> simp [bsubs]













mutual
/-- a lens's tree, as the reference lays it -/
def toB : LT → BT
  | .same l _ _ => .pat (.alt l)
  | .fixed l _ _ v d _ => .key (.alt l) v d
  | .swap p a b => .two 126 p (toB a) (toB b)
  | .group a => toB a
  | .many p a => .star p (toB a)
  | .row l ps => rowB 114 l ps
  | .choice l ps => rowB 124 l ps
def rowB (kd : Int) : List LT → List Nat → BT
  | [], _ => .pat (.seq [])
  | t :: l, ps => rowG kd (toB t) l ps
def rowG (kd : Int) : BT → List LT → List Nat → BT
  | c, [], _ => c
  | c, t :: l, ps => rowG kd (.two kd (ps.headD 0) c (toB t)) l ps.tail
end

theorem rowG_snoc (kd : Int) (t : LT) (j : Nat) : ∀ (l : List LT) (c : BT) (ps : List Nat), ps.length = l.length → rowG kd c (l ++ [t]) (ps ++ [j]) = .two kd j (rowG kd c l ps) (toB t)
  | [], c, ps, h => by
    obtain rfl : ps = [] := List.eq_nil_of_length_eq_zero h
    simp [rowG]
  | u :: l, c, ps, h => by
    match ps, h with
    | p :: ps, h =>
      rw [List.cons_append, List.cons_append, rowG, rowG]
      exact rowG_snoc kd t j l _ ps (by simpa using h)
theorem rowB_snoc (kd : Int) (t : LT) (j : Nat) (l : List LT) (ps : List Nat) (h : ps.length + 1 = l.length) : rowB kd (l ++ [t]) (ps ++ [j]) = .two kd j (rowB kd l ps) (toB t) := by
  match l, h with
  | u :: l, h => rw [List.cons_append, rowB, rowB]; exact rowG_snoc kd t j l _ ps (by simpa using h)
theorem rowB_one (kd : Int) (t : LT) (ps : List Nat) : rowB kd [t] ps = toB t := by rw [rowB, rowG]


end Go.Proofs.YtlljggefbngkeaaGreatDoor

namespace Go.Proofs.YtlljggefbngkeaaGreatDoor
open Go.RowKit



theorem txt_app (a c : List UInt8) : txt (a ++ c) = txt a ++ txt c := by
  apply ByteArray.ext; simp [txt, ByteArray.data_append]


end Go.Proofs.YtlljggefbngkeaaGreatDoor

namespace Go.Proofs.YtlljggefbngkeaaGreatDoor
open Go.RowKit

section
variable {w : World} {Y : Nat → Prop} {b : Nat} {s : ByteArray} {p : Nat} {c : Int}








end




end Go.Proofs.YtlljggefbngkeaaGreatDoor

namespace Go.Proofs.YtlljggefbngkeaaGreatDoor
open Go.RowKit

theorem form_joinAlt (s : ByteArray) : ∀ (l : List LT) (ps : List Nat), form s (joinAlt l ps) = formL s [32, 124, 32] l
  | [], ps => by rw [joinAlt, form] <;> simp
  | [t], ps => by rw [joinAlt, formL, formT]; simp
  | t :: u :: l, ps => by rw [joinAlt, form]; simp
theorem dflts_joinAlt : ∀ (l : List LT) (ps : List Nat), dflts (joinAlt l ps) = dfltsL l
  | [], ps => by rw [joinAlt, dflts] <;> simp
  | [t], ps => by rw [joinAlt, dfltsL, dfltsL]; simp
  | t :: u :: l, ps => by rw [joinAlt, dflts]; simp






section
variable (s : ByteArray) (n i : Nat)
end


end Go.Proofs.YtlljggefbngkeaaGreatDoor

namespace Go.Proofs.YtlljggefbngkeaaGreatDoor
open Go.RowKit





end Go.Proofs.YtlljggefbngkeaaGreatDoor

namespace Go.Proofs.YtlljggefbngkeaaGreatDoor
open Go.RowKit





end Go.Proofs.YtlljggefbngkeaaGreatDoor

namespace Go.Proofs.YtlljggefbngkeaaGreatDoor
open Go.RowKit




end Go.Proofs.YtlljggefbngkeaaGreatDoor

namespace Go.Proofs.YtlljggefbngkeaaGreatDoor
open Go.RowKit







end Go.Proofs.YtlljggefbngkeaaGreatDoor

namespace Go.Proofs.YtlljggefbngkeaaGreatDoor
open Go.RowKit


def fstAt (q : Nat → Bool) : Nat → Int
  | 0 => -1
  | m + 1 => if q m = true ∧ fstAt q m < 0 then (m : Int) else fstAt q m

theorem fstAt_bd (q : Nat → Bool) : ∀ m, -1 ≤ fstAt q m ∧ fstAt q m < (m : Int)
  | 0 => by rw [fstAt]; omega
  | m + 1 => by
    have := fstAt_bd q m
    rw [fstAt]
    split <;> omega

/-- the places at which d is parted -/
def Parted (ta tb : PT) (d : List UInt8) (q : Nat → Bool) : Prop := ∀ i, q i = true ↔ M ta (sub d 0 i) ∧ M tb (sub d i d.length)



end Go.Proofs.YtlljggefbngkeaaGreatDoor

namespace Go.Proofs.YtlljggefbngkeaaGreatDoor
open Go.RowKit







end Go.Proofs.YtlljggefbngkeaaGreatDoor

namespace Go.Proofs.YtlljggefbngkeaaGreatDoor
open Go.RowKit

/-- the table that ways reckons by -/
def Steps2 (t : PT) (d : List UInt8) (E : Nat → Nat → Bool) : Prop := ∀ i j, E i j = true ↔ M t (sub d i j)
theorem steps2_ex (t : PT) (d : List UInt8) : ∃ E, Steps2 t d E := by
  classical
  exact ⟨fun i j => decide (M t (sub d i j)), fun i j => by simp⟩


end Go.Proofs.YtlljggefbngkeaaGreatDoor

namespace Go.Proofs.YtlljggefbngkeaaGreatDoor
open Go.RowKit



end Go.Proofs.YtlljggefbngkeaaGreatDoor
