import Derived.Test.YtlljggefbngkeaaGreatDoorV43
import Derived.Test.YtlljggefbngkeaaGreatDoorV33
import Derived.Test.YtlljggefbngkeaaGreatDoorV18
namespace Go.Proofs.YtlljggefbngkeaaGreatDoor
open Go.RowKit Go.Shelf

/-! What the laws of whole.go call: alive, known, refuses; and Check and Print in the words of these laws. -/

mutual
/-- each joint has a place -/
theorem joints_place : ∀ t : LT, NOk t → ∀ x, x ∈ joints_ t → ∃ p, (placesOf x.1)[x.2]? = some p
  | .same l i j, h, x, hx => by rw [joints_] at hx; cases hx
  | .fixed l i j v d a, h, x, hx => by rw [joints_] at hx; cases hx
  | .swap p a b, h, x, hx => by
    rw [joints_, List.mem_cons, List.mem_append] at hx
    rcases hx with rfl | hx | hx
    · exact ⟨p, rfl⟩
    · exact joints_place a (h.part (by simp [parts])) x hx
    · exact joints_place b (h.part (by simp [parts])) x hx
  | .group a, h, x, hx => by
    rw [joints_] at hx
    exact joints_place a (h.part (by simp [parts])) x hx
  | .many p a, h, x, hx => by
    rw [joints_, List.mem_append, List.mem_singleton] at hx
    rcases hx with hx | rfl
    · exact joints_place a (h.part (by simp [parts])) x hx
    · exact ⟨p, rfl⟩
  | .row l ps, h, x, hx => by
    have h0 : ps.length + 1 = l.length := h.self
    rw [joints_, mem_joints_row] at hx
    rcases hx with ⟨u, hu, hx⟩ | ⟨m, hm, rfl⟩
    · exact joints_placeL l (fun t ht => h.part ht) u hu x hx
    · exact ⟨_, List.getElem?_eq_getElem (show m < ps.length by omega)⟩
  | .choice l ps, h, x, hx => by
    have h0 : ps.length + 1 = l.length := h.self
    rw [joints_, mem_joints_row] at hx
    rcases hx with ⟨u, hu, hx⟩ | ⟨m, hm, rfl⟩
    · exact joints_placeL l (fun t ht => h.part ht) u hu x hx
    · exact ⟨_, List.getElem?_eq_getElem (show m < ps.length by omega)⟩
theorem joints_placeL : ∀ (l : List LT), (∀ t, t ∈ l → NOk t) → ∀ u, u ∈ l → ∀ x, x ∈ joints_ u → ∃ p, (placesOf x.1)[x.2]? = some p
  | [], h, u, hu => by cases hu
  | t :: l, h, u, hu => by
    rcases List.mem_cons.1 hu with e | hu
    · rw [e]; exact joints_place t (h t List.mem_cons_self)
    · exact joints_placeL l (fun t ht => h t (List.mem_cons_of_mem _ ht)) u hu
end
theorem good_of {s : ByteArray} {t : LT} (h : TreeOf s t) (hw : NoW (toB t)) : LGood s t := by
  refine ⟨h, fun x hx u hu => ?_⟩
  obtain ⟨p, hp⟩ := joints_place t (tree_wf h).1 x hx
  obtain ⟨c, hc, _, hb⟩ := ref_link t (tree_wf h).1 x hx p hp u hu
  exact hw c hc u hb
theorem pairs_good : LGood pairsB pairsT := good_of pairs_tree pairs_now

theorem GetR.of_good {s : ByteArray} {u r : List UInt8} {c : Int} {t : LT} (h : GetR s u r c) (hG : LGood s t) : (60 < u.length ∧ r = [] ∧ c = 1) ∨ (u.length ≤ 60 ∧ M (bS (toB t)) u ∧ r = getF (toB t) u ∧ c = 0) ∨ (u.length ≤ 60 ∧ ¬ M (bS (toB t)) u ∧ r = [] ∧ c = 5) := by
  rcases h with ⟨h1, h2⟩ | ⟨t', h1, h2⟩
  · exact (h1.not hG).elim
  · rw [hG.det h1]; exact h2
theorem MakeR.of_good {s : ByteArray} {u r : List UInt8} {c : Int} {t : LT} (h : MakeR s u r c) (hG : LGood s t) : (60 < u.length ∧ r = [] ∧ c = 1) ∨ (u.length ≤ 60 ∧ M (bV (toB t)) u ∧ r = makeF (toB t) u ∧ c = 0) ∨ (u.length ≤ 60 ∧ ¬ M (bV (toB t)) u ∧ r = [] ∧ c = 6) := by
  rcases h with ⟨h1, h2⟩ | ⟨t', h1, h2⟩
  · exact (h1.not hG).elim
  · rw [hG.det h1]; exact h2
theorem PutR.of_good {s : ByteArray} {v u r : List UInt8} {c : Int} {t : LT} (h : PutR s v u r c) (hG : LGood s t) : ((60 < v.length ∨ 60 < u.length) ∧ r = [] ∧ c = 1) ∨ (v.length ≤ 60 ∧ u.length ≤ 60 ∧ ((M (bV (toB t)) v ∧ M (bS (toB t)) u ∧ r = putF (toB t) v u ∧ c = 0) ∨ (¬ M (bV (toB t)) v ∧ r = [] ∧ c = 6) ∨ (M (bV (toB t)) v ∧ ¬ M (bS (toB t)) u ∧ r = [] ∧ c = 5))) := by
  rcases h with ⟨h1, h2⟩ | ⟨t', h1, h2⟩
  · exact (h1.not hG).elim
  · rw [hG.det h1]; exact h2
theorem GetR.bad {s : ByteArray} {u r : List UInt8} {c c0 : Int} (h : GetR s u r c) (hB : LBad s c0) : c0 = c ∧ r = [] := by
  rcases h with ⟨h1, h2⟩ | ⟨t', h1, h2⟩
  · exact ⟨hB.det h1, h2⟩
  · exact (hB.not h1).elim
theorem PutR.bad {s : ByteArray} {v u r : List UInt8} {c c0 : Int} (h : PutR s v u r c) (hB : LBad s c0) : c0 = c ∧ r = [] := by
  rcases h with ⟨h1, h2⟩ | ⟨t', h1, h2⟩
  · exact ⟨hB.det h1, h2⟩
  · exact (hB.not h1).elim

set_option maxHeartbeats 400000 in
theorem known_said (x : Int) (w : World) (h0 : 0 ≤ x) (h1 : x ≤ 100) : Calls Tryz.prog 26 #[.int .i64 x] w fun e w' => e = .returned (.bool (decide (x = 0))) ∧ w' = w := by
  have HN := hide (lnumz x w h0 h1)
  go_enter Tryz.func26, Tryz.ntmps26
  go_wp2_with fail
  refine (unhide HN).mono ?_
  rintro e w1 ⟨rfl, rfl⟩
  go_wp2
  go_ret
  refine ⟨?_, rfl⟩
  by_cases hx : x = 0
  · subst hx; rfl
  · have h2 : (x == 0) = false := by simpa using hx
    have h3 : decide (x = 0) = false := by simpa using hx
    rw [h3]
    simp [h2]
theorem known_yes (w : World) : Calls Tryz.prog 26 #[.int .i64 0] w fun e w' => e = .returned (.bool true) ∧ w' = w := known_said 0 w (by omega) (by omega)
theorem known_no (x : Int) (w : World) (h0 : 0 ≤ x) (h1 : x ≤ 100) (hx : ¬ x = 0) : Calls Tryz.prog 26 #[.int .i64 x] w fun e w' => e = .returned (.bool false) ∧ w' = w := by
  have := known_said x w h0 h1
  rw [show decide (x = 0) = false by simpa using hx] at this
  exact this

/-- what Check answers -/
def ChkR (s : ByteArray) (c : Int) : Prop := LBad s c ∨ (c = 0 ∧ ∃ t, LGood s t)
theorem check_call (s : ByteArray) (w : World) (hm : s.size ≤ maxLen) (hTab : Tab w) :
    Calls Tryz.prog 14 #[.string s] w fun e w' => (∃ c a b, ChkR s c ∧ e = .returned (.tuple #[.int .i64 c, .int .i64 a, .string b])) ∧ K0 w w' := by
  refine (check_said s w hm hTab).mono ?_
  rintro e w1 ⟨hg, (⟨c, p, h1, hc, rfl⟩ | ⟨t, h1, (⟨t', n, p, u, q1, q2, q3, q4, rfl⟩ | ⟨q, rfl⟩)⟩)⟩
  · exact ⟨⟨c, _, _, .inl (.inl ⟨p, h1, hc⟩), rfl⟩, K0.of_grownz hg⟩
  · exact ⟨⟨4, _, _, .inl (.inr ⟨rfl, t, h1, (t', n), u, q1, q3⟩), rfl⟩, K0.of_grownz hg⟩
  · exact ⟨⟨0, _, _, .inr ⟨rfl, t, h1, q⟩, rfl⟩, K0.of_grownz hg⟩


set_option maxRecDepth 100000 in
set_option maxHeartbeats 1600000 in
/-- the document's example -/
theorem alive_said (w : World) (hTab : Tab w) : Calls Tryz.prog 24 #[] w fun e w' => e = .returned (.bool true) ∧ K0 w w' := by
  have hsz : pairsB.size ≤ maxLen := by unfold maxLen; decide
  have HG : Hid (Calls Tryz.prog 15 #[.string ⟨#[47, 91, 97, 45, 122, 93, 43, 47, 32, 47, 61, 47, 34, 58, 34, 34, 61, 34, 32, 47, 91, 48, 45, 57, 93, 42, 47, 32, 47, 59, 47, 34, 34, 32, 34, 59, 34]⟩, .string ⟨#[97, 98, 61, 49, 50, 59]⟩] w fun e w' => e = .returned (.tuple #[.string ⟨#[97, 98, 58, 49, 50]⟩, .int .i64 0]) ∧ K0 w w') := hide ((get_call pairsB [97, 98, 61, 49, 50, 59] w hsz (by unfold maxLen; simp) hTab).mono (fun e w' h => by
    obtain ⟨⟨r, c, hR, rfl⟩, hk⟩ := h
    rcases hR.of_good pairs_good with ⟨h1, _⟩ | ⟨_, _, rfl, rfl⟩ | ⟨_, h1, _⟩
    · simp at h1
    · exact ⟨by rw [pairs_get]; rfl, hk⟩
    · exact absurd pairs_src h1))
  have HP : Hid (∀ V, K0 w V → Calls Tryz.prog 19 #[.string ⟨#[47, 91, 97, 45, 122, 93, 43, 47, 32, 47, 61, 47, 34, 58, 34, 34, 61, 34, 32, 47, 91, 48, 45, 57, 93, 42, 47, 32, 47, 59, 47, 34, 34, 32, 34, 59, 34]⟩, .string ⟨#[99, 58, 55]⟩, .string ⟨#[97, 98, 61, 49, 50, 59]⟩] V fun e w' => e = .returned (.tuple #[.string ⟨#[99, 61, 55, 59]⟩, .int .i64 0]) ∧ K0 V w') := hide (fun V hV => (put_call pairsB [99, 58, 55] [97, 98, 61, 49, 50, 59] V hsz (by unfold maxLen; simp) (by unfold maxLen; simp) (hTab.k0 hV)).mono (fun e w' h => by
    obtain ⟨⟨r, c, hR, rfl⟩, hk⟩ := h
    rcases hR.of_good pairs_good with ⟨h1, _⟩ | ⟨_, _, ⟨_, _, rfl, rfl⟩ | ⟨h1, _⟩ | ⟨_, h1, _⟩⟩
    · simp at h1
    · exact ⟨by rw [pairs_put]; rfl, hk⟩
    · exact absurd pairs_vw h1
    · exact absurd pairs_src h1))
  have HM : Hid (∀ V, K0 w V → Calls Tryz.prog 22 #[.string ⟨#[47, 91, 97, 45, 122, 93, 43, 47, 32, 47, 61, 47, 34, 58, 34, 34, 61, 34, 32, 47, 91, 48, 45, 57, 93, 42, 47, 32, 47, 59, 47, 34, 34, 32, 34, 59, 34]⟩, .string ⟨#[99, 58, 55]⟩] V fun e w' => e = .returned (.tuple #[.string ⟨#[99, 61, 55, 59]⟩, .int .i64 0]) ∧ K0 V w') := hide (fun V hV => (make_call pairsB [99, 58, 55] V hsz (by unfold maxLen; simp) (hTab.k0 hV)).mono (fun e w' h => by
    obtain ⟨⟨r, c, hR, rfl⟩, hk⟩ := h
    rcases hR.of_good pairs_good with ⟨h1, _⟩ | ⟨_, _, rfl, rfl⟩ | ⟨_, h1, _⟩
    · simp at h1
    · exact ⟨by rw [pairs_make]; rfl, hk⟩
    · exact absurd pairs_vw h1))
  have HK := hide known_yes
  clear hTab hsz
  go_enter Tryz.func24, Tryz.ntmps24
  go_wp2_with fail
  refine (unhide HG).mono ?_
  rintro e w1 ⟨rfl, hk1⟩
  go_wp2_with fail
  refine (unhide HP _ hk1).mono ?_
  rintro e w2 ⟨rfl, hk2⟩
  have hk12 := hk1.trans hk2
  go_wp2_with fail
  refine (unhide HM _ hk12).mono ?_
  rintro e w3 ⟨rfl, hk3⟩
  go_wp2_with fail
  refine (unhide HK _).mono ?_
  rintro e w4 ⟨rfl, rfl⟩
  go_wp2_with fail
  refine (unhide HK _).mono ?_
  rintro e w4 ⟨rfl, rfl⟩
  go_wp2_with fail
  refine (unhide HK _).mono ?_
  rintro e w4 ⟨rfl, rfl⟩
  go_wp2
  go_ret
  exact ⟨rfl, hk12.trans hk3⟩

end Go.Proofs.YtlljggefbngkeaaGreatDoor

namespace Go.Proofs.YtlljggefbngkeaaGreatDoor
open Go.RowKit Go.Shelf


end Go.Proofs.YtlljggefbngkeaaGreatDoor

namespace Go.Proofs.YtlljggefbngkeaaGreatDoor
open Go.RowKit Go.Shelf


end Go.Proofs.YtlljggefbngkeaaGreatDoor

namespace Go.Proofs.YtlljggefbngkeaaGreatDoor
open Go.RowKit Go.Shelf


end Go.Proofs.YtlljggefbngkeaaGreatDoor

namespace Go.Proofs.YtlljggefbngkeaaGreatDoor
open Go.RowKit Go.Shelf



end Go.Proofs.YtlljggefbngkeaaGreatDoor
