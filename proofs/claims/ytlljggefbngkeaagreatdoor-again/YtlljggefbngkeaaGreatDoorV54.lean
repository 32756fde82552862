import Derived.Test.YtlljggefbngkeaaGreatDoorV43
import Derived.Test.YtlljggefbngkeaaGreatDoorV33
import Derived.Test.YtlljggefbngkeaaGreatDoorV18
import Derived.Test.YtlljggefbngkeaaGreatDoorV44
import Derived.Test.YtlljggefbngkeaaGreatDoorV45
import Derived.Test.YtlljggefbngkeaaGreatDoorV52
import Derived.Test.YtlljggefbngkeaaGreatDoorV53
namespace Go.Proofs.YtlljggefbngkeaaGreatDoor
open Go.RowKit Go.Shelf

theorem good_or {s : ByteArray} {t : LT} (h : TreeOf s t) : LGood s t ∨ LBad s 4 := by
  rcases Classical.em (∃ x u, x ∈ joints_ t ∧ JWit x.1 x.2 u) with hw | hw
  · exact .inr (.inr ⟨rfl, t, h, hw⟩)
  · exact .inl ⟨h, fun x hx u hu => hw ⟨x, u, hx, hu⟩⟩






end Go.Proofs.YtlljggefbngkeaaGreatDoor

namespace Go.Proofs.YtlljggefbngkeaaGreatDoor
open Go.RowKit Go.Shelf

/-- what Print answers -/
def PrR (s : ByteArray) (r : List UInt8) (c : Int) : Prop := (∃ p, ErrOut s c p ∧ (c = 1 ∨ c = 2 ∨ c = 3) ∧ r = []) ∨ (∃ t, TreeOf s t ∧ r = form s t ∧ r.length ≤ 480 ∧ c = 0)
theorem print_call (s : ByteArray) (w : World) (hm : s.size ≤ maxLen) :
    Calls Tryz.prog 27 #[.string s] w fun e w' => (∃ r c a, PrR s r c ∧ e = .returned (.tuple #[.string (txt r), .int .i64 c, .int .i64 a])) ∧ K0 w w' := by
  refine (gprint holds_said s w hm).mono ?_
  rintro e w1 ⟨hg, h⟩
  refine ⟨?_, K0.of_grownz hg⟩
  rcases h with ⟨h1, rfl⟩ | ⟨h1, h⟩
  · exact ⟨[], 1, 0, .inl ⟨0, .inl ⟨h1, rfl, rfl⟩, .inl rfl, rfl⟩, rfl⟩
  · cases hq : gRows s (6 * s.size + 5) 0 with
    | err p =>
      rw [hq] at h
      exact ⟨[], 2, _, .inl ⟨p, .inr ⟨h1, by rw [hq]; exact ⟨rfl, rfl⟩⟩, .inr (.inl rfl), rfl⟩, h⟩
    | ok x j =>
      rw [hq] at h
      rcases h with ⟨hj, h⟩ | ⟨hj, o, hF, hE⟩
      · exact ⟨[], 2, _, .inl ⟨j, .inr ⟨h1, by rw [hq]; exact .inl ⟨hj, rfl, rfl⟩⟩, .inr (.inl rfl), rfl⟩, h⟩
      · cases o with
        | some a => exact ⟨[], 3, _, .inl ⟨a, .inr ⟨h1, by rw [hq]; exact .inr ⟨hj, hF, rfl⟩⟩, .inr (.inr rfl), rfl⟩, hE⟩
        | none =>
          subst hj
          exact ⟨_, 0, _, .inr ⟨_, ⟨h1, x, hq, hF, rfl⟩, (form_joinAlt s x.1 x.2).symm, gRows_form (Nat.le_refl _) h1 hq, rfl⟩, hE⟩
theorem PrR.rng {s : ByteArray} {r : List UInt8} {c : Int} (h : PrR s r c) : 0 ≤ c ∧ c ≤ 6 := by
  rcases h with ⟨p, _, h, _⟩ | ⟨t, _, _, _, h⟩ <;> omega
theorem PrR.bad {s : ByteArray} {r : List UInt8} {c : Int} (h : PrR s r c) (hc : ¬ c = 0) : r = [] ∧ LBad s c := by
  rcases h with ⟨p, h1, h2, h3⟩ | ⟨t, _, _, _, h⟩
  · exact ⟨h3, .inl ⟨p, h1, h2⟩⟩
  · exact absurd h hc
theorem PrR.ok {s : ByteArray} {r : List UInt8} (h : PrR s r 0) : ∃ t, TreeOf s t ∧ r = form s t ∧ r.length ≤ 480 := by
  rcases h with ⟨p, _, h, _⟩ | ⟨t, h1, h2, h3, _⟩
  · omega
  · exact ⟨t, h1, h2, h3⟩
theorem PrR.long {s : ByteArray} {r : List UInt8} {c : Int} (h : PrR s r c) (hs : 120 < s.size) : c = 1 := by
  rcases h with ⟨p, h1, _⟩ | ⟨t, h1, _⟩
  · exact (h1.det (.inl ⟨hs, rfl, rfl⟩ : ErrOut s 1 0)).1
  · have := h1.1; omega
theorem PrR.of_tree {s : ByteArray} {r : List UInt8} {c : Int} {t : LT} (h : PrR s r c) (hT : TreeOf s t) : r = form s t ∧ c = 0 := by
  rcases h with ⟨p, h1, _⟩ | ⟨t', h1, h2, _, h3⟩
  · exact (hT.no_err h1).elim
  · rw [hT.det h1]; exact ⟨h2, h3⟩
theorem good_same {s s' : ByteArray} {t t' : LT} (hT : TreeOf s t) (hT' : TreeOf s' t') (hs : strip t' = strip t) : (LGood s t ∧ LGood s' t') ∨ (LBad s 4 ∧ LBad s' 4) := by
  have hw := (strip_same hs).2.2.2.1
  rcases good_or hT with h | h
  · exact .inl ⟨h, good_of hT' (hw.2 h.noW)⟩
  · rcases good_or hT' with h' | h'
    · exact (h.not (good_of hT (hw.1 h'.noW))).elim
    · exact .inr ⟨h, h'⟩
theorem get_same {s s' : ByteArray} {t t' : LT} {u r r' : List UInt8} {c c' : Int} (hT : TreeOf s t) (hT' : TreeOf s' t') (hs : strip t' = strip t) (h : GetR s u r c) (h' : GetR s' u r' c') : r' = r ∧ c' = c := by
  obtain ⟨e1, _, _, _, e2, _⟩ := strip_same hs
  rcases good_same hT hT' hs with ⟨hG, hG'⟩ | ⟨hB, hB'⟩
  · have a := h.of_good hG
    have b := h'.of_good hG'
    rw [e1, e2] at b
    rcases a with ⟨a1, rfl, rfl⟩ | ⟨a1, a2, rfl, rfl⟩ | ⟨a1, a2, rfl, rfl⟩ <;> rcases b with ⟨b1, rfl, rfl⟩ | ⟨b1, b2, rfl, rfl⟩ | ⟨b1, b2, rfl, rfl⟩ <;> first | exact ⟨rfl, rfl⟩ | omega | exact absurd a2 b2 | exact absurd b2 a2
  · obtain ⟨rfl, rfl⟩ := h.bad hB
    obtain ⟨rfl, rfl⟩ := h'.bad hB'
    exact ⟨rfl, rfl⟩
theorem put_same {s s' : ByteArray} {t t' : LT} {v u r r' : List UInt8} {c c' : Int} (hT : TreeOf s t) (hT' : TreeOf s' t') (hs : strip t' = strip t) (h : PutR s v u r c) (h' : PutR s' v u r' c') : r' = r ∧ c' = c := by
  obtain ⟨_, e1, _, _, e2, e3⟩ := strip_same hs
  rcases good_same hT hT' hs with ⟨hG, hG'⟩ | ⟨hB, hB'⟩
  · have a := h.of_good hG
    have b := h'.of_good hG'
    rw [e1, e2, e3] at b
    rcases a with ⟨a1, rfl, rfl⟩ | ⟨a1, a1', ⟨a2, a3, rfl, rfl⟩ | ⟨a2, rfl, rfl⟩ | ⟨a2, a3, rfl, rfl⟩⟩ <;> rcases b with ⟨b1, rfl, rfl⟩ | ⟨b1, b1', ⟨b2, b3, rfl, rfl⟩ | ⟨b2, rfl, rfl⟩ | ⟨b2, b3, rfl, rfl⟩⟩ <;> first | exact ⟨rfl, rfl⟩ | omega | exact absurd a2 b2 | exact absurd b2 a2 | exact absurd a3 b3 | exact absurd b3 a3
  · obtain ⟨rfl, rfl⟩ := h.bad hB
    obtain ⟨rfl, rfl⟩ := h'.bad hB'
    exact ⟨rfl, rfl⟩

set_option maxRecDepth 100000 in
set_option maxHeartbeats 3200000 in
theorem again_walk (s : ByteArray) (v u : List UInt8) (w : World) (hm : s.size ≤ maxLen) (hv : v.length ≤ maxLen) (hu : u.length ≤ maxLen) (hTab : Tab w) :
    Calls Tryz.prog 11 #[.string s, .string (txt v), .string (txt u)] w fun e w' => e = .returned (.bool true) ∧ K0 w w' := by
  have HA := hide (alive_said w hTab)
  have HPr := hide (fun (V : World) => print_call s V hm)
  have HC := hide (fun (V : World) (hk : K0 w V) => check_call s V hm (hTab.k0 hk))
  have HG := hide (fun (V : World) (hk : K0 w V) (s : ByteArray) (hm : s.size ≤ maxLen) => get_call s u V hm hu (hTab.k0 hk))
  have HP := hide (fun (V : World) (hk : K0 w V) (s : ByteArray) (hm : s.size ≤ maxLen) => put_call s v u V hm hv hu (hTab.k0 hk))
  have HNm := hide (fun (x : Int) (W : World) (h0 : 0 ≤ x) (h1 : x ≤ 100) => lnumz x W h0 h1)
  clear hTab
  go_enter Tryz.func11, Tryz.ntmps11
  go_wp2_with fail
  refine (unhide HA).mono ?_
  rintro e w1 ⟨rfl, hk1⟩
  go_wp2_with fail
  refine (unhide HPr _).mono ?_
  rintro e w2 ⟨⟨r, c, a, hR, rfl⟩, hk2⟩
  have hk12 := hk1.trans hk2
  have hrg := hR.rng
  have HR := hide hR
  clear hR HA HPr
  by_cases hc : c = 0
  · subst hc
    obtain ⟨t, hT, hrf, hrl⟩ := (unhide HR).ok
    have hrs : (txt r).size = r.length := txt_size r
    have hrm : (txt r).size ≤ maxLen := by rw [hrs]; unfold maxLen; omega
    have HK := hide known_yes
    have HPr2 := hide (fun (V : World) => print_call (txt r) V hrm)
    have HT := hide (And.intro hT hrf)
    clear HR HC hT hrf
    go_wp2_with fail
    refine (unhide HK _).mono ?_
    rintro e w3 ⟨rfl, rfl⟩
    go_wp2_with fail
    refine (unhide HPr2 _).mono ?_
    rintro e w4 ⟨⟨r2, c2, a2, hR2, rfl⟩, hk4⟩
    have hk14 := hk12.trans hk4
    clear HPr2
    by_cases h120 : 120 < r.length
    · have h120' : (120 : Int) < ((txt r).size : Int) := by rw [hrs]; omega
      obtain rfl : c2 = 1 := hR2.long (by omega)
      clear hR2 HT h120 hrs hrl hrm HG HP
      go_wp2_with fail
      refine (unhide HNm 1 _ (by omega) (by omega)).mono ?_
      rintro e w6 ⟨rfl, rfl⟩
      go_wp2
      go_ret
      exact ⟨rfl, hk14⟩
    · have h120' : ¬ (120 : Int) < ((txt r).size : Int) := by rw [hrs]; omega
      obtain ⟨t', hT', hst, hf⟩ : ∃ t', TreeOf (txt r) t' ∧ strip t' = strip t ∧ form (txt r) t' = r := by
        obtain ⟨hT, hrf⟩ := unhide HT
        have := tree_again hT (by rw [← hrf]; omega)
        rw [← hrf] at this; exact this
      obtain ⟨rfl, rfl⟩ : r2 = r ∧ c2 = 0 := by
        have := hR2.of_tree hT'
        rw [hf] at this; exact this
      have HT' := hide (And.intro hT' hst)
      clear hR2 h120 hrs hrl hT' hst hf
      go_wp2_with fail
      refine (unhide HK _).mono ?_
      rintro e w5 ⟨rfl, rfl⟩
      go_wp2_with fail
      refine (unhide HG _ hk14 s hm).mono ?_
      rintro e w6 ⟨⟨x1, c1, hG1, rfl⟩, hk6⟩
      have hk16 := hk14.trans hk6
      have hg1 := hG1.rng
      have HG1 := hide hG1
      clear hG1
      go_wp2_with fail
      refine (unhide HG _ hk16 _ hrm).mono ?_
      rintro e w7 ⟨⟨x2, c2, hG2, rfl⟩, hk7⟩
      have hk17 := hk16.trans hk7
      obtain ⟨rfl, rfl⟩ := get_same (unhide HT).1 (unhide HT').1 (unhide HT').2 (unhide HG1) hG2
      clear hG2 HG1 HG
      go_wp2_with fail
      refine (unhide HP _ hk17 s hm).mono ?_
      rintro e w8 ⟨⟨y1, d1, hP1, rfl⟩, hk8⟩
      have hk18 := hk17.trans hk8
      have hg2 := hP1.rng
      have HP1 := hide hP1
      clear hP1
      go_wp2_with fail
      refine (unhide HP _ hk18 _ hrm).mono ?_
      rintro e w9 ⟨⟨y2, d2, hP2, rfl⟩, hk9⟩
      have hk19 := hk18.trans hk9
      obtain ⟨rfl, rfl⟩ := put_same (unhide HT).1 (unhide HT').1 (unhide HT').2 (unhide HP1) hP2
      clear hP2 HP1 HP HT HT'
      have HN1 := hide (fun (W : World) => lnumz c2 W hg1.1 (by omega))
      have HN2 := hide (fun (W : World) => lnumz d2 W hg2.1 (by omega))
      clear HNm
      go_wp2_with fail
      refine (unhide HN1 _).mono ?_
      rintro e w10 ⟨rfl, rfl⟩
      go_wp2_with fail
      refine (unhide HN1 _).mono ?_
      rintro e w10 ⟨rfl, rfl⟩
      go_wp2_with fail
      refine (unhide HN2 _).mono ?_
      rintro e w10 ⟨rfl, rfl⟩
      go_wp2_with fail
      refine (unhide HN2 _).mono ?_
      rintro e w10 ⟨rfl, rfl⟩
      go_wp2
      go_ret
      exact ⟨by simp, hk19⟩
  · obtain ⟨rfl, hB⟩ := (unhide HR).bad hc
    have HB := hide hB
    have HK := hide (fun (W : World) => known_no c W hrg.1 (by omega) hc)
    have HN := hide (fun (W : World) => lnumz c W hrg.1 (by omega))
    rw [txt_e]
    clear HR hB HNm HG HP
    go_wp2_with fail
    refine (unhide HK _).mono ?_
    rintro e w3 ⟨rfl, rfl⟩
    go_wp2_with fail
    refine (unhide HC _ hk12).mono ?_
    rintro e w4 ⟨⟨c', a', b', (hB' | ⟨rfl, t, hG⟩), rfl⟩, hk4⟩
    · obtain rfl := hB'.det (unhide HB)
      have hk14 := hk12.trans hk4
      clear HC HB hB'
      go_wp2_with fail
      refine (unhide HN _).mono ?_
      rintro e w5 ⟨rfl, rfl⟩
      go_wp2_with fail
      refine (unhide HN _).mono ?_
      rintro e w5 ⟨rfl, rfl⟩
      go_wp2
      go_ret
      exact ⟨by simp, hk14⟩
    · exact ((unhide HB).not hG).elim

end Go.Proofs.YtlljggefbngkeaaGreatDoor
