import Derived.Test.YtlljggefbngkeaaGreatDoorV43
import Derived.Test.YtlljggefbngkeaaGreatDoorV33
import Derived.Test.YtlljggefbngkeaaGreatDoorV18
import Derived.Test.YtlljggefbngkeaaGreatDoorV44
import Derived.Test.YtlljggefbngkeaaGreatDoorV48
import Derived.Test.YtlljggefbngkeaaGreatDoorV46
namespace Go.Proofs.YtlljggefbngkeaaGreatDoor
open Go.RowKit Go.Shelf


theorem GetR.nil {s : ByteArray} {u r : List UInt8} {c : Int} (h : GetR s u r c) (hc : ¬ c = 0) : r = [] := by
  rcases h with ⟨_, h⟩ | ⟨t, _, ⟨_, h, _⟩ | ⟨_, _, _, h⟩ | ⟨_, _, h, _⟩⟩
  · exact h
  · exact h
  · exact absurd h hc
  · exact h
theorem GetR.ok {s : ByteArray} {u r : List UInt8} (h : GetR s u r 0) : ∃ t, LGood s t ∧ u.length ≤ 60 ∧ M (bS (toB t)) u ∧ r = getF (toB t) u := by
  rcases h with ⟨h, _⟩ | ⟨t, hG, ⟨_, _, h⟩ | ⟨h1, h2, h3, _⟩ | ⟨_, _, _, h⟩⟩
  · have := h.nz; omega
  · omega
  · exact ⟨t, hG, h1, h2, h3⟩
  · omega
theorem GetR.len {s : ByteArray} {u r : List UInt8} {c : Int} (h : GetR s u r c) : r.length ≤ 1000000000 := by
  rcases Classical.em (c = 0) with e | e
  · subst e
    obtain ⟨t, hG, h1, h2, rfl⟩ := h.ok
    exact get_small hG.ne hG.bz u h2 (by omega)
  · rw [h.nil e]; simp





end Go.Proofs.YtlljggefbngkeaaGreatDoor

namespace Go.Proofs.YtlljggefbngkeaaGreatDoor
open Go.RowKit Go.Shelf

set_option maxRecDepth 100000 in
set_option maxHeartbeats 3200000 in
theorem getput_walk (s : ByteArray) (u : List UInt8) (w : World) (hm : s.size ≤ maxLen) (hu : u.length ≤ maxLen) (hTab : Tab w) :
    Calls Tryz.prog 8 #[.string s, .string (txt u)] w fun e w' => e = .returned (.bool true) ∧ K0 w w' := by
  have HA := hide (alive_said w hTab)
  have HG := hide (fun (V : World) (hk : K0 w V) => get_call s u V hm hu (hTab.k0 hk))
  have HF := hide (fun (V : World) (hk : K0 w V) (x : Int) (h0 : 0 ≤ x) (h1 : x ≤ 100) (hx : ∀ c, LBad s c → c = x) => refuses_said s x V hm (hTab.k0 hk) h0 h1 hx)
  have HP := hide (fun (V : World) (hk : K0 w V) (r : List UInt8) (hr : r.length ≤ maxLen) => put_call s r u V hm hr hu (hTab.k0 hk))
  have HNm := hide (fun (x : Int) (W : World) (h0 : 0 ≤ x) (h1 : x ≤ 100) => lnumz x W h0 h1)
  clear hTab
  go_enter Tryz.func8, Tryz.ntmps8
  go_wp2_with fail
  refine (unhide HA).mono ?_
  rintro e w1 ⟨rfl, hk1⟩
  go_wp2_with fail
  refine (unhide HG _ hk1).mono ?_
  rintro e w2 ⟨⟨r, c, hR, rfl⟩, hk2⟩
  have hk12 := hk1.trans hk2
  have hrg := hR.rng
  have HR := hide hR
  have hx : ∀ c', LBad s c' → c' = c := fun c' hB => (hR.bad hB).1
  have Hf := hide (unhide HF _ hk12 c hrg.1 (by omega) hx)
  clear hR hx
  go_wp2_with fail
  refine (unhide Hf).mono ?_
  rintro e w3 ⟨rfl, hk3⟩
  have hk13 := hk12.trans hk3
  clear Hf HF HG HA
  by_cases hc : c = 0
  · subst hc
    have hrl := (unhide HR).len
    have hrs : (txt r).size = r.length := txt_size r
    have HK := hide known_yes
    go_wp2_with fail
    refine (unhide HK _).mono ?_
    rintro e w4 ⟨rfl, rfl⟩
    have Hp := hide (unhide HP _ hk13 r (by unfold maxLen; omega))
    clear HP
    go_wp2_with fail
    refine (unhide Hp).mono ?_
    rintro e w5 ⟨⟨r', c', hR', rfl⟩, hk5⟩
    have hk15 := hk13.trans hk5
    clear Hp
    obtain ⟨t, hG, h1, h2, h3⟩ := (unhide HR).ok
    by_cases h60 : 60 < r.length
    · have h60' : (60 : Int) < ((txt r).size : Int) := by rw [hrs]; omega
      obtain rfl : c' = 1 := by
        rcases hR'.of_good hG with ⟨_, _, h⟩ | ⟨h, _⟩
        · exact h
        · omega
      clear hR' HR hG h1 h2 h3 h60 hrs hrl
      go_wp2_with fail
      refine (unhide HNm 1 _ (by omega) (by omega)).mono ?_
      rintro e w6 ⟨rfl, rfl⟩
      go_wp2
      go_ret
      exact ⟨rfl, hk15⟩
    · have h60' : ¬ (60 : Int) < ((txt r).size : Int) := by rw [hrs]; omega
      obtain ⟨rfl, rfl⟩ : r' = u ∧ c' = 0 := by
        rcases hR'.of_good hG with ⟨h, _⟩ | ⟨_, _, ⟨_, _, h, hc⟩ | ⟨h, _⟩ | ⟨_, h, _⟩⟩
        · omega
        · exact ⟨by rw [h, h3]; exact hG.trip.getPut u h2, hc⟩
        · exact absurd (by rw [h3]; exact hG.trip.seen u h2) h
        · exact absurd h2 h
      clear hR' HR hG h1 h2 h3 h60 hrs hrl
      go_wp2_with fail
      refine (unhide HK _).mono ?_
      rintro e w6 ⟨rfl, rfl⟩
      go_wp2
      go_ret
      exact ⟨by simp, hk15⟩
  · obtain rfl := (unhide HR).nil hc
    have HK := hide (fun (W : World) => known_no c W hrg.1 (by omega) hc)
    rw [txt_e]
    clear HR
    go_wp2_with fail
    refine (unhide HK _).mono ?_
    rintro e w4 ⟨rfl, rfl⟩
    go_wp2
    go_ret
    exact ⟨rfl, hk13⟩

end Go.Proofs.YtlljggefbngkeaaGreatDoor
