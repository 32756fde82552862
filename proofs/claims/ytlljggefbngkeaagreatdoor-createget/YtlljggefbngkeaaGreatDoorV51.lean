import Derived.Test.YtlljggefbngkeaaGreatDoorV43
import Derived.Test.YtlljggefbngkeaaGreatDoorV33
import Derived.Test.YtlljggefbngkeaaGreatDoorV18
import Derived.Test.YtlljggefbngkeaaGreatDoorV44
import Derived.Test.YtlljggefbngkeaaGreatDoorV48
import Derived.Test.YtlljggefbngkeaaGreatDoorV47
import Derived.Test.YtlljggefbngkeaaGreatDoorV46
namespace Go.Proofs.YtlljggefbngkeaaGreatDoor
open Go.RowKit Go.Shelf


theorem MakeR.bad {s : ByteArray} {u r : List UInt8} {c c0 : Int} (h : MakeR s u r c) (hB : LBad s c0) : c0 = c ∧ r = [] := by
  rcases h with ⟨h1, h2⟩ | ⟨t', h1, h2⟩
  · exact ⟨hB.det h1, h2⟩
  · exact (hB.not h1).elim
theorem MakeR.nil {s : ByteArray} {u r : List UInt8} {c : Int} (h : MakeR s u r c) (hc : ¬ c = 0) : r = [] := by
  rcases h with ⟨_, h⟩ | ⟨t, _, ⟨_, h, _⟩ | ⟨_, _, _, h⟩ | ⟨_, _, h, _⟩⟩
  · exact h
  · exact h
  · exact absurd h hc
  · exact h
theorem MakeR.ok {s : ByteArray} {u r : List UInt8} (h : MakeR s u r 0) : ∃ t, LGood s t ∧ u.length ≤ 60 ∧ M (bV (toB t)) u ∧ r = makeF (toB t) u := by
  rcases h with ⟨h, _⟩ | ⟨t, hG, ⟨_, _, h⟩ | ⟨h1, h2, h3, _⟩ | ⟨_, _, _, h⟩⟩
  · have := h.nz; omega
  · omega
  · exact ⟨t, hG, h1, h2, h3⟩
  · omega
theorem MakeR.len {s : ByteArray} {u r : List UInt8} {c : Int} (h : MakeR s u r c) : r.length ≤ 1000000000 := by
  rcases Classical.em (c = 0) with e | e
  · subst e
    obtain ⟨t, hG, h1, h2, rfl⟩ := h.ok
    exact make_small hG.ne hG.bz u h2 (by omega)
  · rw [h.nil e]; simp





end Go.Proofs.YtlljggefbngkeaaGreatDoor

namespace Go.Proofs.YtlljggefbngkeaaGreatDoor
open Go.RowKit Go.Shelf

set_option maxRecDepth 100000 in
set_option maxHeartbeats 3200000 in
theorem createget_walk (s : ByteArray) (v : List UInt8) (w : World) (hm : s.size ≤ maxLen) (hv : v.length ≤ maxLen) (hTab : Tab w) :
    Calls Tryz.prog 10 #[.string s, .string (txt v)] w fun e w' => e = .returned (.bool true) ∧ K0 w w' := by
  have HA := hide (alive_said w hTab)
  have HG := hide (fun (V : World) (hk : K0 w V) => make_call s v V hm hv (hTab.k0 hk))
  have HF := hide (fun (V : World) (hk : K0 w V) (x : Int) (h0 : 0 ≤ x) (h1 : x ≤ 100) (hx : ∀ c, LBad s c → c = x) => refuses_said s x V hm (hTab.k0 hk) h0 h1 hx)
  have HP := hide (fun (V : World) (hk : K0 w V) (r : List UInt8) (hr : r.length ≤ maxLen) => get_call s r V hm hr (hTab.k0 hk))
  have HQ := hide (fun (V : World) (hk : K0 w V) (r : List UInt8) (hr : r.length ≤ maxLen) => put_call s v r V hm hv hr (hTab.k0 hk))
  have HNm := hide (fun (x : Int) (W : World) (h0 : 0 ≤ x) (h1 : x ≤ 100) => lnumz x W h0 h1)
  clear hTab
  go_enter Tryz.func10, Tryz.ntmps10
  go_wp2_with fail
  refine (unhide HA).mono ?_
  rintro e w1 ⟨rfl, hk1⟩
  go_wp2_with fail
  refine (unhide HG _ hk1).mono ?_
  rintro e w2 ⟨⟨r, c, hR, rfl⟩, hk2⟩
  have hk12 := hk1.trans hk2
  have hrg := hR.rng
  have HR := hide hR
  have hx : ∀ c', LBad s c' → c' = c := fun c' hB => (hR.bad hB).1
  have Hf := hide (unhide HF _ hk12 c hrg.1 (by omega) hx)
  clear hR hx
  go_wp2_with fail
  refine (unhide Hf).mono ?_
  rintro e w3 ⟨rfl, hk3⟩
  have hk13 := hk12.trans hk3
  clear Hf HF HG HA
  by_cases hc : c = 0
  · subst hc
    have hrl := (unhide HR).len
    have hrs : (txt r).size = r.length := txt_size r
    have HK := hide known_yes
    go_wp2_with fail
    refine (unhide HK _).mono ?_
    rintro e w4 ⟨rfl, rfl⟩
    have Hp := hide (unhide HP _ hk13 r (by unfold maxLen; omega))
    clear HP
    go_wp2_with fail
    refine (unhide Hp).mono ?_
    rintro e w5 ⟨⟨r', c', hR', rfl⟩, hk5⟩
    have hk15 := hk13.trans hk5
    have Hq := hide (unhide HQ _ hk15 r (by unfold maxLen; omega))
    clear Hp HQ
    obtain ⟨t, hG, h1, h2, h3⟩ := (unhide HR).ok
    by_cases h60 : 60 < r.length
    · have h60' : (60 : Int) < ((txt r).size : Int) := by rw [hrs]; omega
      obtain rfl : c' = 1 := by
        rcases hR'.of_good hG with ⟨_, _, h⟩ | ⟨h, _⟩ | ⟨h, _⟩
        · exact h
        · omega
        · omega
      clear hR' HR hG h1 h2 h3 h60 hrs hrl Hq
      go_wp2_with fail
      refine (unhide HNm 1 _ (by omega) (by omega)).mono ?_
      rintro e w6 ⟨rfl, rfl⟩
      go_wp2
      go_ret
      exact ⟨rfl, hk15⟩
    · have h60' : ¬ (60 : Int) < ((txt r).size : Int) := by rw [hrs]; omega
      have hsrc : M (bS (toB t)) r := by rw [h3]; exact hG.trip.made v h2
      have hget : getF (toB t) r = v := by rw [h3]; exact hG.trip.makeGet v h2
      obtain ⟨rfl, rfl⟩ : r' = v ∧ c' = 0 := by
        rcases hR'.of_good hG with ⟨h, _⟩ | ⟨_, _, h, hc⟩ | ⟨_, h, _⟩
        · omega
        · exact ⟨by rw [h]; exact hget, hc⟩
        · exact absurd hsrc h
      have hput : putF (toB t) r' r = r := by
        have := hG.trip.getPut r hsrc
        rw [hget] at this; exact this
      have HS := hide (And.intro hG (And.intro h1 (And.intro h2 (And.intro hsrc (And.intro hput h60)))))
      clear hR' HR hG h1 h2 h3 hrs hrl hsrc hget hput h60
      go_wp2_with fail
      refine (unhide Hq).mono ?_
      rintro e w6 ⟨⟨r2, c2, hR2, rfl⟩, hk6⟩
      have hk16 := hk15.trans hk6
      obtain ⟨rfl, rfl⟩ : r2 = r ∧ c2 = 0 := by
        obtain ⟨hG, h1, h2, hsrc, hput, h60⟩ := unhide HS
        rcases hR2.of_good hG with ⟨h, _⟩ | ⟨_, _, ⟨_, _, h, hc⟩ | ⟨h, _⟩ | ⟨_, h, _⟩⟩
        · omega
        · exact ⟨by rw [h]; exact hput, hc⟩
        · exact absurd h2 h
        · exact absurd hsrc h
      clear hR2 HS Hq
      go_wp2_with fail
      refine (unhide HK _).mono ?_
      rintro e w7 ⟨rfl, rfl⟩
      go_wp2_with fail
      refine (unhide HK _).mono ?_
      rintro e w7 ⟨rfl, rfl⟩
      go_wp2
      go_ret
      exact ⟨by simp, hk16⟩
  · obtain rfl := (unhide HR).nil hc
    have HK := hide (fun (W : World) => known_no c W hrg.1 (by omega) hc)
    rw [txt_e]
    clear HR
    go_wp2_with fail
    refine (unhide HK _).mono ?_
    rintro e w4 ⟨rfl, rfl⟩
    go_wp2
    go_ret
    exact ⟨rfl, hk13⟩

end Go.Proofs.YtlljggefbngkeaaGreatDoor
