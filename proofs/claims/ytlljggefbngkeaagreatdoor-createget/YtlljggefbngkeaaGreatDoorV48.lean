import Derived.Test.YtlljggefbngkeaaGreatDoorV43
import Derived.Test.YtlljggefbngkeaaGreatDoorV33
import Derived.Test.YtlljggefbngkeaaGreatDoorV18
import Derived.Test.YtlljggefbngkeaaGreatDoorV44
import Derived.Test.YtlljggefbngkeaaGreatDoorV46
namespace Go.Proofs.YtlljggefbngkeaaGreatDoor
open Go.RowKit Go.Shelf

theorem LGood.trip {s : ByteArray} {t : LT} (h : LGood s t) : Trip (toB t) := tree_trip h.1 h.noW




set_option maxRecDepth 100000 in
set_option maxHeartbeats 1600000 in
/-- a call's error agrees with Check's -/
theorem refuses_said (s : ByteArray) (x : Int) (w : World) (hm : s.size ≤ maxLen) (hTab : Tab w) (h0 : 0 ≤ x) (h1 : x ≤ 100) (hx : ∀ c, LBad s c → c = x) :
    Calls Tryz.prog 25 #[.string s, .int .i64 x] w fun e w' => e = .returned (.bool true) ∧ K0 w w' := by
  have HC := hide (check_call s w hm hTab)
  have HX := hide hx
  have HN := hide (fun (W : World) => lnumz x W h0 h1)
  clear hTab hx
  go_enter Tryz.func25, Tryz.ntmps25
  go_wp2_with fail
  refine (unhide HC).mono ?_
  rintro e w1 ⟨⟨c, a, b, (hB | ⟨rfl, t, hG⟩), rfl⟩, hk1⟩
  · obtain rfl := unhide HX c hB
    have hnz : ¬ (c = 0) := by have := hB.nz; omega
    have HK := hide (fun (W : World) => known_no c W h0 h1 hnz)
    clear hB hnz
    go_wp2_with fail
    refine (unhide HK _).mono ?_
    rintro e w2 ⟨rfl, rfl⟩
    go_wp2_with fail
    refine (unhide HN _).mono ?_
    rintro e w2 ⟨rfl, rfl⟩
    go_wp2_with fail
    refine (unhide HN _).mono ?_
    rintro e w2 ⟨rfl, rfl⟩
    go_wp2
    go_ret
    exact ⟨rfl, hk1⟩
  · have HK := hide known_yes
    clear hG
    go_wp2_with fail
    refine (unhide HK _).mono ?_
    rintro e w2 ⟨rfl, rfl⟩
    go_wp2
    go_ret
    exact ⟨rfl, hk1⟩


end Go.Proofs.YtlljggefbngkeaaGreatDoor
