import Derived.Test.YtlljggefbngkeaaGreatDoorV12
import Derived.Test.YtlljggefbngkeaaGreatDoorV32
import Derived.Test.YtlljggefbngkeaaGreatDoorV06
namespace Go.Proofs.YtlljggefbngkeaaGreatDoor
open Go.RowKit

theorem rowG_bsz (kd : Int) : ∀ (l : List LT) (c : BT) (ps : List Nat), (∀ t, t ∈ l → bsz (toB t) + 1 ≤ 2 * lsz t) → bsz (rowG kd c l ps) + 1 ≤ bsz c + 1 + 2 * lszL l
  | [], c, ps, _ => by rw [rowG, lszL]; omega
  | t :: l, c, ps, h => by
    have h1 := h t List.mem_cons_self
    have h2 := rowG_bsz kd l (.two kd (ps.headD 0) c (toB t)) ps.tail (fun u hu => h u (List.mem_cons_of_mem _ hu))
    rw [rowG, lszL]
    rw [bsz] at h2
    omega
theorem rowB_bsz (kd : Int) (l : List LT) (ps : List Nat) (h : ∀ t, t ∈ l → bsz (toB t) + 1 ≤ 2 * lsz t) : bsz (rowB kd l ps) + 1 ≤ 2 * lszL l + 2 := by
  match l with
  | [] => rw [rowB, bsz, lszL]; omega
  | t :: l =>
    have h1 := h t List.mem_cons_self
    have h2 := rowG_bsz kd l (toB t) ps (fun u hu => h u (List.mem_cons_of_mem _ hu))
    rw [rowB, lszL]
    omega
mutual
theorem toB_bsz : ∀ t : LT, bsz (toB t) + 1 ≤ 2 * lsz t
  | .same l i j => by rw [toB, bsz, lsz]; omega
  | .fixed l i j v d a => by rw [toB, bsz, lsz]; omega
  | .swap p a b => by
    have h1 := toB_bsz a
    have h2 := toB_bsz b
    rw [toB, bsz, lsz]; omega
  | .group a => by
    have h1 := toB_bsz a
    rw [toB, lsz]; omega
  | .many p a => by
    have h1 := toB_bsz a
    rw [toB, bsz, lsz]; omega
  | .row l ps => by
    have h1 := rowB_bsz 114 l ps (toB_bszL l)
    rw [toB, lsz]; omega
  | .choice l ps => by
    have h1 := rowB_bsz 124 l ps (toB_bszL l)
    rw [toB, lsz]; omega
theorem toB_bszL : ∀ (l : List LT) (t : LT), t ∈ l → bsz (toB t) + 1 ≤ 2 * lsz t
  | [], t, h => by cases h
  | u :: l, t, h => by
    rcases List.mem_cons.1 h with e | h
    · rw [e]; exact toB_bsz u
    · exact toB_bszL l t h
end


end Go.Proofs.YtlljggefbngkeaaGreatDoor

namespace Go.Proofs.YtlljggefbngkeaaGreatDoor
open Go.RowKit

theorem K0.grownz {w w' : World} (h : K0 w w') : w.grownBy w' none := ⟨h.os, h.tape, h.output, h.size, fun k hk _ => h.block k hk trivial⟩

set_option maxHeartbeats 400000 in
theorem lnumz (x : Int) (w : World) (h0 : 0 ≤ x) (h1 : x ≤ 100) : Calls Tryz.prog 18 #[.int .i64 x] w fun e w' => e = .returned (.int .i64 x) ∧ w' = w := by
  have hw : wrap64 x = x := by unfold wrap64; omega
  go_enter Tryz.func18, Tryz.ntmps18
  go_wp2
  go_ret
  first
    | exact ⟨rfl, rfl⟩
    | exact ⟨by rw [hw], rfl⟩



/-- the tree is the one -/
theorem TreeOf.det {s : ByteArray} {t u : LT} (h : TreeOf s t) (k : TreeOf s u) : t = u := by
  obtain ⟨_, x, h1, _, rfl⟩ := h
  obtain ⟨_, y, h2, _, rfl⟩ := k
  rw [h1] at h2
  cases h2
  rfl
theorem TreeOf.no_err {s : ByteArray} {t : LT} {c : Int} {p : Nat} (h : TreeOf s t) (k : ErrOut s c p) : False := by
  obtain ⟨hs, x, h1, h2, _⟩ := h
  rcases k with ⟨k, _⟩ | ⟨_, k⟩
  · omega
  · rw [h1] at k
    rcases k with ⟨k, _⟩ | ⟨_, k, _⟩
    · omega
    · have := h2.det k
      cases this



end Go.Proofs.YtlljggefbngkeaaGreatDoor
