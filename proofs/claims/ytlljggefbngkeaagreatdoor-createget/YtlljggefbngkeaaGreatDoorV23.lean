import Derived.Test.YtlljggefbngkeaaGreatDoorV07
import Derived.Shelf.Spec.TrailingZeros
namespace Go.Proofs.YtlljggefbngkeaaGreatDoor
open Go.RowKit Go.Shelf

/-- the library's table, in its variable -/
def Tab (w : World) : Prop := TabAt 1 Lib.deBruijn64tab w

set_option maxHeartbeats 1000000 in
theorem tz64_walk (x k idx : Nat) (w : World) (hx0 : ((x : Int) == 0) = false)
    (key : IntKind.u64.wrap (bits BinOp.and IntKind.u64 (x : Int) (IntKind.u64.wrap (-(x : Int))) * 285870213051353865) / 288230376151711744 = (idx : Int))
    (hi : idx < 64) (hk : k < 64) (hcell : w.cell? ⟨1, idx, none⟩ = some (.int .u8 k)) :
    Calls Tryz.prog 198 #[.int .u64 x] w fun e w' => e = .returned (.int .i64 k) ∧ w' = w := by
  go_enter Tryz.func198, Tryz.ntmps198
  go_wp2_with (simp only [key])
  go_ret
  exact ⟨rfl, rfl⟩

theorem tz64 (x : Nat) (hx0 : x ≠ 0) (hx : x < 18446744073709551616) (w : World) (hT : Tab w) :
    Calls Tryz.prog 198 #[.int .u64 x] w fun e w' => e = .returned (.int .i64 (Lib.ctz 64 x)) ∧ w' = w := by
  obtain ⟨hlow, hk⟩ := Lib.lowest_bit 64 x hx0 hx
  obtain ⟨hi, htab⟩ := Lib.deBruijn64_at _ hk
  have hcell := hT _ hi
  rw [htab] at hcell
  exact tz64_walk x _ _ w (by simp; omega) (tz64_key x _ hx hx0 hlow) hi hk hcell

/-- the lowest bit is one -/
theorem ctz_bit (x : Nat) (hx0 : x ≠ 0) (hx : x < 2 ^ 41) : x.testBit (Lib.ctz 64 x) = true ∧ Lib.ctz 64 x < 41 := by
  have h0 : 0 < x := by omega
  obtain ⟨m, hm, hk⟩ := Lib.ctzFrom_spec 64 x h0 (by omega)
  have e : Lib.ctz 64 x = Lib.ctzFrom 64 x := by unfold Lib.ctz; rw [if_neg hx0]
  rw [e]
  generalize Lib.ctzFrom 64 x = k at *
  have hb : x.testBit k = true := by
    rw [hm, Nat.mul_comm, Nat.testBit_mul_two_pow]
    simp
  refine ⟨hb, ?_⟩
  apply Nat.lt_of_not_le
  intro hle
  have : 2 ^ 41 ≤ 2 ^ k := Nat.pow_le_pow_right (by decide) hle
  have h2 : 2 ^ k ≤ x := by rw [hm]; exact Nat.le_mul_of_pos_right _ (by omega)
  omega

theorem sgnT_fin : ∀ i : Fin 41, (txt signT)[i.val]? = some (UInt8.ofNat (sgn i.val)) := by decide +kernel
theorem sgnT_at (k : Nat) (hk : k < 41) : (txt signT)[k]'hk = UInt8.ofNat (sgn k) := by
  have := sgnT_fin ⟨k, hk⟩
  rw [getElem?_pos (txt signT) k hk] at this
  exact Option.some.inj this

set_option maxRecDepth 100000 in
set_option maxHeartbeats 800000 in
/-- lowest(): a sign of the set -/
theorem plowest {n : Nat} {l : List UInt8} (h : SetRep n l) (hn : n ≠ 0) (w : World) (hT : Tab w) :
    Calls Tryz.prog 194 #[.int .u64 (n : Int)] w fun e w' => (∃ c : UInt8, e = .returned (.int .u8 (c.toNat : Int)) ∧ c ∈ l) ∧ w' = w := by
  obtain ⟨hb, hk⟩ := ctz_bit n hn h.1
  have H1 := hide (fun W (hW : Tab W) => tz64 n hn (by have := h.1; omega) W hW)
  have hc := h.2.1 _ hk
  rw [hb] at hc
  generalize Lib.ctz 64 n = k at *
  have hk' : (k : Int) < 41 := by omega
  go_enter Tryz.func194, Tryz.ntmps194
  go_wp2_with fail
  refine (unhide H1 _ hT).mono ?_
  rintro e w1 ⟨rfl, rfl⟩
  go_wp2_with fail
  go_ret
  refine ⟨⟨_, rfl, ?_⟩, rfl⟩
  show (txt signT)[k]'hk ∈ l
  rw [sgnT_at k hk]
  exact List.contains_iff_mem.1 hc.symm

end Go.Proofs.YtlljggefbngkeaaGreatDoor
