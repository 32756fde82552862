import Derived.Test.YtlljggefbngkeaaGreatDoorProg
import Derived.Test.YtlljggefbngkeaaGreatDoorU01
import Derived.WalkKit
import Derived.WalkSpells
import Derived.WalkLawsBesides
import Derived.Deep.QuietTactic
import Derived.BigQuiet
namespace Go.Proofs.YtlljggefbngkeaaGreatDoor
open Go.RowKit

theorem hide {p : Prop} (h : p) : Hid p := h
theorem unhide {p : Prop} (h : Hid p) : p := h

set_option maxHeartbeats 400000 in
theorem within_any (c lo hi : Int) (w : World) :
    Calls Tryz.prog 193 #[.int .u8 c, .int .u8 lo, .int .u8 hi] w fun e w' => e = .returned (.bool (withinB c lo hi)) ∧ w' = w := by
  by_cases h1 : lo ≤ c
  · by_cases h2 : c ≤ hi
    · have : withinB c lo hi = true := by simp [withinB, h1, h2]
      rw [this]; clear this
      go_enter Tryz.func193, Tryz.ntmps193
      go_wp2
      go_ret
      exact ⟨by simp, rfl⟩
    · have : withinB c lo hi = false := by simp [withinB, h2]
      rw [this]; clear this
      go_enter Tryz.func193, Tryz.ntmps193
      go_wp2
      go_ret
      exact ⟨by simp, rfl⟩
  · have : withinB c lo hi = false := by simp [withinB, h1]
    rw [this]; clear this
    have h3 : decide (lo ≤ c) = false := by simp [h1]
    go_enter Tryz.func193, Tryz.ntmps193
    go_wp2
    go_ret
    exact ⟨by simp, rfl⟩

theorem take_snoc (s : ByteArray) (k : Nat) (h : k < s.size) : s.data.toList.take (k + 1) = s.data.toList.take k ++ [s[k]] := by
  rw [List.take_succ_eq_append_getElem (by simpa using h)]; rfl

theorem hasL_snoc (l : List UInt8) (x : UInt8) (c : Int) : hasL (l ++ [x]) c = (hasL l c || ((x.toNat : Int) == c)) := by
  simp [hasL]

theorem hasL_of_take (l : List UInt8) (k : Nat) (c : Int) (h : hasL (l.take k) c = true) : hasL l c = true := by
  simp only [hasL, List.any_eq_true] at *
  obtain ⟨x, hx, he⟩ := h
  exact ⟨x, List.mem_of_mem_take hx, he⟩

set_option maxHeartbeats 400000 in
theorem has_any (s : ByteArray) (c : Int) (w : World) (hs : s.size ≤ maxLen) :
    Calls Tryz.prog 61 #[.string s, .int .u8 c] w fun e w' => e = .returned (.bool (hasL s.data.toList c)) ∧ w' = w := by
  unfold maxLen at hs
  go_enter Tryz.func61, Tryz.ntmps61
  go_wp2
  go_loop [5] (fun i => ∃ k : Nat, k ≤ s.size ∧ i = .int .i64 k ∧ hasL (s.data.toList.take k) c = false) (fun i => s.size - (intOf i).toNat)
  case atStart => exact ⟨0, Nat.zero_le _, rfl, rfl⟩
  case round =>
    obtain ⟨k, hk, rfl, hno⟩ := hrel
    have HN : Hid (hasL (s.data.toList.take k) c = false) := hno
    clear hno
    by_cases hlt : k < s.size
    · by_cases hc : ((s[k].toNat : Int) == c) = true
      · go_wp2
        go_ret
        have e : hasL s.data.toList c = true := hasL_of_take _ (k + 1) _ (by rw [take_snoc s k hlt, hasL_snoc, hc]; simp)
        exact ⟨by rw [e]; rfl, rfl⟩
      · have hc' : ((s[k].toNat : Int) == c) = false := by simpa using hc
        clear hc
        go_wp2
        go_round
        case rel => exact ⟨k + 1, by omega, by go_num, by rw [take_snoc s k hlt, hasL_snoc, hc', HN.out]; rfl⟩
        case measure => simp [intOf]; omega
    · go_wp2
      go_ret
      have e : hasL s.data.toList c = false := by
        have := HN.out
        rwa [List.take_of_length_le (by simp; omega)] at this
      exact ⟨by rw [e]; rfl, rfl⟩

set_option maxHeartbeats 400000 in
theorem sign_any (c : Int) (w : World) :
    Calls Tryz.prog 182 #[.int .u8 c] w fun e w' => e = .returned (.bool (signI c)) ∧ w' = w := by
  have s5 : (⟨#[61, 44, 59, 58, 95]⟩ : ByteArray).data.toList = [61, 44, 59, 58, 95] := rfl
  have hz : (⟨#[61, 44, 59, 58, 95]⟩ : ByteArray).size ≤ maxLen := by decide
  have h3 := has_any ⟨#[61, 44, 59, 58, 95]⟩ c w hz
  rw [s5] at h3
  have H3 : Hid (Calls Tryz.prog 61 #[.string ⟨#[61, 44, 59, 58, 95]⟩, .int .u8 c] w fun e w' => e = .returned (.bool (hasL [61, 44, 59, 58, 95] c)) ∧ w' = w) := h3
  clear h3 s5 hz
  cases a : withinB c 97 122 with
  | true =>
    have : signI c = true := by simp [signI, a]
    rw [this]; clear this
    go_enter Tryz.func182, Tryz.ntmps182
    go_wp2_with (go_at_call 193; refine (within_any _ _ _ _).mono ?_; rintro e w' ⟨rfl, rfl⟩)
    go_ret
    exact ⟨by simp, rfl⟩
  | false =>
    cases b : withinB c 48 57 with
    | true =>
      have : signI c = true := by simp [signI, b]
      rw [this]; clear this
      go_enter Tryz.func182, Tryz.ntmps182
      go_wp2_with (go_at_call 193; refine (within_any _ _ _ _).mono ?_; rintro e w' ⟨rfl, rfl⟩)
      go_ret
      exact ⟨by simp, rfl⟩
    | false =>
      have : signI c = hasL [61, 44, 59, 58, 95] c := by simp [signI, a, b]
      rw [this]; clear this
      go_enter Tryz.func182, Tryz.ntmps182
      go_wp2_with (first | (go_at_call 193; refine (within_any _ _ _ _).mono ?_; rintro e w' ⟨rfl, rfl⟩) | (go_at_call 61; refine H3.out.mono ?_; rintro e w' ⟨rfl, rfl⟩))
      go_ret
      exact ⟨by simp, rfl⟩

end Go.Proofs.YtlljggefbngkeaaGreatDoor
