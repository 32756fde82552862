import Derived.Test.YtlljggefbngkeaaGreatDoorU03
import Derived.Test.YtlljggefbngkeaaGreatDoorU01
import Derived.Deep.LoopGhost
namespace Go.Proofs.YtlljggefbngkeaaGreatDoor
open Go.RowKit

theorem lt_of_peek (s : ByteArray) (i : Nat) (b : Bool) (h : peekI s i b ≠ 0) : i < s.size ∧ b = false := by
  unfold peekI at h
  by_cases hb : b = true
  · simp [hb] at h
  · by_cases hi : i < s.size
    · exact ⟨hi, by simpa using hb⟩
    · simp [hi] at h
theorem peekI_bd (s : ByteArray) (i : Nat) (b : Bool) : 0 ≤ peekI s i b ∧ peekI s i b ≤ 255 := by
  unfold peekI
  split
  · omega
  · split
    · rename_i h
      have := (s[i]).toNat_lt
      omega
    · omega

set_option maxHeartbeats 800000 in
theorem blanks_any {w : World} {b : Nat} {s : ByteArray} {i : Nat} {wn : Int} {out : ByteArray} {pv lv : Value} (h : w.heap[b]? = some (rblk s i false wn out pv lv)) (hs : s.size ≤ 120) (hi : i ≤ s.size) :
    Calls Tryz.prog 56 #[.pointer (some ⟨b, 0, none⟩)] w fun e w' => e = .returned (.tuple #[]) ∧ w'.heap[b]? = some (rblk s (skipB s i) false wn out pv lv) ∧ w.grownBy w' (some b) := by
  go_enter Tryz.func56, Tryz.ntmps56
  go_wp2_with fail
  go_loopg [2] (s.size - i) (fun k _ wv => ∃ j, j ≤ s.size ∧ s.size - j ≤ k ∧ skipB s j = skipB s i ∧ wv.heap[b]? = some (rblk s j false wn out pv lv) ∧ w.grownBy wv (some b))
  case atStart => exact ⟨i, hi, Nat.le_refl _, rfl, h, World.grownBy.refl _ _⟩
  case round =>
    obtain ⟨j, hj, hk, hsk, hb, hg⟩ := hrel
    have HR := hide (And.intro hk (And.intro hsk (And.intro hb hg)))
    have c1 := cellOf hb 1
    have fz := frozenOf hb 1
    have HP := hide (peek_any hb hs hj)
    have HP2 := hide (fun n => peek_any (w := wr.drewN n) hb hs hj)
    clear hk hsk hb hg h
    simp at c1
    by_cases h1 : peekI s j false = 32
    · have hlt := (lt_of_peek s j false (by rw [h1]; omega)).1
      rw [h1] at HP HP2
      have H1 := hide h1
      clear h1
      go_wp2_with (go_at_call 58; refine (unhide HP).mono ?_; rintro e w' ⟨rfl, n, rfl⟩)
      go_roundg (gk - 1)
      case measure => have := (unhide HR).1; omega
      case rel =>
        obtain ⟨hk, hsk, hb, hg⟩ := unhide HR
        refine ⟨j + 1, by omega, by omega, ?_, ?_, ?_⟩
        · rw [← hsk, skipB_step s j hlt (by rw [show pk s j = _ from unhide H1]; rfl)]
        · have h1 := heap_set (w := wr.drewN n) hb 1 (.int .i64 ((j : Int) + 1))
          simpa [rblk] using h1
        · exact (hg.trans (grown_drewN' _ n _)).trans (grown_set _ _ _ _)
    · by_cases h2 : peekI s j false = 10
      · have hlt := (lt_of_peek s j false (by rw [h2]; omega)).1
        rw [h2] at HP HP2
        have H1 := hide h2
        clear h1 h2
        go_wp2_with (go_at_call 58; first | (refine (unhide HP).mono ?_; rintro e w' ⟨rfl, n, rfl⟩) | (refine (unhide HP2 _).mono ?_; rintro e w' ⟨rfl, n2, rfl⟩))
        go_roundg (gk - 1)
        case measure => have := (unhide HR).1; omega
        case rel =>
          obtain ⟨hk, hsk, hb, hg⟩ := unhide HR
          refine ⟨j + 1, by omega, by omega, ?_, ?_, ?_⟩
          · rw [← hsk, skipB_step s j hlt (by rw [show pk s j = _ from unhide H1]; rfl)]
          · have h1 := heap_set (w := wr.drewN (n + n2)) hb 1 (.int .i64 ((j : Int) + 1))
            simpa [rblk] using h1
          · simpa using (hg.trans (grown_drewN' _ (n + n2) _)).trans (grown_set _ _ _ _)
      · have H1 : Hid (blankI (peekI s j false) = false) := by simp [Hid, blankI, h1, h2]
        have q1 : (peekI s j false == 32) = false := by simpa using h1
        have q2 : (peekI s j false == 10) = false := by simpa using h2
        clear h1 h2
        have HF := hide (skipB_stop s j (unhide H1))
        clear H1
        generalize peekI s j false = p at *
        go_wp2_with (go_at_call 58; first | (refine (unhide HP).mono ?_; rintro e w' ⟨rfl, n, rfl⟩) | (refine (unhide HP2 _).mono ?_; rintro e w' ⟨rfl, n2, rfl⟩))
        go_end0
        obtain ⟨hk, hsk, hb, hg⟩ := unhide HR
        rw [← hsk, unhide HF]
        refine ⟨rfl, ?_, ?_⟩
        · exact hb
        · simpa using hg.trans (grown_drewN' _ (n + n2) _)

set_option maxHeartbeats 400000 in
/-- a bad reader skips nothing -/
theorem blanks_bad {w : World} {b : Nat} {s : ByteArray} {i : Nat} {wn : Int} {out : ByteArray} {pv lv : Value} (h : w.heap[b]? = some (rblk s i true wn out pv lv)) (hs : s.size ≤ 120) (hi : i ≤ s.size) :
    Calls Tryz.prog 56 #[.pointer (some ⟨b, 0, none⟩)] w fun e w' => e = .returned (.tuple #[]) ∧ w'.heap[b]? = some (rblk s i true wn out pv lv) ∧ w.grownBy w' (some b) := by
  go_enter Tryz.func56, Tryz.ntmps56
  go_wp2_with fail
  go_loopg [2] 0 (fun _ _ wv => wv = w)
  case atStart => rfl
  case round =>
    subst hrel
    have HP := hide (peek_any h hs hi)
    have HP2 := hide (fun n => peek_any (w := wr.drewN n) h hs hi)
    have HB := hide h
    clear h
    rw [peekI_bad] at HP HP2
    go_wp2_with (go_at_call 58; first | (refine (unhide HP).mono ?_; rintro e w' ⟨rfl, n, rfl⟩) | (refine (unhide HP2 _).mono ?_; rintro e w' ⟨rfl, n2, rfl⟩))
    go_end0
    exact ⟨rfl, unhide HB, by simpa using grown_drewN' wr (n + n2) _⟩

set_option maxHeartbeats 400000 in
theorem rsign_ok {w : World} {b : Nat} {s : ByteArray} {i : Nat} {wn : Int} {out : ByteArray} {pv lv : Value} (h : w.heap[b]? = some (rblk s i false wn out pv lv)) (hs : s.size ≤ 120) (hi : i < s.size) (ho : out.size ≤ 100000) (hc : signI (peekI s i false) = true) :
    Calls Tryz.prog 192 #[.pointer (some ⟨b, 0, none⟩)] w fun e w' => e = .returned (.int .u8 (peekI s i false)) ∧ w'.heap[b]? = some (rblk s (i + 1) false wn (out ++ ⟨#[s[i]]⟩) pv lv) ∧ w.grownBy w' (some b) := by
  have HP := hide (peek_any h hs (Nat.le_of_lt hi))
  have HT := hide (fun n => take_ok (w := w.drewN n) h hs hi ho)
  clear h
  have HS := hide (fun w => sign_any (peekI s i false) w)
  rw [hc] at HS
  clear hc
  generalize peekI s i false = p at *
  go_enter Tryz.func192, Tryz.ntmps192
  go_wp2_with (first | (go_at_call 58; refine (unhide HP).mono ?_; rintro e w' ⟨rfl, n, rfl⟩) | (go_at_call 182; refine (unhide HS _).mono ?_; rintro e w' ⟨rfl, rfl⟩) | (go_at_call 59; refine (unhide HT _).mono ?_; rintro e w' ⟨rfl, hw1, hw2⟩))
  go_ret
  exact ⟨rfl, hw1, (grown_drewN' w n _).trans hw2⟩

set_option maxHeartbeats 400000 in
theorem rsign_no {w : World} {b : Nat} {s : ByteArray} {i : Nat} {bad : Bool} {wn : Int} {out : ByteArray} {pv lv : Value} (h : w.heap[b]? = some (rblk s i bad wn out pv lv)) (hs : s.size ≤ 120) (hi : i ≤ s.size) (hc : signI (peekI s i bad) = false) :
    Calls Tryz.prog 192 #[.pointer (some ⟨b, 0, none⟩)] w fun e w' => e = .returned (.int .u8 0) ∧ w'.heap[b]? = some (rblk s i true wn out pv lv) ∧ w.grownBy w' (some b) := by
  have HP := hide (peek_any h hs hi)
  have c2 := cellOf h 2
  have fz := frozenOf h 2
  have HB := hide h
  clear h
  simp at c2
  have HS := hide (fun w => sign_any (peekI s i bad) w)
  rw [hc] at HS
  clear hc
  generalize peekI s i bad = p at *
  go_enter Tryz.func192, Tryz.ntmps192
  go_wp2_with (first | (go_at_call 58; refine (unhide HP).mono ?_; rintro e w' ⟨rfl, n, rfl⟩) | (go_at_call 182; refine (unhide HS _).mono ?_; rintro e w' ⟨rfl, rfl⟩))
  go_ret
  refine ⟨rfl, ?_, (grown_drewN' w n _).trans (grown_set _ _ _ _)⟩
  have h1 := heap_set (w := w.drewN n) (unhide HB) 2 (.bool true)
  simpa [rblk] using h1

end Go.Proofs.YtlljggefbngkeaaGreatDoor
