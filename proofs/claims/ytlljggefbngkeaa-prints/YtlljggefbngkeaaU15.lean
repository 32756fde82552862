import Derived.Test.YtlljggefbngkeaaU14
namespace Go.Proofs.Ytlljggefbngkeaa
open Go.RowKit

/-- the block of the program's reader of lenses -/
def sblk (s : ByteArray) (i : Nat) : Obj := .cells #[.string s, .int .i64 i] 55 (0, 0)

/-- the byte at a place; -1: the end -/
def pe (s : ByteArray) (i : Nat) : Int := if i < s.size then pk s i else -1

set_option maxHeartbeats 400000 in
theorem sblank (c : Int) {w : World} : Calls Try.prog 32 #[.int .u8 c] w fun e w' => e = .returned (.bool (blankI c)) ∧ w' = w := by
  by_cases h1 : c = 32
  · subst h1
    go_enter Try.func32, Try.ntmps32
    go_wp2
    go_ret
    exact ⟨rfl, rfl⟩
  · by_cases h2 : c = 10
    · subst h2
      go_enter Try.func32, Try.ntmps32
      go_wp2
      go_ret
      exact ⟨rfl, rfl⟩
    · have q1 : (c == 32) = false := by simpa using h1
      have q2 : (c == 10) = false := by simpa using h2
      have H : Hid (blankI c = false) := by simp [Hid, blankI, h1, h2]
      clear h1 h2
      go_enter Try.func32, Try.ntmps32
      go_wp2
      go_ret
      rw [unhide H]
      exact ⟨rfl, rfl⟩

end Go.Proofs.Ytlljggefbngkeaa

namespace Go.Proofs.Ytlljggefbngkeaa
open Go.RowKit

set_option maxRecDepth 100000 in
set_option maxHeartbeats 1600000 in
theorem speek {w : World} {b : Nat} {s : ByteArray} {i : Nat} (h : w.heap[b]? = some (sblk s i)) (hs : s.size ≤ 120) (hi : i ≤ s.size) :
    Calls Try.prog 20 #[.pointer (some ⟨b, 0, none⟩)] w fun e w' => e = .returned (.int .i64 (pe s (skipB s i))) ∧ w'.heap[b]? = some (sblk s (skipB s i)) ∧ w.grownBy w' (some b) := by
  go_enter Try.func20, Try.ntmps20
  go_wp2_with fail
  go_loopg [3] (s.size - i) (fun k _ wv => ∃ j, j ≤ s.size ∧ s.size - j ≤ k ∧ skipB s j = skipB s i ∧ wv.heap[b]? = some (sblk s j) ∧ w.grownBy wv (some b))
  case atStart => exact ⟨i, hi, Nat.le_refl _, rfl, h, World.grownBy.refl _ _⟩
  case round =>
    obtain ⟨j, hj, hk, hsk, hb, hg⟩ := hrel
    have HR := hide (And.intro hk (And.intro hsk (And.intro hb hg)))
    have c0 := cellOf hb 0
    have c1 := cellOf hb 1
    have fz := frozenOf hb 1
    clear hk hsk hb hg h
    simp at c0 c1
    by_cases hlt : j < s.size
    · have hd : (j : Int) < (s.size : Int) := by omega
      have hpk : pk s j = (s[j].toNat : Int) := by simp [pk, hlt]
      by_cases hbl : blankI (pk s j) = true
      · have HB : Hid (blankI (s[j].toNat : Int) = true) := by rw [← hpk]; exact hbl
        have HC := hide (fun W : World => sblank (s[j].toNat : Int) (w := W))
        rw [unhide HB] at HC
        clear hpk hbl
        go_wp2_with fail
        go_quiet (first | (go_at_call 32; refine Calls.quiet_of_same (unhide HC _)))
        go_wp2_with fail
        go_roundg (gk - 1)
        case measure => have := (unhide HR).1; omega
        case rel =>
          obtain ⟨hk, hsk, hb, hg⟩ := unhide HR
          refine ⟨j + 1, by omega, by omega, ?_, ?_, ?_⟩
          · rw [← hsk, skipB_step s j hlt (by simp only [pk, hlt, dif_pos]; exact unhide HB)]
          · have h1 := heap_set (w := wr.drewN nq) hb 1 (.int .i64 ((j : Int) + 1))
            simpa [sblk] using h1
          · exact (hg.trans (grown_drewN' _ nq _)).trans (grown_set _ _ _ _)
      · have hbf : blankI (pk s j) = false := by simpa using hbl
        have HB : Hid (blankI (s[j].toNat : Int) = false) := by rw [← hpk]; exact hbf
        have HC := hide (fun W : World => sblank (s[j].toNat : Int) (w := W))
        rw [unhide HB] at HC
        have HF : Hid (skipB s j = j ∧ pe s j = (s[j].toNat : Int)) := ⟨skipB_stop s j hbf, by simp [pe, hlt, hpk]⟩
        have hq : ((j : Int) == (s.size : Int)) = false := by rw [beq_eq_false_iff_ne]; omega
        clear hpk hbl hbf
        go_wp2_with fail
        go_quiet (first | (go_at_call 32; refine Calls.quiet_of_same (unhide HC _)))
        rename_i n1
        go_wp2_with fail
        go_quiet (fail)
        go_wp2_with fail
        go_quiet (fail)
        go_wp2
        go_ret
        obtain ⟨hk, hsk, hb, hg⟩ := unhide HR
        rw [← hsk, (unhide HF).1, (unhide HF).2]
        have hw64 : wrap64 (s[j].toNat : Int) = (s[j].toNat : Int) := by have := (s[j]).toNat_lt; unfold wrap64; omega
        exact ⟨by rw [hw64]; rfl, hb, by simpa using hg.trans (grown_drewN' _ _ _)⟩
    · have hd : decide ((j : Int) < (s.size : Int)) = false := by simp; omega
      have hje : j = s.size := by omega
      have hq : ((j : Int) == (s.size : Int)) = true := by rw [beq_iff_eq]; omega
      have HF : Hid (skipB s j = j ∧ pe s j = -1) := ⟨skipB_stop s j (by simp [pk, hlt]; rfl), by simp [pe, hlt]⟩
      go_wp2_with fail
      go_quiet (fail)
      go_wp2_with fail
      go_quiet (fail)
      go_wp2
      go_ret
      obtain ⟨hk, hsk, hb, hg⟩ := unhide HR
      rw [← hsk, (unhide HF).1, (unhide HF).2]
      exact ⟨rfl, hb, by simpa using hg.trans (grown_drewN' _ _ _)⟩

end Go.Proofs.Ytlljggefbngkeaa

namespace Go.Proofs.Ytlljggefbngkeaa
open Go.RowKit

set_option maxHeartbeats 400000 in
theorem stake_no (c : Int) (h0 : 0 ≤ c) (h1 : c ≤ 255) {w : World} {b : Nat} {s : ByteArray} {i : Nat} (h : w.heap[b]? = some (sblk s i)) (hs : s.size ≤ 120) (hi : i ≤ s.size) (hc : pe s (skipB s i) ≠ c) :
    Calls Try.prog 30 #[.pointer (some ⟨b, 0, none⟩), .int .u8 c] w fun e w' => e = .returned (.bool false) ∧ w'.heap[b]? = some (sblk s (skipB s i)) ∧ w.grownBy w' (some b) := by
  have HP := hide (speek h hs hi)
  have hq : (pe s (skipB s i) != c) = true := by rw [bne_iff_ne]; exact hc
  have hw : wrap64 c = c := by unfold wrap64; omega
  clear h hc
  generalize pe s (skipB s i) = p at *
  go_enter Try.func30, Try.ntmps30
  go_wp2_with fail
  refine (unhide HP).mono ?_
  rintro e w1 ⟨rfl, hb, hg⟩
  go_wp2
  go_ret
  exact ⟨rfl, hb, hg⟩

set_option maxHeartbeats 400000 in
theorem stake_ok (c : Int) (h0 : 0 ≤ c) (h1 : c ≤ 255) {w : World} {b : Nat} {s : ByteArray} {i : Nat} (h : w.heap[b]? = some (sblk s i)) (hs : s.size ≤ 120) (hi : i ≤ s.size) (hc : pe s (skipB s i) = c) :
    Calls Try.prog 30 #[.pointer (some ⟨b, 0, none⟩), .int .u8 c] w fun e w' => e = .returned (.bool true) ∧ w'.heap[b]? = some (sblk s (skipB s i + 1)) ∧ w.grownBy w' (some b) := by
  have HP := hide (speek h hs hi)
  have hb2 := (skipB_bd s i hi).2
  rw [hc] at HP
  have hw : wrap64 c = c := by unfold wrap64; omega
  clear h hc
  generalize skipB s i = j at *
  go_enter Try.func30, Try.ntmps30
  go_wp2_with fail
  refine (unhide HP).mono ?_
  rintro e w1 ⟨rfl, hb, hg⟩
  have c1 := cellOf hb 1
  have fz := frozenOf hb 1
  simp at c1
  have HB := hide (And.intro hb hg)
  clear hb hg
  go_wp2
  go_ret
  refine ⟨rfl, ?_, (unhide HB).2.trans (grown_set _ _ _ _)⟩
  have h1 := heap_set (unhide HB).1 1 (.int .i64 ((j : Int) + 1))
  simpa [sblk] using h1

end Go.Proofs.Ytlljggefbngkeaa

namespace Go.Proofs.Ytlljggefbngkeaa
open Go.RowKit

set_option maxHeartbeats 800000 in
theorem sclose_no (c : Int) {w : World} {b : Nat} {s : ByteArray} {i : Nat} (h : w.heap[b]? = some (sblk s i)) (_hs : s.size ≤ 120) (hi : i ≤ s.size) (hc : pe s i ≠ c) :
    Calls Try.prog 67 #[.pointer (some ⟨b, 0, none⟩), .int .u8 c] w fun e w' => e = .returned (.bool false) ∧ ∃ n, w' = w.drewN n := by
  have c0 := cellOf h 0
  have c1 := cellOf h 1
  clear h
  simp at c0 c1
  by_cases hlt : i < s.size
  · have hd : ((i : Int) == (s.size : Int)) = false := by rw [beq_eq_false_iff_ne]; omega
    have hd2 : (i : Int) < (s.size : Int) := by omega
    have hq : ((s[i].toNat : Int) != c) = true := by rw [bne_iff_ne]; intro e; exact hc (by simp [pe, pk, hlt, e])
    clear hc
    go_enter Try.func67, Try.ntmps67
    go_wp2_with fail
    go_quiet (fail)
    go_wp2
    go_ret
    exact ⟨rfl, nq, rfl⟩
  · have hd : ((i : Int) == (s.size : Int)) = true := by rw [beq_iff_eq]; omega
    clear hc
    go_enter Try.func67, Try.ntmps67
    go_wp2_with fail
    go_quiet (fail)
    go_wp2
    go_ret
    exact ⟨rfl, nq, rfl⟩

set_option maxHeartbeats 800000 in
theorem sclose_ok (c : Int) (h0 : 0 ≤ c) {w : World} {b : Nat} {s : ByteArray} {i : Nat} (h : w.heap[b]? = some (sblk s i)) (hs : s.size ≤ 120) (_hi : i ≤ s.size) (hc : pe s i = c) :
    Calls Try.prog 67 #[.pointer (some ⟨b, 0, none⟩), .int .u8 c] w fun e w' => e = .returned (.bool true) ∧ w'.heap[b]? = some (sblk s (i + 1)) ∧ w.grownBy w' (some b) := by
  have c0 := cellOf h 0
  have c1 := cellOf h 1
  have fz := frozenOf h 1
  simp at c0 c1
  have HB := hide h
  clear h
  have hlt : i < s.size := by
    rcases Nat.lt_or_ge i s.size with h | h
    · exact h
    · simp [pe, Nat.not_lt.2 h] at hc; omega
  have hd : ((i : Int) == (s.size : Int)) = false := by rw [beq_eq_false_iff_ne]; omega
  have hd2 : (i : Int) < (s.size : Int) := by omega
  have hq : ((s[i].toNat : Int) != c) = false := by rw [bne_eq_false_iff_eq, ← hc]; simp [pe, pk, hlt]
  clear hc
  go_enter Try.func67, Try.ntmps67
  go_wp2_with fail
  go_quiet (fail)
  go_wp2
  go_ret
  refine ⟨rfl, ?_, (grown_drewN' _ nq _).trans (grown_set _ _ _ _)⟩
  have h1 := heap_set (w := w.drewN nq) (unhide HB) 1 (.int .i64 ((i : Int) + 1))
  simpa [sblk] using h1

set_option maxHeartbeats 800000 in
theorem satPiece {w : World} {b : Nat} {s : ByteArray} {i : Nat} (h : w.heap[b]? = some (sblk s i)) (hs : s.size ≤ 120) (hi : i ≤ s.size) :
    Calls Try.prog 41 #[.pointer (some ⟨b, 0, none⟩)] w fun e w' => e = .returned (.bool (decide (pe s (skipB s i) = 47) || decide (pe s (skipB s i) = 126) || decide (pe s (skipB s i) = 40))) ∧ w'.heap[b]? = some (sblk s (skipB s i)) ∧ w.grownBy w' (some b) := by
  have HP := hide (speek h hs hi)
  clear h
  generalize pe s (skipB s i) = p at *
  by_cases h1 : p = 47
  · subst h1
    go_enter Try.func41, Try.ntmps41
    go_wp2_with fail
    refine (unhide HP).mono ?_
    rintro e w1 ⟨rfl, hb, hg⟩
    go_wp2
    go_ret
    exact ⟨rfl, hb, hg⟩
  · by_cases h2 : p = 126
    · subst h2
      go_enter Try.func41, Try.ntmps41
      go_wp2_with fail
      refine (unhide HP).mono ?_
      rintro e w1 ⟨rfl, hb, hg⟩
      go_wp2
      go_ret
      exact ⟨rfl, hb, hg⟩
    · have q1 : (p == 47) = false := by simpa using h1
      have q2 : (p == 126) = false := by simpa using h2
      have H : Hid ((decide (p = 47) || decide (p = 126) || decide (p = 40)) = (p == 40)) := by
        show _ = _
        rw [decide_eq_false h1, decide_eq_false h2]
        rw [Bool.eq_iff_iff]
        simp
      clear h1 h2
      go_enter Try.func41, Try.ntmps41
      go_wp2_with fail
      refine (unhide HP).mono ?_
      rintro e w1 ⟨rfl, hb, hg⟩
      go_wp2
      go_ret
      rw [unhide H]
      exact ⟨rfl, hb, hg⟩

end Go.Proofs.Ytlljggefbngkeaa
