import Derived.Test.YtlljggefbngkeaaGreatDoorU02
import Derived.BigRegion
import Derived.Maps.AppendAt
import Derived.Maps.Range
namespace Go.Proofs.YtlljggefbngkeaaGreatDoor
open Go.RowKit

theorem cellOf {w : World} {b : Nat} {c : Array Value} {T : TypeId} {f : Nat × Nat} (h : w.heap[b]? = some (.cells c T f)) (o : Nat) : w.cell? ⟨b, o, none⟩ = c[o]? := by
  simp [World.cell?, h]

theorem frozenOf {w : World} {b : Nat} {c : Array Value} {T : TypeId} (h : w.heap[b]? = some (.cells c T (0, 0))) (o : Nat) : w.frozen? ⟨b, o, none⟩ = false := by
  simp [World.frozen?, h]

theorem heap_set {w : World} {b : Nat} {c : Array Value} {T : TypeId} {f : Nat × Nat} (h : w.heap[b]? = some (.cells c T f)) (o : Nat) (v : Value) :
    (w.setCell ⟨b, o, none⟩ v).heap[b]? = some (.cells (c.setIfInBounds o v) T f) := by
  simp [World.setCell, Array.getElem?_modify, h]

theorem heap_lt {w : World} {b : Nat} {x : Obj} (h : w.heap[b]? = some x) : b < w.heap.size := by
  exact (Array.getElem?_eq_some_iff.1 h).1

theorem heap_alloc_old {w : World} {b : Nat} {x : Obj} (o : Obj) (h : w.heap[b]? = some x) : (w.alloc o).heap[b]? = some x := by
  rw [Below.heap_alloc _ _ _ (heap_lt h)]; exact h

theorem grown_set (w : World) (b o : Nat) (v : Value) : w.grownBy (w.setCell ⟨b, o, none⟩ v) (some b) :=
  ⟨rfl, rfl, rfl, by simp [World.setCell], fun k _ hne => Below.heap_setCell _ _ _ _ (fun e => hne (by simp at e; rw [e]))⟩

theorem grown_drewN' (w : World) (n : Nat) (r : Option Nat) : w.grownBy (w.drewN n) r := ⟨rfl, rfl, rfl, Nat.le_refl _, fun _ _ _ => rfl⟩
theorem grown_drew' (w : World) (r : Option Nat) : w.grownBy w.drew r := ⟨rfl, rfl, rfl, Nat.le_refl _, fun _ _ _ => rfl⟩

theorem drew_heap (w : World) : w.drew.heap = w.heap := rfl

/-- the reader's block -/
def rblk (s : ByteArray) (i : Nat) (bad : Bool) (wr : Int) (out : ByteArray) (pv lv : Value) : Obj :=
  .cells #[.string s, .int .i64 i, .bool bad, .int .i64 wr, .string out, pv, lv] 75 (0, 0)

/-- the byte at hand -/
def peekI (s : ByteArray) (i : Nat) (bad : Bool) : Int := if bad then 0 else if h : i < s.size then (s[i].toNat : Int) else 0

theorem peekI_bad (s : ByteArray) (i : Nat) : peekI s i true = 0 := rfl
theorem peekI_end (s : ByteArray) (i : Nat) (b : Bool) (h : ¬ i < s.size) : peekI s i b = 0 := by simp [peekI, h]
theorem peekI_at (s : ByteArray) (i : Nat) (h : i < s.size) : peekI s i false = (s[i].toNat : Int) := by simp [peekI, h]

set_option maxHeartbeats 400000 in
theorem peek_any {w : World} {b : Nat} {s : ByteArray} {i : Nat} {bad : Bool} {wr : Int} {out : ByteArray} {pv lv : Value} (h : w.heap[b]? = some (rblk s i bad wr out pv lv)) (_hs : s.size ≤ 120) (hi : i ≤ s.size) :
    Calls Tryz.prog 58 #[.pointer (some ⟨b, 0, none⟩)] w fun e w' => e = .returned (.int .u8 (peekI s i bad)) ∧ ∃ n, w' = w.drewN n := by
  have c0 := cellOf h 0
  have c1 := cellOf h 1
  have c2 := cellOf h 2
  clear h
  simp at c0 c1 c2
  cases bad with
  | true =>
    go_enter Tryz.func58, Tryz.ntmps58
    go_wp2_with fail
    go_quiet (fail)
    go_wp2
    go_ret
    exact ⟨by simp [peekI], nq, rfl⟩
  | false =>
    by_cases hlt : i < s.size
    · have hd : decide ((s.size : Int) ≤ (i : Int)) = false := by simp; omega
      go_enter Tryz.func58, Tryz.ntmps58
      go_wp2_with fail
      go_quiet (fail)
      go_wp2_with fail
      go_quiet (fail)
      go_wp2
      go_ret
      exact ⟨by simp [peekI, hlt], _, World.drewN_drewN _ _ _⟩
    · have hd : decide ((s.size : Int) ≤ (i : Int)) = true := by simp; omega
      go_enter Tryz.func58, Tryz.ntmps58
      go_wp2_with fail
      go_quiet (fail)
      go_wp2
      go_ret
      exact ⟨by simp [peekI, hlt], nq, rfl⟩

set_option maxHeartbeats 400000 in
/-- nothing to take: the reader is bad -/
theorem take_no {w : World} {b : Nat} {s : ByteArray} {i : Nat} {bad : Bool} {wr : Int} {out : ByteArray} {pv lv : Value} (h : w.heap[b]? = some (rblk s i bad wr out pv lv)) (hs : s.size ≤ 120) (hi : i ≤ s.size) (hno : bad = true ∨ ¬ i < s.size) :
    Calls Tryz.prog 59 #[.pointer (some ⟨b, 0, none⟩)] w fun e w' => e = .returned (.int .u8 0) ∧ w'.heap[b]? = some (rblk s i true wr out pv lv) ∧ w.grownBy w' (some b) := by
  have c0 := cellOf h 0
  have c1 := cellOf h 1
  have c2 := cellOf h 2
  have fz := frozenOf h 2
  have hp := peek_any h hs hi
  have HP : Hid (Calls Tryz.prog 58 #[.pointer (some ⟨b, 0, none⟩)] w fun e w' => e = .returned (.int .u8 (peekI s i bad)) ∧ ∃ n, w' = w.drewN n) := hp
  have HB : Hid (w.heap[b]? = some (rblk s i bad wr out pv lv)) := h
  clear h hp
  simp at c0 c1 c2
  have fin : ∀ n, ((w.drewN n).setCell ⟨b, 2, none⟩ (.bool true)).heap[b]? = some (rblk s i true wr out pv lv) ∧ w.grownBy ((w.drewN n).setCell ⟨b, 2, none⟩ (.bool true)) (some b) := by
    intro n
    refine ⟨?_, (grown_drewN' w n _).trans (grown_set _ _ _ _)⟩
    have := heap_set (w := w.drewN n) (b := b) HB.out 2 (.bool true)
    simpa [rblk] using this
  cases bad with
  | true =>
    go_enter Tryz.func59, Tryz.ntmps59
    go_wp2_with (go_at_call 58; refine HP.out.mono ?_; rintro e w' ⟨rfl, n, rfl⟩)
    go_quiet (fail)
    go_wp2
    go_ret
    refine ⟨rfl, ?_⟩
    have := fin (n + nq)
    simpa using this
  | false =>
    have hlt : ¬ i < s.size := by simpa using hno
    have hd : decide ((s.size : Int) ≤ (i : Int)) = true := by simp; omega
    go_enter Tryz.func59, Tryz.ntmps59
    go_wp2_with (go_at_call 58; refine HP.out.mono ?_; rintro e w' ⟨rfl, n, rfl⟩)
    go_quiet (fail)
    go_wp2
    go_ret
    refine ⟨rfl, ?_⟩
    have := fin (n + nq)
    simpa using this

/-- a text of one byte -/
theorem conv1 (W : World) (k : Nat) (x : UInt8) (h : W.cell? ⟨k, 0, none⟩ = some (.int .u8 (x.toNat : Int))) :
    (convert 96 9 (.slice (some ⟨k, 0, none⟩) 1 1)).run Tryz.prog W = .ok (.string ⟨#[x]⟩) W := by
  have hc : ∀ i, i < 1 → W.cell? ⟨k, 0 + i, none⟩ = some (.int .u8 ([(x.toNat : Int)].getD i 0)) := by
    intro i hi
    obtain rfl : i = 0 := by omega
    simpa using h
  have := run_convert_bytes_arg (P := Tryz.prog) W 96 5 Tryz.underlying96 Tryz.underlying5 k 0 1 1 [(x.toNat : Int)] rfl hc 9 Tryz.underlying9
  rw [this]
  simp [strOfNums]

set_option maxHeartbeats 800000 in
/-- a byte is taken -/
theorem take_ok {w : World} {b : Nat} {s : ByteArray} {i : Nat} {wr : Int} {out : ByteArray} {pv lv : Value} (h : w.heap[b]? = some (rblk s i false wr out pv lv)) (hs : s.size ≤ 120) (hi : i < s.size) (ho : out.size ≤ 100000) :
    Calls Tryz.prog 59 #[.pointer (some ⟨b, 0, none⟩)] w fun e w' => e = .returned (.int .u8 (peekI s i false)) ∧ w'.heap[b]? = some (rblk s (i + 1) false wr (out ++ ⟨#[s[i]]⟩) pv lv) ∧ w.grownBy w' (some b) := by
  have c0 := cellOf h 0
  have c1 := cellOf h 1
  have c2 := cellOf h 2
  have c4 := cellOf h 4
  have fz := frozenOf h
  have hbl := heap_lt h
  have hp := peek_any h hs (Nat.le_of_lt hi)
  rw [peekI_at s i hi] at hp ⊢
  have HP : Hid (Calls Tryz.prog 58 #[.pointer (some ⟨b, 0, none⟩)] w fun e w' => e = .returned (.int .u8 (s[i].toNat : Int)) ∧ ∃ n, w' = w.drewN n) := hp
  have HB : Hid (w.heap[b]? = some (rblk s i false wr out pv lv)) := h
  clear h hp
  simp at c0 c1 c2 c4
  have hd : decide ((s.size : Int) ≤ (i : Int)) = false := by simp; omega
  have hno : ¬ 9223372036854775807 < out.size + 1 := by omega
  have hcv := fun W k => conv1 W k s[i]
  go_enter Tryz.func59, Tryz.ntmps59
  go_wp2_with (go_at_call 58; refine HP.out.mono ?_; rintro e w' ⟨rfl, n, rfl⟩)
  go_quiet (fail)
  go_wp2
  go_region
  go_wp2
  go_ret
  refine ⟨rfl, ?_, ?_⟩
  · have h1 := heap_alloc_old (.cells #[.int .u8 (s[i].toNat : Int)] 5) (heap_set (heap_set (w := w.drewN (n + nq)) HB.out 1 (.int .i64 ((i : Int) + 1))) 4 (.string (out ++ ⟨#[s[i]]⟩)))
    simpa [rblk, drew_heap] using h1
  · exact ((((grown_drewN' w (n + nq) _).trans (grown_set _ _ _ _)).trans (grown_set _ _ _ _)).trans (World.grownBy_alloc _ _ _)).trans (grown_drew' _ _)

set_option maxHeartbeats 400000 in
theorem eat_ok {w : World} {b : Nat} {s : ByteArray} {i : Nat} {wr : Int} {out : ByteArray} {pv lv : Value} (c : Int) (h : w.heap[b]? = some (rblk s i false wr out pv lv)) (hs : s.size ≤ 120) (hi : i < s.size) (ho : out.size ≤ 100000) (hc : peekI s i false = c) :
    Calls Tryz.prog 155 #[.pointer (some ⟨b, 0, none⟩), .int .u8 c] w fun e w' => e = .returned (.tuple #[]) ∧ w'.heap[b]? = some (rblk s (i + 1) false wr (out ++ ⟨#[s[i]]⟩) pv lv) ∧ w.grownBy w' (some b) := by
  subst hc
  have HP := hide (peek_any h hs (Nat.le_of_lt hi))
  have HT := hide (fun n => take_ok (w := w.drewN n) h hs hi ho)
  clear h
  have hq : (peekI s i false == peekI s i false) = true := by simp
  generalize peekI s i false = p at *
  go_enter Tryz.func155, Tryz.ntmps155
  go_wp2_with (first | (go_at_call 58; refine (unhide HP).mono ?_; rintro e w' ⟨rfl, n, rfl⟩) | (go_at_call 59; refine (unhide HT _).mono ?_; rintro e w' ⟨rfl, hw1, hw2⟩))
  go_end0
  exact ⟨rfl, hw1, (grown_drewN' w n _).trans hw2⟩

set_option maxHeartbeats 400000 in
theorem eat_no {w : World} {b : Nat} {s : ByteArray} {i : Nat} {bad : Bool} {wr : Int} {out : ByteArray} {pv lv : Value} (c : Int) (h : w.heap[b]? = some (rblk s i bad wr out pv lv)) (hs : s.size ≤ 120) (hi : i ≤ s.size) (hc : peekI s i bad ≠ c) :
    Calls Tryz.prog 155 #[.pointer (some ⟨b, 0, none⟩), .int .u8 c] w fun e w' => e = .returned (.tuple #[]) ∧ w'.heap[b]? = some (rblk s i true wr out pv lv) ∧ w.grownBy w' (some b) := by
  have HP := hide (peek_any h hs hi)
  have c2 := cellOf h 2
  have fz := frozenOf h 2
  have HB := hide h
  clear h
  simp at c2
  have hq : (peekI s i bad == c) = false := by simpa using hc
  clear hc
  generalize peekI s i bad = p at *
  go_enter Tryz.func155, Tryz.ntmps155
  go_wp2_with (go_at_call 58; refine (unhide HP).mono ?_; rintro e w' ⟨rfl, n, rfl⟩)
  go_end0
  refine ⟨rfl, ?_, (grown_drewN' w n _).trans (grown_set _ _ _ _)⟩
  have h1 := heap_set (w := w.drewN n) (unhide HB) 2 (.bool true)
  simpa [rblk] using h1

end Go.Proofs.YtlljggefbngkeaaGreatDoor
