import Derived.Test.YtlljggefbngkeaaGreatDoorV05
import Derived.Lib.Bytealg
import Derived.Test.YtlljggefbngkeaaGreatDoorV01
namespace Go.Proofs.YtlljggefbngkeaaGreatDoor
open Go.RowKit

/-- the program's signs, in the order of their bytes -/
def signT : List UInt8 := [44, 48, 49, 50, 51, 52, 53, 54, 55, 56, 57, 58, 59, 61, 95, 97, 98, 99, 100, 101, 102, 103, 104, 105, 106, 107, 108, 109, 110, 111, 112, 113, 114, 115, 116, 117, 118, 119, 120, 121, 122]
def idxI (c : Int) : Int := Lib.indexByte signT c.toNat.toUInt8

theorem idx_tab : ∀ c : Fin 256, (decide (0 ≤ idxI (c.val : Int)) = signI (c.val : Int)) ∧ idxI (c.val : Int) ≤ 40 ∧ -1 ≤ idxI (c.val : Int) := by decide +kernel

theorem idx_sign (c : Int) (h0 : 0 ≤ c) (h1 : c ≤ 255) : decide (0 ≤ idxI c) = signI c ∧ idxI c ≤ 40 ∧ -1 ≤ idxI c := by
  have := idx_tab ⟨c.toNat, by omega⟩
  simp only [Int.toNat_of_nonneg h0] at this
  exact this

set_option maxHeartbeats 400000 in
set_option maxRecDepth 100000 in
theorem ib_lite (s : ByteArray) (c : Int) (w : World) :
    Calls Tryz.prog 190 #[.string s, .int .u8 c] w fun e w' => e = .returned (.int .i64 (Lib.indexByte s.data.toList c.toNat.toUInt8)) ∧ w' = w := by
  go_enter Tryz.func190, Tryz.ntmps190
  go_wp2
  rw [run_callFunc_extern Tryz.func197 (by kernel_rfl) (by kernel_rfl) (by kernel_rfl) (e := Extern.BytealgIndexByte.indexByte) (by kernel_rfl), Lib.run_indexByteString]
  simp only [Result.andThen]
  rw [Oper.upon_value]
  go_wp2
  go_ret
  exact ⟨rfl, rfl⟩

set_option maxHeartbeats 400000 in
theorem ib_any (s : ByteArray) (c : Int) (w : World) :
    Calls Tryz.prog 180 #[.string s, .int .u8 c] w fun e w' => e = .returned (.int .i64 (Lib.indexByte s.data.toList c.toNat.toUInt8)) ∧ w' = w := by
  go_enter Tryz.func180, Tryz.ntmps180
  go_wp2_with (go_at_call 190; refine (ib_lite _ _ _).mono ?_; rintro e w' ⟨rfl, rfl⟩)
  go_ret
  exact ⟨rfl, rfl⟩

set_option maxHeartbeats 400000 in
theorem isSign_any (c : Int) (h0 : 0 ≤ c) (h1 : c ≤ 255) (w : World) :
    Calls Tryz.prog 201 #[.int .u8 c] w fun e w' => e = .returned (.bool (signI c)) ∧ w' = w := by
  have H := hide (ib_any (txt signT) c w)
  rw [show Lib.indexByte (txt signT).data.toList c.toNat.toUInt8 = idxI c from by simp [txt, idxI]] at H
  obtain ⟨hs, hb1, hb2⟩ := idx_sign c h0 h1
  have Hs := hide hs
  clear hs
  generalize idxI c = x at *
  go_enter Tryz.func201, Tryz.ntmps201
  go_wp2_with fail
  refine (unhide H).mono ?_
  rintro e w1 ⟨rfl, rfl⟩
  go_wp2
  go_ret
  exact ⟨by rw [← unhide Hs]; rfl, rfl⟩

/-- the program's reader of patterns: its two cells -/
def qblk (s : ByteArray) (i : Nat) : Obj := .cells #[.string s, .int .i64 i] 244 (0, 0)

set_option maxHeartbeats 400000 in
theorem qpeek {w : World} {b : Nat} {s : ByteArray} {i : Nat} (h : w.heap[b]? = some (qblk s i)) (_hs : s.size ≤ 120) (hi : i ≤ s.size) :
    Calls Tryz.prog 205 #[.pointer (some ⟨b, 0, none⟩)] w fun e w' => e = .returned (.int .u8 (pk s i)) ∧ ∃ n, w' = w.drewN n := by
  have c0 := cellOf h 0
  have c1 := cellOf h 1
  clear h
  simp at c0 c1
  by_cases hlt : i < s.size
  · have hd : ((i : Int) == (s.size : Int)) = false := by rw [beq_eq_false_iff_ne]; omega
    go_enter Tryz.func205, Tryz.ntmps205
    go_wp2_with fail
    go_quiet (fail)
    go_wp2_with fail
    go_quiet (fail)
    go_wp2
    go_ret
    exact ⟨by simp [pk, hlt], _, World.drewN_drewN _ _ _⟩
  · have hd : ((i : Int) == (s.size : Int)) = true := by rw [beq_iff_eq]; omega
    go_enter Tryz.func205, Tryz.ntmps205
    go_wp2_with fail
    go_quiet (fail)
    go_wp2
    go_ret
    exact ⟨by simp [pk, hlt], nq, rfl⟩

theorem qset {w : World} {b : Nat} {s : ByteArray} {i : Nat} (h : w.heap[b]? = some (qblk s i)) (j : Nat) : (w.setCell ⟨b, 1, none⟩ (.int .i64 (j : Int))).heap[b]? = some (qblk s j) := by
  have := heap_set h 1 (.int .i64 (j : Int))
  simpa [qblk] using this

set_option maxHeartbeats 400000 in
theorem qtake_no (c : Int) {w : World} {b : Nat} {s : ByteArray} {i : Nat} (h : w.heap[b]? = some (qblk s i)) (hs : s.size ≤ 120) (hi : i ≤ s.size) (hc : pk s i ≠ c) :
    Calls Tryz.prog 200 #[.pointer (some ⟨b, 0, none⟩), .int .u8 c] w fun e w' => e = .returned (.bool false) ∧ ∃ n, w' = w.drewN n := by
  have HP := hide (qpeek h hs hi)
  have hq : (pk s i != c) = true := by rw [bne_iff_ne]; exact hc
  clear h hc
  generalize pk s i = p at *
  go_enter Tryz.func200, Tryz.ntmps200
  go_wp2_with (go_at_call 205; refine (unhide HP).mono ?_; rintro e w' ⟨rfl, n, rfl⟩)
  go_ret
  exact ⟨rfl, n, rfl⟩

set_option maxHeartbeats 400000 in
theorem qtake_ok (c : Int) {w : World} {b : Nat} {s : ByteArray} {i : Nat} (h : w.heap[b]? = some (qblk s i)) (hs : s.size ≤ 120) (hi : i < s.size) (hc : pk s i = c) :
    Calls Tryz.prog 200 #[.pointer (some ⟨b, 0, none⟩), .int .u8 c] w fun e w' => e = .returned (.bool true) ∧ w'.heap[b]? = some (qblk s (i + 1)) ∧ w.grownBy w' (some b) := by
  have HP := hide (qpeek h hs (Nat.le_of_lt hi))
  rw [hc] at HP
  have c1 := cellOf h 1
  have fz := frozenOf h 1
  have HB := hide h
  have hq : (c != c) = false := by simp
  clear h hc
  simp at c1
  go_enter Tryz.func200, Tryz.ntmps200
  go_wp2_with (go_at_call 205; refine (unhide HP).mono ?_; rintro e w' ⟨rfl, n, rfl⟩)
  go_ret
  refine ⟨rfl, ?_, (grown_drewN' w n _).trans (grown_set _ _ _ _)⟩
  have := qset (w := w.drewN n) (unhide HB) (i + 1)
  simpa using this

set_option maxHeartbeats 400000 in
theorem qatBase {w : World} {b : Nat} {s : ByteArray} {i : Nat} (h : w.heap[b]? = some (qblk s i)) (hs : s.size ≤ 120) (hi : i ≤ s.size) :
    Calls Tryz.prog 202 #[.pointer (some ⟨b, 0, none⟩)] w fun e w' => e = .returned (.bool (atBase (pk s i))) ∧ ∃ n, w' = w.drewN n := by
  have HP := hide (qpeek h hs hi)
  have hb := pk_bd s i
  clear h
  generalize pk s i = p at *
  by_cases h1 : p = 91
  · subst h1
    go_enter Tryz.func202, Tryz.ntmps202
    go_wp2_with (go_at_call 205; refine (unhide HP).mono ?_; rintro e w' ⟨rfl, n, rfl⟩)
    go_ret
    exact ⟨rfl, n, rfl⟩
  · by_cases h2 : p = 40
    · subst h2
      go_enter Tryz.func202, Tryz.ntmps202
      go_wp2_with (go_at_call 205; refine (unhide HP).mono ?_; rintro e w' ⟨rfl, n, rfl⟩)
      go_ret
      exact ⟨rfl, n, rfl⟩
    · have q1 : (p == 91) = false := by simpa using h1
      have q2 : (p == 40) = false := by simpa using h2
      have HS := hide (fun W => isSign_any p hb.1 hb.2 W)
      have Hat : Hid (atBase p = signI p) := by show atBase p = _; simp [atBase, h1, h2]
      clear h1 h2
      generalize signI p = x at *
      go_enter Tryz.func202, Tryz.ntmps202
      go_wp2_with (first | (go_at_call 205; refine (unhide HP).mono ?_; rintro e w' ⟨rfl, n, rfl⟩) | (go_at_call 201; refine (unhide HS _).mono ?_; rintro e w2 ⟨rfl, rfl⟩))
      go_ret
      exact ⟨by rw [unhide Hat]; rfl, n, rfl⟩

end Go.Proofs.YtlljggefbngkeaaGreatDoor

namespace Go.Proofs.YtlljggefbngkeaaGreatDoor
open Go.RowKit

theorem span_tab : ∀ lo hi : Fin 41, lo.val ≤ hi.val → IntKind.u64.wrap (IntKind.u64.wrap (2 ^ (hi.val + 1)) - IntKind.u64.wrap (2 ^ lo.val)) = ((2 ^ (hi.val + 1) - 2 ^ lo.val : Nat) : Int) := by decide +kernel

theorem span_bit : ∀ lo hi i : Fin 41, lo.val ≤ hi.val → (2 ^ (hi.val + 1) - 2 ^ lo.val : Nat).testBit i.val = (decide (lo.val ≤ i.val) && decide (i.val ≤ hi.val)) := by decide +kernel

set_option maxRecDepth 100000 in
set_option maxHeartbeats 800000 in
theorem pspan (a c : Int) (lo hi : Nat) (ha : idxI a = lo) (hc : idxI c = hi) (hlo : lo ≤ hi) (hhi : hi ≤ 40) (w : World) :
    Calls Tryz.prog 171 #[.int .u8 a, .int .u8 c] w fun e w' => e = .returned (.int .u64 ((2 ^ (hi + 1) - 2 ^ lo : Nat) : Int)) ∧ ∃ n, w' = w.drewN n := by
  have H1 := hide (fun W => ib_any (txt signT) a W)
  rw [show Lib.indexByte (txt signT).data.toList a.toNat.toUInt8 = idxI a from by simp [txt, idxI], ha] at H1
  have H2 := hide (fun W => ib_any (txt signT) c W)
  rw [show Lib.indexByte (txt signT).data.toList c.toNat.toUInt8 = idxI c from by simp [txt, idxI], hc] at H2
  clear ha hc
  go_enter Tryz.func171, Tryz.ntmps171
  go_wp2_with fail
  refine (unhide H1 _).mono ?_
  rintro e w1 ⟨rfl, rfl⟩
  go_wp2_with fail
  refine (unhide H2 _).mono ?_
  rintro e w2 ⟨rfl, rfl⟩
  have h0 : (0 : Int) ≤ (lo : Int) := by omega
  have h1 : (0 : Int) ≤ (hi : Int) + 1 := by omega
  go_wp2_with fail
  go_quiet (fail)
  go_wp2
  go_ret
  have := span_tab ⟨lo, by omega⟩ ⟨hi, by omega⟩ hlo
  simp only at this
  exact ⟨by rw [← this]; rfl, nq, rfl⟩

set_option maxRecDepth 100000 in
set_option maxHeartbeats 800000 in
/-- a byte that is no sign is in no set -/
theorem phas_no (n c : Int) (h : idxI c < 0) (w : World) :
    Calls Tryz.prog 166 #[.int .u64 n, .int .u8 c] w fun e w' => e = .returned (.bool false) ∧ w' = w := by
  have H1 := hide (fun W => ib_any (txt signT) c W)
  rw [show Lib.indexByte (txt signT).data.toList c.toNat.toUInt8 = idxI c from by simp [txt, idxI]] at H1
  generalize idxI c = x at *
  have hx : ¬ (0 : Int) ≤ x := by omega
  have hd : decide ((0 : Int) ≤ x) = false := by simpa using hx
  go_enter Tryz.func166, Tryz.ntmps166
  go_wp2_with fail
  refine (unhide H1 _).mono ?_
  rintro e w1 ⟨rfl, rfl⟩
  go_wp2
  go_ret
  exact ⟨by simp, rfl⟩

theorem has_bit (n i : Nat) (hn : n < 2 ^ 41) : (bits BinOp.and IntKind.u64 ((n : Int) / 2 ^ i) 1 == 1) = n.testBit i := by
  have e : ((n : Int) / 2 ^ i) = ((n / 2 ^ i : Nat) : Int) := by simp
  have hle : n / 2 ^ i ≤ n := Nat.div_le_self _ _
  rw [e, Nat.testBit_eq_decide_div_mod_eq]
  generalize n / 2 ^ i = q at *
  rw [and_one_u64 _ (by omega) (by omega), Bool.eq_iff_iff]
  simp only [beq_iff_eq, decide_eq_true_eq]
  omega

set_option maxRecDepth 100000 in
set_option maxHeartbeats 800000 in
theorem phas_yes (n : Nat) (c : Int) (i : Nat) (hn : n < 2 ^ 41) (h : idxI c = i) (hi : i ≤ 40) (w : World) :
    Calls Tryz.prog 166 #[.int .u64 (n : Int), .int .u8 c] w fun e w' => e = .returned (.bool (n.testBit i)) ∧ w' = w := by
  have H1 := hide (fun W => ib_any (txt signT) c W)
  rw [show Lib.indexByte (txt signT).data.toList c.toNat.toUInt8 = idxI c from by simp [txt, idxI], h] at H1
  clear h
  have h0 : (0 : Int) ≤ (i : Int) := by omega
  have hd : decide ((0 : Int) ≤ (i : Int)) = true := by simp
  go_enter Tryz.func166, Tryz.ntmps166
  go_wp2_with fail
  refine (unhide H1 _).mono ?_
  rintro e w1 ⟨rfl, rfl⟩
  go_wp2
  go_ret
  exact ⟨by rw [← has_bit n i hn]; rfl, rfl⟩

end Go.Proofs.YtlljggefbngkeaaGreatDoor

namespace Go.Proofs.YtlljggefbngkeaaGreatDoor
open Go.RowKit

/-- the i-th sign's byte -/
def sgn (i : Nat) : Nat := (signT.getD i 0).toNat

theorem sgn_le : ∀ i j : Fin 41, decide (sgn i.val ≤ sgn j.val) = decide (i.val ≤ j.val) := by decide +kernel
theorem sgn_idx : ∀ c : Fin 256, signI (c.val : Int) = true → sgn (idxI (c.val : Int)).toNat = c.val ∧ 0 ≤ idxI (c.val : Int) := by decide +kernel
theorem sgn_sign : ∀ i : Fin 41, signI (sgn i.val : Int) = true ∧ sgn i.val < 256 := by decide +kernel

/-- a number whose bits are the signs of a list -/
def SetRep (n : Nat) (l : List UInt8) : Prop := n < 2 ^ 41 ∧ (∀ i, i < 41 → n.testBit i = l.contains (UInt8.ofNat (sgn i))) ∧ ∀ c, c ∈ l → signI (c.toNat : Int) = true

theorem mem_uptoN (a e x : Nat) (he : e ≤ 256) (hx : x < 256) : (uptoN a e).contains (UInt8.ofNat x) = (decide (a ≤ x) && decide (x < e) && signI (x : Int)) := by
  rw [Bool.eq_iff_iff]
  simp only [List.contains_iff_mem, uptoN, List.mem_map, List.mem_filter, List.mem_range'_1, Bool.and_eq_true, decide_eq_true_eq]
  constructor
  · rintro ⟨k, ⟨⟨h1, h2⟩, h3⟩, h4⟩
    have : k = x := by
      have := congrArg UInt8.toNat h4
      rw [UInt8.toNat_ofNat', UInt8.toNat_ofNat'] at this
      omega
    subst this
    exact ⟨⟨h1, by omega⟩, h3⟩
  · rintro ⟨⟨h1, h2⟩, h3⟩
    exact ⟨x, ⟨⟨h1, by omega⟩, h3⟩, rfl⟩

theorem setRep_span (a c : Int) (ha : signI a = true) (hc : signI c = true) (hac : a ≤ c) : ∃ lo hi : Nat, idxI a = lo ∧ idxI c = hi ∧ lo ≤ hi ∧ hi ≤ 40 ∧ SetRep (2 ^ (hi + 1) - 2 ^ lo) (upto a c) := by
  have ba := signI_bd ha
  have bc := signI_bd hc
  have ea : ((a.toNat : Nat) : Int) = a := by omega
  have ec : ((c.toNat : Nat) : Int) = c := by omega
  have ta := sgn_idx ⟨a.toNat, by omega⟩ (by simp only [ea]; exact ha)
  have tc := sgn_idx ⟨c.toNat, by omega⟩ (by simp only [ec]; exact hc)
  simp only [ea] at ta
  simp only [ec] at tc
  have ia := (idx_sign a (by omega) (by omega)).2.1
  have ic := (idx_sign c (by omega) (by omega)).2.1
  have hle := sgn_le ⟨(idxI a).toNat, by omega⟩ ⟨(idxI c).toNat, by omega⟩
  simp only [ta.1, tc.1] at hle
  have hlo : (idxI a).toNat ≤ (idxI c).toNat := by
    have : decide (a.toNat ≤ c.toNat) = true := by simp; omega
    rw [this] at hle
    exact of_decide_eq_true hle.symm
  refine ⟨(idxI a).toNat, (idxI c).toNat, by omega, by omega, hlo, by omega, ?_, ?_, ?_⟩
  · have h1 : 2 ^ ((idxI c).toNat + 1) ≤ 2 ^ 41 := Nat.pow_le_pow_right (by decide) (by omega)
    have h2 : 0 < 2 ^ (idxI a).toNat := Nat.two_pow_pos _
    omega
  · intro i hi
    have hs := sgn_sign ⟨i, hi⟩
    have t1 := sgn_le ⟨(idxI a).toNat, by omega⟩ ⟨i, hi⟩
    have t2 := sgn_le ⟨i, hi⟩ ⟨(idxI c).toNat, by omega⟩
    simp only [ta.1] at t1
    simp only [tc.1] at t2
    simp only at hs
    rw [span_bit ⟨(idxI a).toNat, by omega⟩ ⟨(idxI c).toNat, by omega⟩ ⟨i, hi⟩ hlo]
    simp only
    rw [upto, mem_uptoN _ _ _ (by omega) hs.2, hs.1, ← t1, ← t2]
    simp [Nat.lt_succ_iff]
  · intro x hx
    simp only [upto, uptoN, List.mem_map, List.mem_filter, List.mem_range'_1] at hx
    obtain ⟨k, ⟨⟨h1, h2⟩, h3⟩, rfl⟩ := hx
    have : (UInt8.ofNat k).toNat = k := by rw [UInt8.toNat_ofNat']; omega
    rw [this]
    exact h3

theorem setRep_or {n m : Nat} {l k : List UInt8} (h : SetRep n l) (h' : SetRep m k) : SetRep (n ||| m) (l ++ k) := by
  refine ⟨Nat.or_lt_two_pow h.1 h'.1, fun i hi => ?_, fun c hc => (List.mem_append.1 hc).elim (h.2.2 c) (h'.2.2 c)⟩
  rw [Nat.testBit_or, h.2.1 i hi, h'.2.1 i hi]
  simp
theorem setRep_nil : SetRep 0 [] := ⟨by decide, fun i _ => by simp, fun c hc => by cases hc⟩

/-- has tells the signs of the list -/
theorem phas {n : Nat} {l : List UInt8} (h : SetRep n l) (c : UInt8) (w : World) :
    Calls Tryz.prog 166 #[.int .u64 (n : Int), .int .u8 (c.toNat : Int)] w fun e w' => e = .returned (.bool (l.contains c)) ∧ w' = w := by
  have hc := c.toNat_lt
  have hs := idx_sign (c.toNat : Int) (by omega) (by omega)
  by_cases hi : idxI (c.toNat : Int) < 0
  · have hno : l.contains c = false := by
      rw [Bool.eq_false_iff]
      intro hm
      have := h.2.2 c (by simpa using hm)
      rw [← hs.1] at this
      have := of_decide_eq_true this
      omega
    rw [hno]
    exact phas_no n _ hi w
  · have hsg : signI (c.toNat : Int) = true := by rw [← hs.1]; simp; omega
    have ht := (sgn_idx ⟨c.toNat, by omega⟩ hsg).1
    simp only at ht
    have hb := h.2.1 (idxI (c.toNat : Int)).toNat (by omega)
    rw [ht, UInt8.ofNat_toNat] at hb
    rw [← hb]
    exact phas_yes n _ (idxI (c.toNat : Int)).toNat h.1 (by omega) (by omega) w

def QSpan (b : Nat) (s : ByteArray) (i : Nat) (w : World) (e : Ending) (w' : World) : Prop :=
  w.grownBy w' (some b) ∧
  if signI (pk s i) = true then
    if pk s (i + 1) = 45 then
      if (signI (pk s (i + 2)) && decide (pk s i ≤ pk s (i + 2))) = true then i + 3 ≤ s.size ∧ w'.heap[b]? = some (qblk s (i + 3)) ∧ ∃ n : Nat, SetRep n (upto (pk s i) (pk s (i + 2))) ∧ e = .returned (.tuple #[.int .u64 (n : Int), .bool true])
      else i + 2 ≤ s.size ∧ w'.heap[b]? = some (qblk s (i + 2)) ∧ e = .returned (.tuple #[.int .u64 0, .bool false])
    else i + 1 ≤ s.size ∧ w'.heap[b]? = some (qblk s (i + 1)) ∧ ∃ n : Nat, SetRep n (upto (pk s i) (pk s i)) ∧ e = .returned (.tuple #[.int .u64 (n : Int), .bool true])
  else w'.heap[b]? = some (qblk s i) ∧ e = .returned (.tuple #[.int .u64 0, .bool false])

set_option maxRecDepth 100000 in
set_option maxHeartbeats 1600000 in
theorem qspan {w : World} {b : Nat} {s : ByteArray} {i : Nat} (h : w.heap[b]? = some (qblk s i)) (hs : s.size ≤ 120) (hi : i ≤ s.size) :
    Calls Tryz.prog 208 #[.pointer (some ⟨b, 0, none⟩)] w fun e w' => QSpan b s i w e w' := by
  have hb := pk_bd s i
  have HP := hide (qpeek h hs hi)
  have HS := hide (fun W => isSign_any (pk s i) hb.1 hb.2 W)
  have c1 := cellOf h 1
  have fz := frozenOf h 1
  simp at c1
  have HB := hide h
  clear h
  cases hsg : signI (pk s i) with
  | false =>
    rw [hsg] at HS
    have Hsg := hide hsg
    clear hsg
    generalize hp : pk s i = a at *
    have Hp := hide hp
    clear hp
    go_enter Tryz.func208, Tryz.ntmps208
    go_wp2_with (first | (go_at_call 205; refine (unhide HP).mono ?_; rintro e w' ⟨rfl, n, rfl⟩) | (go_at_call 201; refine (unhide HS _).mono ?_; rintro e w2 ⟨rfl, rfl⟩))
    go_ret2
    refine ⟨grown_drewN' w n _, ?_⟩
    rw [unhide Hp, if_neg (by rw [unhide Hsg]; decide)]
    exact ⟨unhide HB, rfl⟩
  | true =>
    rw [hsg] at HS
    have hlt := pk_sign_lt hsg
    have HB1 : Hid (∀ n, ((w.drewN n).setCell ⟨b, 1, none⟩ (.int .i64 ((i : Int) + 1))).heap[b]? = some (qblk s (i + 1))) := fun n => by
      have := qset (w := w.drewN n) (unhide HB) (i + 1)
      simpa using this
    have HG1 : Hid (∀ n, w.grownBy ((w.drewN n).setCell ⟨b, 1, none⟩ (.int .i64 ((i : Int) + 1))) (some b)) := fun n => (grown_drewN' w n _).trans (grown_set _ _ _ _)
    by_cases h45 : pk s (i + 1) = 45
    · have hj1 : i + 1 < s.size := pk_lt (by rw [h45]; decide)
      have HT := hide (fun n => qtake_ok 45 (unhide HB1 n) hs hj1 h45)
      have hb2 := pk_bd s (i + 2)
      have HS2 := hide (fun W => isSign_any (pk s (i + 2)) hb2.1 hb2.2 W)
      by_cases hok : (signI (pk s (i + 2)) && decide (pk s i ≤ pk s (i + 2))) = true
      · have hok' := hok
        simp only [Bool.and_eq_true, decide_eq_true_eq] at hok'
        have hj2 := pk_sign_lt hok'.1
        rw [hok'.1] at HS2
        have hge := hok'.2
        have q4 : decide (pk s (i + 2) < pk s i) = false := by simp; omega
        obtain ⟨lo, hi', e1, e2, h1, h2, hrep⟩ := setRep_span (pk s i) (pk s (i + 2)) hsg hok'.1 hge
        have HSp := hide (fun W => pspan (pk s i) (pk s (i + 2)) lo hi' e1 e2 h1 h2 W)
        have HF : Hid (QSpan b s i w = fun e w' => w.grownBy w' (some b) ∧ (i + 3 ≤ s.size ∧ w'.heap[b]? = some (qblk s (i + 3)) ∧ ∃ n : Nat, SetRep n (upto (pk s i) (pk s (i + 2))) ∧ e = .returned (.tuple #[.int .u64 (n : Int), .bool true]))) := by
          show QSpan b s i w = _
          funext e w'
          unfold QSpan
          rw [if_pos hsg, if_pos h45, if_pos hok]
        have HR := hide hrep
        rw [unhide HF]
        have HP2 := hide (fun (W : World) (hW : W.heap[b]? = some (qblk s (i + 2))) => qpeek hW hs hj1)
        clear HF h45 hsg e1 e2 hrep hok hok'
        generalize upto (pk s i) (pk s (i + 2)) = u at *
        generalize pk s i = a at *
        generalize pk s (i + 2) = a2 at *
        go_enter Tryz.func208, Tryz.ntmps208
        go_wp2_with (first | (go_at_call 205; refine (unhide HP).mono ?_; rintro e w' ⟨rfl, n, rfl⟩) | (go_at_call 201; refine (unhide HS _).mono ?_; rintro e w2 ⟨rfl, rfl⟩))
        refine (unhide HT _).mono ?_
        rintro e w3 ⟨rfl, hw3, hg3⟩
        have d1 := cellOf hw3 1
        have df := frozenOf hw3 1
        simp at d1
        have HW3 := hide (And.intro hw3 hg3)
        have HP3 := hide (unhide HP2 w3 hw3)
        clear hw3 hg3
        go_wp2_with fail
        refine (unhide HP3).mono ?_
        rintro e w4 ⟨rfl, n4, rfl⟩
        go_wp2_with (go_at_call 201; refine (unhide HS2 _).mono ?_; rintro e w5 ⟨rfl, rfl⟩)
        refine (unhide HSp _).mono ?_
        rintro e w6 ⟨rfl, n6, rfl⟩
        go_wp2
        go_ret2
        refine ⟨?_, hj2, ?_, _, unhide HR, rfl⟩
        · have h1 := ((unhide HG1 n).trans (unhide HW3).2).trans ((grown_drewN' w3 n4 _).trans (grown_set _ b 1 (.int .i64 ((i : Int) + 1 + 1 + 1))))
          exact h1.trans (grown_drewN' _ n6 _)
        · have := qset (w := w3.drewN n4) (unhide HW3).1 (i + 3)
          rw [show (((i + 3 : Nat) : Int)) = (i : Int) + 1 + 1 + 1 by omega] at this
          exact this
      · have HF : Hid (QSpan b s i w = fun e w' => w.grownBy w' (some b) ∧ (i + 2 ≤ s.size ∧ w'.heap[b]? = some (qblk s (i + 2)) ∧ e = .returned (.tuple #[.int .u64 0, .bool false]))) := by
          show QSpan b s i w = _
          funext e w'
          unfold QSpan
          rw [if_pos hsg, if_pos h45, if_neg hok]
        rw [unhide HF]
        have HP2 := hide (fun (W : World) (hW : W.heap[b]? = some (qblk s (i + 2))) => qpeek hW hs hj1)
        have hcase : signI (pk s (i + 2)) = false ∨ (signI (pk s (i + 2)) = true ∧ pk s (i + 2) < pk s i) := by
          cases hx : signI (pk s (i + 2)) with
          | false => exact Or.inl rfl
          | true =>
            right
            rw [hx] at hok
            simp at hok
            exact ⟨rfl, by omega⟩
        clear HF h45 hsg hok
        generalize pk s i = a at *
        generalize pk s (i + 2) = a2 at *
        rcases hcase with hx | ⟨hx, hltt⟩
        · rw [hx] at HS2
          clear hx
          go_enter Tryz.func208, Tryz.ntmps208
          go_wp2_with (first | (go_at_call 205; refine (unhide HP).mono ?_; rintro e w' ⟨rfl, n, rfl⟩) | (go_at_call 201; refine (unhide HS _).mono ?_; rintro e w2 ⟨rfl, rfl⟩))
          refine (unhide HT _).mono ?_
          rintro e w3 ⟨rfl, hw3, hg3⟩
          have HP3 := hide (unhide HP2 w3 hw3)
          go_wp2_with fail
          refine (unhide HP3).mono ?_
          rintro e w4 ⟨rfl, n4, rfl⟩
          go_wp2_with (go_at_call 201; refine (unhide HS2 _).mono ?_; rintro e w5 ⟨rfl, rfl⟩)
          go_ret2
          exact ⟨((unhide HG1 n).trans hg3).trans (grown_drewN' _ _ _), hj1, hw3, rfl⟩
        · rw [hx] at HS2
          clear hx
          have q4 : decide (a2 < a) = true := by simpa using hltt
          go_enter Tryz.func208, Tryz.ntmps208
          go_wp2_with (first | (go_at_call 205; refine (unhide HP).mono ?_; rintro e w' ⟨rfl, n, rfl⟩) | (go_at_call 201; refine (unhide HS _).mono ?_; rintro e w2 ⟨rfl, rfl⟩))
          refine (unhide HT _).mono ?_
          rintro e w3 ⟨rfl, hw3, hg3⟩
          have HP3 := hide (unhide HP2 w3 hw3)
          go_wp2_with fail
          refine (unhide HP3).mono ?_
          rintro e w4 ⟨rfl, n4, rfl⟩
          go_wp2_with (go_at_call 201; refine (unhide HS2 _).mono ?_; rintro e w5 ⟨rfl, rfl⟩)
          go_ret2
          exact ⟨((unhide HG1 n).trans hg3).trans (grown_drewN' _ _ _), hj1, hw3, rfl⟩
    · have HT := hide (fun n => qtake_no 45 (unhide HB1 n) hs hlt h45)
      obtain ⟨lo, hi', e1, e2, h1, h2, hrep⟩ := setRep_span (pk s i) (pk s i) hsg hsg (Int.le_refl _)
      have HSp := hide (fun W => pspan (pk s i) (pk s i) lo hi' e1 e2 h1 h2 W)
      have HF : Hid (QSpan b s i w = fun e w' => w.grownBy w' (some b) ∧ (i + 1 ≤ s.size ∧ w'.heap[b]? = some (qblk s (i + 1)) ∧ ∃ n : Nat, SetRep n (upto (pk s i) (pk s i)) ∧ e = .returned (.tuple #[.int .u64 (n : Int), .bool true]))) := by
        show QSpan b s i w = _
        funext e w'
        unfold QSpan
        rw [if_pos hsg, if_neg h45]
      have HR := hide hrep
      rw [unhide HF]
      clear HF h45 hsg e1 e2 hrep
      generalize upto (pk s i) (pk s i) = u at *
      generalize pk s i = a at *
      go_enter Tryz.func208, Tryz.ntmps208
      go_wp2_with (first | (go_at_call 205; refine (unhide HP).mono ?_; rintro e w' ⟨rfl, n, rfl⟩) | (go_at_call 201; refine (unhide HS _).mono ?_; rintro e w2 ⟨rfl, rfl⟩) | (go_at_call 200; refine (unhide HT _).mono ?_; rintro e w3 ⟨rfl, n3, rfl⟩))
      refine (unhide HSp _).mono ?_
      rintro e w4 ⟨rfl, n4, rfl⟩
      go_wp2
      go_ret2
      refine ⟨?_, hlt, ?_, _, unhide HR, rfl⟩
      · exact (unhide HG1 n).trans (grown_drewN' _ _ _)
      · exact unhide HB1 n

end Go.Proofs.YtlljggefbngkeaaGreatDoor

namespace Go.Proofs.YtlljggefbngkeaaGreatDoor
open Go.RowKit

/-- a pattern of the program's: kind, signs, parts -/
def pblk (kind : Int) (n : Nat) (v : Value) : Obj := .cells #[.int .i64 kind, .int .u64 (n : Int), v] 214 (0, 0)
def ptrs (gs : List Nat) : List Value := gs.map fun g : Nat => .pointer (some ⟨g, 0, none⟩)

/-- the parts' row -/
def PV (w : World) (Y : Nat → Prop) (v : Value) (gs : List Nat) : Prop := w.ownsRow 0 116 1 v gs.length (ptrs gs) ∧ ∀ k, v.ownBlock = some k → ¬ Y k

def repKind (c : Int) : Int := if c = 42 then 3 else if c = 43 then 4 else 5

mutual
/-- a pattern's tree in memory, outside Y -/
def TR (w : World) (Y : Nat → Prop) : PT → Nat → Prop
  | .chr l, g => ¬ Y g ∧ ∃ n, SetRep n l ∧ w.heap[g]? = some (pblk 0 n (.slice none 0 0))
  | .seq l, g => ¬ Y g ∧ ∃ v gs, w.heap[g]? = some (pblk 1 0 v) ∧ PV w Y v gs ∧ TRL w Y l gs
  | .alt l, g => ¬ Y g ∧ ∃ v gs, w.heap[g]? = some (pblk 2 0 v) ∧ PV w Y v gs ∧ TRL w Y l gs
  | .rep c t, g => ¬ Y g ∧ ∃ v g', w.heap[g]? = some (pblk (repKind c) 0 v) ∧ PV w Y v [g'] ∧ TR w Y t g'
def TRL (w : World) (Y : Nat → Prop) : List PT → List Nat → Prop
  | [], [] => True
  | t :: l, g :: gs => TR w Y t g ∧ TRL w Y l gs
  | _, _ => False
end

theorem PV.kept {w w' : World} {Y : Nat → Prop} {v : Value} {gs : List Nat} (h : PV w Y v gs) (hk : ∀ k, k < w.heap.size → ¬ Y k → w'.heap[k]? = w.heap[k]?) : PV w' Y v gs :=
  ⟨own_same h.1 fun k e => hk k (own_lt h.1 k e) (h.2 k e), h.2⟩
theorem PV.reY {w : World} {Y Z : Nat → Prop} {v : Value} {gs : List Nat} (h : PV w Y v gs) (hZ : ∀ k, k < w.heap.size → Z k → Y k) : PV w Z v gs :=
  ⟨h.1, fun k e hz => h.2 k e (hZ k (own_lt h.1 k e) hz)⟩

mutual
theorem TR.kept {w w' : World} {Y : Nat → Prop} (hk : ∀ k, k < w.heap.size → ¬ Y k → w'.heap[k]? = w.heap[k]?) : ∀ {t : PT} {g : Nat}, TR w Y t g → TR w' Y t g
  | .chr l, g, h => by
    rw [TR] at *
    obtain ⟨h0, n, h1, h2⟩ := h
    exact ⟨h0, n, h1, (hk g (heap_lt h2) h0).trans h2⟩
  | .seq l, g, h => by
    rw [TR] at *
    obtain ⟨h0, v, gs, h1, h2, h3⟩ := h
    exact ⟨h0, v, gs, (hk g (heap_lt h1) h0).trans h1, h2.kept hk, TRL.kept hk h3⟩
  | .alt l, g, h => by
    rw [TR] at *
    obtain ⟨h0, v, gs, h1, h2, h3⟩ := h
    exact ⟨h0, v, gs, (hk g (heap_lt h1) h0).trans h1, h2.kept hk, TRL.kept hk h3⟩
  | .rep c t, g, h => by
    rw [TR] at *
    obtain ⟨h0, v, g', h1, h2, h3⟩ := h
    exact ⟨h0, v, g', (hk g (heap_lt h1) h0).trans h1, h2.kept hk, TR.kept hk h3⟩
theorem TRL.kept {w w' : World} {Y : Nat → Prop} (hk : ∀ k, k < w.heap.size → ¬ Y k → w'.heap[k]? = w.heap[k]?) : ∀ {l : List PT} {gs : List Nat}, TRL w Y l gs → TRL w' Y l gs
  | [], [], _ => by rw [TRL]; trivial
  | t :: l, g :: gs, h => by rw [TRL] at *; exact ⟨TR.kept hk h.1, TRL.kept hk h.2⟩
  | [], k :: ks, h => by simp [TRL] at h
  | t :: l, [], h => by simp [TRL] at h
end

mutual
theorem TR.reY {w : World} {Y Z : Nat → Prop} (hZ : ∀ k, k < w.heap.size → Z k → Y k) : ∀ {t : PT} {g : Nat}, TR w Y t g → TR w Z t g
  | .chr l, g, h => by
    rw [TR] at *
    obtain ⟨h0, n, h1, h2⟩ := h
    exact ⟨fun hz => h0 (hZ g (heap_lt h2) hz), n, h1, h2⟩
  | .seq l, g, h => by
    rw [TR] at *
    obtain ⟨h0, v, gs, h1, h2, h3⟩ := h
    exact ⟨fun hz => h0 (hZ g (heap_lt h1) hz), v, gs, h1, h2.reY hZ, TRL.reY hZ h3⟩
  | .alt l, g, h => by
    rw [TR] at *
    obtain ⟨h0, v, gs, h1, h2, h3⟩ := h
    exact ⟨fun hz => h0 (hZ g (heap_lt h1) hz), v, gs, h1, h2.reY hZ, TRL.reY hZ h3⟩
  | .rep c t, g, h => by
    rw [TR] at *
    obtain ⟨h0, v, g', h1, h2, h3⟩ := h
    exact ⟨fun hz => h0 (hZ g (heap_lt h1) hz), v, g', h1, h2.reY hZ, TR.reY hZ h3⟩
theorem TRL.reY {w : World} {Y Z : Nat → Prop} (hZ : ∀ k, k < w.heap.size → Z k → Y k) : ∀ {l : List PT} {gs : List Nat}, TRL w Y l gs → TRL w Z l gs
  | [], [], _ => by rw [TRL]; trivial
  | t :: l, g :: gs, h => by rw [TRL] at *; exact ⟨TR.reY hZ h.1, TRL.reY hZ h.2⟩
  | [], k :: ks, h => by simp [TRL] at h
  | t :: l, [], h => by simp [TRL] at h
end

/-- something that lies in memory outside a set of blocks -/
structure Loc (T : World → (Nat → Prop) → Prop) : Prop where
  kept : ∀ {w w' : World} {Y : Nat → Prop}, (∀ k, k < w.heap.size → ¬ Y k → w'.heap[k]? = w.heap[k]?) → T w Y → T w' Y
  reY : ∀ {w : World} {Y Z : Nat → Prop}, (∀ k, k < w.heap.size → Z k → Y k) → T w Y → T w Z
theorem TR.loc (t : PT) (g : Nat) : Loc (fun w Y => TR w Y t g) := ⟨fun hk h => TR.kept hk h, fun hZ h => TR.reY hZ h⟩
theorem TRL.loc (l : List PT) (gs : List Nat) : Loc (fun w Y => TRL w Y l gs) := ⟨fun hk h => TRL.kept hk h, fun hZ h => TRL.reY hZ h⟩

/-- what a reader of patterns answers: a tree in new memory and the place behind it; or nil, and the place that is to blame -/
def QPost (b : Nat) (s : ByteArray) (w : World) (e : Ending) (w' : World) : Res PT → Prop
  | .ok t j => j ≤ s.size ∧ w.grownBy w' (some b) ∧ w'.heap[b]? = some (qblk s j) ∧ ∃ g, e = .returned (.pointer (some ⟨g, 0, none⟩)) ∧ TR w' (fun k => k < w.heap.size) (nf t) g
  | .err p => p ≤ s.size ∧ w.grownBy w' (some b) ∧ w'.heap[b]? = some (qblk s p) ∧ e = .returned (.pointer none)

def SpansRel (w : World) (b : Nat) (s : ByteArray) (i : Nat) (r : Res (List UInt8)) (gk : Nat) (wv : World) : Prop :=
  ∃ j l n m, i ≤ j ∧ j ≤ s.size ∧ s.size - j < gk ∧ s.size - j < m ∧ r = gSpans s m j l ∧ SetRep n l ∧ w.grownBy wv (some b) ∧ wv.heap[b]? = some (qblk s j) ∧ wv.heap[w.heap.size]? = some (pblk 0 n (.slice none 0 0))

set_option maxRecDepth 100000 in
set_option maxHeartbeats 1600000 in
theorem qspans {w : World} {b : Nat} {s : ByteArray} {i : Nat} (h : w.heap[b]? = some (qblk s i)) (hs : s.size ≤ 120) (hi : i ≤ s.size) (n : Nat) (hn : s.size - i < n) :
    Calls Tryz.prog 206 #[.pointer (some ⟨b, 0, none⟩)] w fun e w' => QPost b s w e w' ((gSpans s n i []).map .chr) := by
  generalize hr : gSpans s n i [] = r
  have hbl := heap_lt h
  have H0 : Hid (SpansRel w b s i r (s.size - i + 1) (w.alloc (pblk 0 0 (.slice none 0 0)))) := ⟨i, [], 0, n, Nat.le_refl _, hi, by omega, hn, hr.symm, setRep_nil, World.grownBy_alloc _ _ _, heap_alloc_old _ h, heap_alloc_new w _⟩
  clear h hr hn
  go_enter Tryz.func206, Tryz.ntmps206
  go_wp2_with fail
  go_loopg [4] (s.size - i + 1) (fun gk _ wv => SpansRel w b s i r gk wv)
  case atStart => exact unhide H0
  case round =>
    clear H0
    obtain ⟨j, l, n, m, hij, hj, hgk, hm, hr, hset, hg, hqb, hpb⟩ := hrel
    obtain ⟨m, rfl⟩ : ∃ m', m = m' + 1 := ⟨m - 1, by omega⟩
    have HS := hide (qspan hqb hs hj)
    have HF := hide (And.intro hr (And.intro hset (And.intro hg hpb)))
    clear hr hset hg hpb hqb
    go_wp2_with fail
    refine (unhide HS).mono ?_
    rintro e w2 ⟨hg2, hq2⟩
    -- one more span is read: what is left of the round
    have hpb2 : w2.heap[w.heap.size]? = some (pblk 0 n (.slice none 0 0)) := (hg2.block w.heap.size (heap_lt (unhide HF).2.2.2) (by simp; omega)).trans (unhide HF).2.2.2
    have hgw := (unhide HF).2.2.1.trans hg2
    have hsum : (∃ p, r = .err p ∧ p ≤ s.size ∧ w2.heap[b]? = some (qblk s p) ∧ e = .returned (.tuple #[.int .u64 0, .bool false])) ∨
        (∃ nj n' u, j < nj ∧ nj ≤ s.size ∧ SetRep n' u ∧ (r = if pk s nj = 93 then .ok (l ++ u) (nj + 1) else gSpans s m nj (l ++ u)) ∧ w2.heap[b]? = some (qblk s nj) ∧ e = .returned (.tuple #[.int .u64 (n' : Int), .bool true])) := by
      have hr := (unhide HF).1
      by_cases h1 : signI (pk s j) = true
      · rw [if_pos h1] at hq2
        by_cases h2 : pk s (j + 1) = 45
        · rw [if_pos h2] at hq2
          by_cases h3 : (signI (pk s (j + 2)) && decide (pk s j ≤ pk s (j + 2))) = true
          · rw [if_pos h3] at hq2
            obtain ⟨h4, h5, n', h6, h7⟩ := hq2
            simp only [Bool.and_eq_true, decide_eq_true_eq] at h3
            rw [gSpans_two s m j l h1 h2 h3.1 h3.2] at hr
            exact Or.inr ⟨j + 3, n', _, by omega, h4, h6, hr, h5, h7⟩
          · rw [if_neg h3] at hq2
            rw [gSpans, if_pos h1, if_pos h2, if_neg h3] at hr
            exact Or.inl ⟨j + 2, hr, hq2.1, hq2.2.1, hq2.2.2⟩
        · rw [if_neg h2] at hq2
          obtain ⟨h4, h5, n', h6, h7⟩ := hq2
          rw [gSpans_one s m j l h1 h2] at hr
          exact Or.inr ⟨j + 1, n', _, by omega, h4, h6, hr, h5, h7⟩
      · rw [if_neg h1] at hq2
        rw [gSpans_no s m j l (by simpa using h1)] at hr
        exact Or.inl ⟨j, hr, hj, hq2.1, hq2.2⟩
    clear hq2
    rcases hsum with ⟨p, hr, hp, hqp, rfl⟩ | ⟨nj, n', u, hnj, hnjs, hset', hr, hqn, rfl⟩
    · have Hr := hide hr
      clear hr
      go_wp2
      go_ret
      rw [unhide Hr]
      exact ⟨hp, hgw, hqp, rfl⟩
    · have c1 := cellOf hpb2 1
      have f1 := frozenOf hpb2 1
      have hor : bits .or .u64 (n : Int) (n' : Int) = ((n ||| n' : Nat) : Int) := bits_or_u64_nat n n' (by have := (unhide HF).2.1.1; omega) (by have := hset'.1; omega)
      have hset2 := setRep_or (unhide HF).2.1 hset'
      have hpb3 : (w2.setCell ⟨w.heap.size, 1, none⟩ (.int .u64 ((n ||| n' : Nat) : Int))).heap[w.heap.size]? = some (pblk 0 (n ||| n') (.slice none 0 0)) := by
        have := heap_set hpb2 1 (.int .u64 ((n ||| n' : Nat) : Int))
        simpa [pblk] using this
      have hqn3 : (w2.setCell ⟨w.heap.size, 1, none⟩ (.int .u64 ((n ||| n' : Nat) : Int))).heap[b]? = some (qblk s nj) := (Below.heap_setCell _ _ _ _ (by show b ≠ w.heap.size; omega)).trans hqn
      have hgw3 : w.grownBy (w2.setCell ⟨w.heap.size, 1, none⟩ (.int .u64 ((n ||| n' : Nat) : Int))) (some b) := by
        refine ⟨hgw.os, hgw.tape, hgw.output, by simpa [World.setCell] using hgw.size, fun k hk hne => ?_⟩
        rw [Below.heap_setCell _ _ _ _ (by show k ≠ w.heap.size; omega)]
        exact hgw.block k hk hne
      have HR := hide (And.intro hr (And.intro hset2 (And.intro hpb3 hgw3)))
      simp at c1
      clear hr hset2 hset' hpb3 hgw3 hpb2 hqn hgw hg2
      generalize n ||| n' = nn at *
      by_cases h93 : pk s nj = 93
      · have hnl : nj < s.size := pk_lt (by rw [h93]; decide)
        have HT := hide (qtake_ok 93 hqn3 hs hnl h93)
        have HR2 := hide (unhide HR)
        rw [if_pos h93] at HR2
        clear h93 hqn3
        go_wp2_with fail
        refine (unhide HT).mono ?_
        rintro e w4 ⟨rfl, h4, g4⟩
        go_wp2
        go_ret
        obtain ⟨hr, hset2, hpb3, hgw3⟩ := unhide HR2
        rw [hr]
        refine ⟨hnl, hgw3.trans g4, h4, w.heap.size, rfl, ?_⟩
        rw [nf, TR]
        exact ⟨Nat.lt_irrefl _, nn, hset2, (g4.block w.heap.size (heap_lt hpb3) (by simp; omega)).trans hpb3⟩
      · have HT := hide (qtake_no 93 hqn3 hs hnjs h93)
        have HR2 := hide (And.intro hqn3 (unhide HR))
        rw [if_neg h93] at HR2
        clear h93 hqn3
        go_wp2_with fail
        refine (unhide HT).mono ?_
        rintro e w4 ⟨rfl, n4, rfl⟩
        go_wp2_with fail
        go_roundg (s.size - j)
        case measure => exact hgk
        case rel =>
          obtain ⟨hqn3, hr, hset2, hpb3, hgw3⟩ := unhide HR2
          exact ⟨nj, l ++ u, nn, m, by omega, hnjs, by omega, by omega, hr, hset2, hgw3.trans (grown_drewN' _ _ _), hqn3, hpb3⟩

end Go.Proofs.YtlljggefbngkeaaGreatDoor

namespace Go.Proofs.YtlljggefbngkeaaGreatDoor
open Go.RowKit

def QPatSaid (s : ByteArray) (b i0 : Nat) : Prop :=
  ∀ (w : World) (i : Nat), i0 ≤ i → w.heap[b]? = some (qblk s i) → i ≤ s.size → ∀ n, 4 * (s.size - i) + 4 ≤ n →
    Calls Tryz.prog 195 #[.pointer (some ⟨b, 0, none⟩)] w fun e w' => QPost b s w e w' ((gAlts s n i).map .alt)
def QBaseSaid (s : ByteArray) (b i0 : Nat) : Prop :=
  ∀ (w : World) (i : Nat), i0 ≤ i → w.heap[b]? = some (qblk s i) → i ≤ s.size → atBase (pk s i) = true → ∀ n, 4 * (s.size - i) + 2 ≤ n →
    Calls Tryz.prog 203 #[.pointer (some ⟨b, 0, none⟩)] w fun e w' => QPost b s w e w' (gBase s n i)

theorem grown_heap {w w' : World} {b : Nat} (hg : w.grownBy w' (some b)) (k : Nat) (hk : k < w.heap.size) (hne : k ≠ b) : w'.heap[k]? = w.heap[k]? := hg.block k hk (by simp; exact hne)

theorem QPost.from_ {b : Nat} {s : ByteArray} {w w1 : World} {e : Ending} {w' : World} {r : Res PT} (hg : w.grownBy w1 (some b)) (h : QPost b s w1 e w' r) : QPost b s w e w' r := by
  cases r with
  | ok t j =>
    obtain ⟨h1, h2, h3, g, h4, h5⟩ := h
    exact ⟨h1, hg.trans h2, h3, g, h4, TR.reY (fun k _ hk => Nat.lt_of_lt_of_le hk hg.size) h5⟩
  | err p =>
    obtain ⟨h1, h2, h3, h4⟩ := h
    exact ⟨h1, hg.trans h2, h3, h4⟩

set_option maxRecDepth 100000 in
set_option maxHeartbeats 1600000 in
theorem qbracketed {w : World} {b : Nat} {s : ByteArray} {i n : Nat} (h : w.heap[b]? = some (qblk s i)) (hs : s.size ≤ 120) (hi : i ≤ s.size) (hpat : QPatSaid s b i) (hn : 4 * (s.size - i) + 4 ≤ n) :
    Calls Tryz.prog 207 #[.pointer (some ⟨b, 0, none⟩)] w fun e w' => QPost b s w e w' ((gAlts s n i).bind fun l j => if pk s j = 41 then .ok (.alt l) (j + 1) else .err j) := by
  have HP := hide (hpat w i (Nat.le_refl _) h hi n hn)
  generalize hrr : ((gAlts s n i).bind fun l j => if pk s j = 41 then Res.ok (PT.alt l) (j + 1) else Res.err j) = rr
  have hbl := heap_lt h
  clear h hpat
  go_enter Tryz.func207, Tryz.ntmps207
  go_wp2_with fail
  refine (unhide HP).mono ?_
  rintro e w1 hP1
  cases hg : gAlts s n i with
  | err p =>
    rw [hg] at hP1
    obtain ⟨hp, hg1, hq1, rfl⟩ := hP1
    rw [hg] at hrr
    have HR := hide hrr
    clear hg HP hrr
    go_wp2
    go_ret
    rw [← unhide HR]
    exact ⟨hp, hg1, hq1, rfl⟩
  | ok l j =>
    rw [hg] at hP1
    obtain ⟨hj, hg1, hq1, g, rfl, hT⟩ := hP1
    have HT := hide hT
    rw [hg] at hrr
    simp only [Res.bind] at hrr
    clear hg HP hT
    by_cases h41 : pk s j = 41
    · have hjs : j < s.size := pk_lt (by rw [h41]; decide)
      have HTk := hide (qtake_ok 41 hq1 hs hjs h41)
      rw [if_pos h41] at hrr
      have HR := hide hrr
      clear h41 hrr
      go_wp2_with fail
      refine (unhide HTk).mono ?_
      rintro e w2 ⟨rfl, hq2, hg2⟩
      go_wp2
      go_ret
      rw [← unhide HR]
      refine ⟨hjs, hg1.trans hg2, hq2, g, rfl, ?_⟩
      exact TR.kept (fun k hk hy => grown_heap hg2 k hk (fun e => hy (by show k < w.heap.size; omega))) (unhide HT)
    · have HTk := hide (qtake_no 41 hq1 hs hj h41)
      rw [if_neg h41] at hrr
      have HR := hide hrr
      clear h41 hrr
      go_wp2_with fail
      refine (unhide HTk).mono ?_
      rintro e w2 ⟨rfl, n2, rfl⟩
      go_wp2
      go_ret
      rw [← unhide HR]
      exact ⟨hj, hg1.trans (grown_drewN' _ _ _), hq1, rfl⟩

/-- the pattern of one sign -/
def SignPost (a : Int) (w : World) (e : Ending) (w' : World) : Prop := ∃ g, e = .returned (.pointer (some ⟨g, 0, none⟩)) ∧ w.grownBy w' none ∧ TR w' (fun k => k < w.heap.size) (.chr [UInt8.ofNat a.toNat]) g

set_option maxRecDepth 100000 in
set_option maxHeartbeats 800000 in
theorem psign (a : Int) (hsg : signI a = true) (w : World) : Calls Tryz.prog 158 #[.int .u8 a] w fun e w' => SignPost a w e w' := by
  obtain ⟨lo, hi', e1, e2, h1, h2, hrep⟩ := setRep_span a a hsg hsg (Int.le_refl _)
  have HSp := hide (fun W => pspan a a lo hi' e1 e2 h1 h2 W)
  have hu : upto a a = [UInt8.ofNat a.toNat] := by
    have hb := signI_bd hsg
    rw [upto, uptoN_yes _ _ (Nat.le_refl _) (by rw [show ((a.toNat : Nat) : Int) = a by omega]; exact hsg), uptoN_self]
    rfl
  rw [hu] at hrep
  have HR := hide hrep
  clear hsg e1 e2 hrep hu
  go_enter Tryz.func158, Tryz.ntmps158
  go_wp2_with fail
  refine (unhide HSp _).mono ?_
  rintro e w3 ⟨rfl, n3, rfl⟩
  go_wp2
  go_ret
  refine ⟨w.heap.size, rfl, (grown_drewN' w n3 none).trans (World.grownBy_alloc _ _ _), ?_⟩
  rw [TR]
  exact ⟨Nat.lt_irrefl _, _, unhide HR, heap_alloc_new (w.drewN n3) _⟩

set_option maxRecDepth 100000 in
set_option maxHeartbeats 1600000 in
theorem qbase_of {s : ByteArray} {b i0 : Nat} (hs : s.size ≤ 120) (hpat : QPatSaid s b (i0 + 1)) : QBaseSaid s b i0 := by
  intro w i h0 h hi hat n hn
  obtain ⟨n, rfl⟩ : ∃ m, n = m + 1 := ⟨n - 1, by omega⟩
  have hbl := heap_lt h
  by_cases h91 : pk s i = 91
  · have hlt : i < s.size := pk_lt (by rw [h91]; decide)
    have HT := hide (qtake_ok 91 h hs hlt h91)
    have HG := hide (gBase_class s n i h91)
    clear h hat h91 hpat
    go_enter Tryz.func203, Tryz.ntmps203
    go_wp2_with fail
    refine (unhide HT).mono ?_
    rintro e w1 ⟨rfl, hq1, hg1⟩
    go_wp2_with fail
    refine (qspans hq1 hs hlt n (by omega)).mono ?_
    rintro e w2 hP2
    rw [← unhide HG] at hP2
    have he : ∃ a, e = .returned (.pointer a) := by
      cases hg : gBase s (n + 1) i with
      | ok t j => rw [hg] at hP2; obtain ⟨_, _, _, g, he, _⟩ := hP2; exact ⟨_, he⟩
      | err p => rw [hg] at hP2; exact ⟨_, hP2.2.2.2⟩
    obtain ⟨a, rfl⟩ := he
    have HP2 := hide hP2
    clear hP2
    go_wp2
    go_ret
    exact QPost.from_ hg1 (unhide HP2)
  · by_cases h40 : pk s i = 40
    · have hlt : i < s.size := pk_lt (by rw [h40]; decide)
      have HT1 := hide (qtake_no 91 h hs hi h91)
      have HT := hide (fun n => qtake_ok 40 (w := w.drewN n) h hs hlt h40)
      have HG := hide (gBase_group s n i h40)
      have Hpat := hide hpat
      clear h hat h91 h40 hpat
      go_enter Tryz.func203, Tryz.ntmps203
      go_wp2_with fail
      refine (unhide HT1).mono ?_
      rintro e w0 ⟨rfl, n0, rfl⟩
      go_wp2_with fail
      refine (unhide HT _).mono ?_
      rintro e w1 ⟨rfl, hq1, hg1⟩
      go_wp2_with fail
      refine (qbracketed (n := n) hq1 hs hlt (fun w i' hi' => unhide Hpat w i' (by omega)) (by omega)).mono ?_
      rintro e w2 hP2
      rw [← unhide HG] at hP2
      have he : ∃ a, e = .returned (.pointer a) := by
        cases hg : gBase s (n + 1) i with
        | ok t j => rw [hg] at hP2; obtain ⟨_, _, _, g, he, _⟩ := hP2; exact ⟨_, he⟩
        | err p => rw [hg] at hP2; exact ⟨_, hP2.2.2.2⟩
      obtain ⟨a, rfl⟩ := he
      have HP2 := hide hP2
      clear hP2
      go_wp2
      go_ret
      exact QPost.from_ ((grown_drewN' w n0 _).trans hg1) (unhide HP2)
    · have hsg : signI (pk s i) = true := by
        simp [atBase, h91, h40] at hat
        exact hat
      have hlt := pk_sign_lt hsg
      have HT1 := hide (qtake_no 91 h hs hi h91)
      have HT2 := hide (fun n => qtake_no 40 (w := w.drewN n) h hs hi h40)
      have HP := hide (fun n => qpeek (w := w.drewN n) h hs hi)
      have HSg := hide (fun W => psign (pk s i) hsg W)
      have HG := hide (gBase_sign s n i hsg)
      have c1 := cellOf h 1
      have fz := frozenOf h 1
      simp at c1
      have HB := hide h
      clear h hat h91 h40 hpat hsg
      generalize pk s i = a at *
      go_enter Tryz.func203, Tryz.ntmps203
      go_wp2_with fail
      refine (unhide HT1).mono ?_
      rintro e w0 ⟨rfl, n0, rfl⟩
      go_wp2_with fail
      refine (unhide HT2 _).mono ?_
      rintro e w1 ⟨rfl, n1, rfl⟩
      rw [World.drewN_drewN]
      go_wp2_with fail
      refine (unhide HP _).mono ?_
      rintro e w2 ⟨rfl, n2, rfl⟩
      go_wp2_with fail
      refine (unhide HSg _).mono ?_
      rintro e w3 ⟨g, rfl, hg3, hT3⟩
      go_wp2
      go_ret
      rw [unhide HG]
      have hb1 : ((w.drewN (n0 + n1 + n2)).setCell ⟨b, 1, none⟩ (.int .i64 ((i : Int) + 1))).heap[b]? = some (qblk s (i + 1)) := by
        have := qset (w := w.drewN (n0 + n1 + n2)) (unhide HB) (i + 1)
        simpa using this
      have hg0 : w.grownBy ((w.drewN (n0 + n1 + n2)).setCell ⟨b, 1, none⟩ (.int .i64 ((i : Int) + 1))) (some b) := (grown_drewN' w _ _).trans (grown_set _ _ _ _)
      have hg1 : w.grownBy w3 (some b) := hg0.andThen hg3 (fun k e => by cases e)
      refine ⟨hlt, hg1, (hg3.block b (heap_lt hb1) (by simp)).trans hb1, g, rfl, ?_⟩
      rw [nf]
      exact TR.reY (fun k _ hk => Nat.lt_of_lt_of_le hk hg0.size) hT3

/-- a base with its sign of repetition -/
def RepPost (b : Nat) (s : ByteArray) (w : World) (Y : Nat → Prop) (t : PT) (j : Nat) (e : Ending) (w' : World) : Prop :=
  (gRep s t j).2 ≤ s.size ∧ w.grownBy w' (some b) ∧ w'.heap[b]? = some (qblk s (gRep s t j).2) ∧ ∃ g, e = .returned (.pointer (some ⟨g, 0, none⟩)) ∧ TR w' Y (nf (gRep s t j).1) g

set_option maxRecDepth 100000 in
set_option maxHeartbeats 1600000 in
theorem qrepeated {w : World} {b : Nat} {s : ByteArray} {j g : Nat} {Y : Nat → Prop} {t : PT} (h : w.heap[b]? = some (qblk s j)) (hs : s.size ≤ 120) (hj : j ≤ s.size) (hT : TR w Y (nf t) g) (hY : ∀ k, Y k → k < w.heap.size) (hb : Y b) :
    Calls Tryz.prog 204 #[.pointer (some ⟨b, 0, none⟩), .pointer (some ⟨g, 0, none⟩)] w fun e w' => RepPost b s w Y t j e w' := by
  have HP := hide (qpeek h hs hj)
  have c1 := cellOf h 1
  have fz := frozenOf h 1
  simp at c1
  have HB := hide (And.intro h hT)
  clear h hT
  have step : ∀ (c : Int) (kind : Int) (n : Nat), pk s j = c → (c = 42 ∨ c = 43 ∨ c = 63) → repKind c = kind → j < s.size →
      RepPost b s w Y t j (.returned (.pointer (some ⟨w.heap.size + 1, 0, none⟩))) ((((w.drewN n).setCell ⟨b, 1, none⟩ (.int .i64 ((j : Int) + 1))).alloc (.cells #[.pointer (some ⟨g, 0, none⟩)] 116)).alloc (pblk kind 0 (.slice (some ⟨w.heap.size, 0, none⟩) 1 1))) := by
    intro c kind n hc hc3 hk hlt
    have hb1 : ((w.drewN n).setCell ⟨b, 1, none⟩ (.int .i64 ((j : Int) + 1))).heap[b]? = some (qblk s (j + 1)) := by
      have := qset (w := w.drewN n) (unhide HB).1 (j + 1)
      simpa using this
    have hg1 : w.grownBy ((w.drewN n).setCell ⟨b, 1, none⟩ (.int .i64 ((j : Int) + 1))) (some b) := (grown_drewN' w n _).trans (grown_set _ _ _ _)
    have hsz : ((w.drewN n).setCell ⟨b, 1, none⟩ (.int .i64 ((j : Int) + 1))).heap.size = w.heap.size := by simp [World.setCell]
    generalize ((w.drewN n).setCell ⟨b, 1, none⟩ (.int .i64 ((j : Int) + 1))) = W at *
    have hgr : gRep s t j = (.rep c t, j + 1) := by rw [gRep, hc, if_pos hc3]
    unfold RepPost
    rw [hgr]
    refine ⟨hlt, (hg1.trans (World.grownBy_alloc _ _ _)).trans (World.grownBy_alloc _ _ _), heap_alloc_old _ (heap_alloc_old _ hb1), w.heap.size + 1, rfl, ?_⟩
    rw [nf, TR]
    have hnew := alloc2_at W (.cells #[.pointer (some ⟨g, 0, none⟩)] 116) (pblk kind 0 (.slice (some ⟨w.heap.size, 0, none⟩) 1 1))
    rw [hsz] at hnew
    refine ⟨fun hy => by have := hY _ hy; omega, .slice (some ⟨w.heap.size, 0, none⟩) 1 1, g, by rw [hk]; exact hnew, ⟨?_, fun k e hy => ?_⟩, ?_⟩
    · have := (World.ownsRow_lit (base := 0) (e := 116) (size := 1) W #[.pointer (some ⟨g, 0, none⟩)] 1 (by omega) (by unfold maxLen; omega) rfl).alloc (pblk kind 0 (.slice (some ⟨w.heap.size, 0, none⟩) 1 1))
      rw [hsz] at this
      exact this
    · have := hY k hy
      simp [Value.ownBlock] at e
      omega
    · refine TR.kept (fun k hk hy => ?_) (unhide HB).2
      rw [Below.heap_alloc _ _ _ (by simp [hsz]; omega), Below.heap_alloc _ _ _ (by omega)]
      exact grown_heap hg1 k hk (fun e => hy (e ▸ hb))
  have HS := hide step
  clear step
  by_cases h42 : pk s j = 42
  · have hlt : j < s.size := pk_lt (by rw [h42]; decide)
    have HF := hide (fun n => unhide HS 42 3 n h42 (Or.inl rfl) rfl hlt)
    rw [h42] at HP
    clear h42 HS
    go_enter Tryz.func204, Tryz.ntmps204
    go_wp2_with (go_at_call 205; refine (unhide HP).mono ?_; rintro e w1 ⟨rfl, n, rfl⟩)
    go_ret
    exact unhide HF n
  · by_cases h43 : pk s j = 43
    · have hlt : j < s.size := pk_lt (by rw [h43]; decide)
      have HF := hide (fun n => unhide HS 43 4 n h43 (Or.inr (Or.inl rfl)) rfl hlt)
      rw [h43] at HP
      clear h42 h43 HS
      go_enter Tryz.func204, Tryz.ntmps204
      go_wp2_with (go_at_call 205; refine (unhide HP).mono ?_; rintro e w1 ⟨rfl, n, rfl⟩)
      go_ret
      exact unhide HF n
    · by_cases h63 : pk s j = 63
      · have hlt : j < s.size := pk_lt (by rw [h63]; decide)
        have HF := hide (fun n => unhide HS 63 5 n h63 (Or.inr (Or.inr rfl)) rfl hlt)
        rw [h63] at HP
        clear h42 h43 h63 HS
        go_enter Tryz.func204, Tryz.ntmps204
        go_wp2_with (go_at_call 205; refine (unhide HP).mono ?_; rintro e w1 ⟨rfl, n, rfl⟩)
        go_ret
        exact unhide HF n
      · have q1 : (pk s j == 42) = false := by simpa using h42
        have q2 : (pk s j == 43) = false := by simpa using h43
        have q3 : (pk s j == 63) = false := by simpa using h63
        have HR : Hid (gRep s t j = (t, j)) := by show gRep s t j = _; simp [gRep, h42, h43, h63]
        clear h42 h43 h63 HS
        generalize pk s j = a at *
        go_enter Tryz.func204, Tryz.ntmps204
        go_wp2_with (go_at_call 205; refine (unhide HP).mono ?_; rintro e w1 ⟨rfl, n, rfl⟩)
        go_ret
        unfold RepPost
        rw [unhide HR]
        exact ⟨hj, grown_drewN' _ _ _, (unhide HB).1, g, rfl, TR.kept (w := w) (w' := w.drewN n) (fun _ _ _ => rfl) (unhide HB).2⟩

end Go.Proofs.YtlljggefbngkeaaGreatDoor

namespace Go.Proofs.YtlljggefbngkeaaGreatDoor
open Go.RowKit

/-- the machine's block -/
def mblk (v : Value) (st en : Int) : Obj := .cells #[v, .int .i64 st, .int .i64 en] 185 (0, 0)

theorem Tryz.infoState : (Tryz.prog.info? 190).map (fun i => (i.zero, i.size, i.bytes)) = some (some (.agg #[.int .u64 0, .int .i64 0, .slice none 0 0]), 3, 40) := by kernel_rfl

theorem mblk_v {w : World} {b : Nat} {v : Value} {st en : Int} (h : w.heap[b]? = some (mblk v st en)) (v' : Value) : (w.setCell ⟨b, 0, none⟩ v').heap[b]? = some (mblk v' st en) := by
  have := heap_set h 0 v'
  simpa [mblk] using this

set_option maxRecDepth 100000 in
set_option maxHeartbeats 1600000 in
theorem madd_low {w : World} {b : Nat} {st en : Int} {pv : Value} {n : Nat} {xs : List Value} (sn nx : Int) (sv : Value) (h : w.heap[b]? = some (mblk pv st en))
    (hown : w.ownsRow 0 190 3 pv n xs) (hn : n ≤ 100000) (h1 : sv.oneCell' = true) :
    Calls Tryz.prog 140 #[.pointer (some ⟨b, 0, none⟩), .agg #[.int .u64 sn, .int .i64 nx, sv]] w fun e w' => ∃ g cap, e = .returned (.int .i64 n) ∧
      w'.heap[b]? = some (mblk (.slice (some ⟨g, 0, none⟩) (n + 1) cap) st en) ∧ w'.ownsRow 0 190 3 (.slice (some ⟨g, 0, none⟩) (n + 1) cap) (n + 1) (xs ++ [.int .u64 sn, .int .i64 nx, sv]) ∧
      (pv.ownBlock = some g ∨ w.heap.size ≤ g) ∧ Fr (fun k => k = b ∨ pv.ownBlock = some k) w w' := by
  obtain ⟨i0, hi0, hz0, hz1, hz2⟩ := info_parts Tryz.infoState
  have c5 := cellOf h 0
  have fz := frozenOf h 0
  have hbl := heap_lt h
  have hne := own_ne h hown (by decide)
  have hne2 : pv.ownBlock ≠ some w.heap.size := fun e => Nat.lt_irrefl _ (hown.lt _ e).2
  have HB := hide h
  clear h
  simp at c5
  have hone : ∀ u ∈ [Value.int .u64 sn, .int .i64 nx, sv], u.oneCell' = true := by
    intro u hu
    simp at hu
    rcases hu with rfl | rfl | rfl
    · rfl
    · rfl
    · exact h1
  clear h1
  have cz2 : ∀ o o', ((w.alloc o).alloc o').cell? ⟨b, 0, none⟩ = some pv := fun o o' => by rw [World.cell?_alloc_past _ _ _ (by simp; omega), World.cell?_alloc_past _ _ _ hbl]; exact c5
  have fz1 : ∀ o, (w.alloc o).frozen? ⟨b, 0, none⟩ = false := fun o => by rw [World.frozen?_alloc_past _ _ _ hbl]; exact fz
  have fz2 : ∀ o o', ((w.alloc o).alloc o').frozen? ⟨b, 0, none⟩ = false := fun o o' => by rw [World.frozen?_alloc_past _ _ _ (by simp; omega)]; exact fz1 o
  go_enter Tryz.func140, Tryz.ntmps140
  go_wp2_with fail
  go_region_law
    (refine step_append_lies _ (by rfl) _ _ _ (by rfl) 0 190 i0 _ 3 40 Tryz.underlying183 hi0 hz0 hz1 hz2 rfl (by omega) pv n xs (by rfl) (((hown.alloc _).alloc _).drew)
        ⟨w.heap.size + 1, 0, none⟩ 1 1 [.int .u64 sn, .int .i64 nx, sv] (by rfl) (by rfl) (World.news_of_block (cs := #[.int .u64 sn, .int .i64 nx, sv]) (t := 190) (fr := (0, 0)) (alloc2_at w _ _)) hone
        (by omega) (by unfold maxLen; omega) (by omega) (by simp) (w.heap.size + 2) (by simp) ?_; intro g cap w1 hown1 hgrow hat hlt; have k1 : w1.cell? ⟨b, 0, none⟩ = some pv := (by rw [hgrow.cell_far _ (by simp; omega) (Ne.symm hne)]; exact cz2 _ _); have k2 : w1.frozen? ⟨b, 0, none⟩ = false := (by rw [hgrow.frozen_far _ (by simp; omega) (Ne.symm hne)]; exact fz2 _ _))
  all_goals
    go_wp2
    go_ret
    have hb1 : w1.heap[b]? = some (mblk pv st en) := (hgrow.block b (by simp [drew_heap]; omega) (Ne.symm hne)).trans (heap_alloc_old _ (heap_alloc_old _ (unhide HB)))
    refine ⟨g, cap, rfl, mblk_v hb1 _, hown1.kept (grown_set w1 b 0 _) (Or.inr (own_ne hb1 hown1 (by decide))), ?_, ?_⟩
    · rcases hat with hat | hat
      · exact Or.inl hat
      · exact Or.inr (by omega)
    · exact ((((Fr.alloc _ w _).trans (Fr.alloc _ _ _)).trans (Fr.drew _ _)).trans (Fr.of_grown hgrow (fun k e _ => Or.inr e))).trans (Fr.set w1 b 0 _ (Or.inl rfl))

end Go.Proofs.YtlljggefbngkeaaGreatDoor

namespace Go.Proofs.YtlljggefbngkeaaGreatDoor
open Go.RowKit

/-- a state of the machine: its signs, where it goes with one of them, where it goes without any -/
structure MSt where
  set : List UInt8
  nx : Nat
  free : List Nat

/-- the states' cells; their lists lie in rows of their own, outside Y -/
def SR (w : World) (Y : Nat → Prop) (S : List MSt) (xs : List Value) : Prop :=
  ∀ j p, S[j]? = some p → ∃ v, (∃ n : Nat, SetRep n p.set ∧ xs[3 * j]? = some (.int .u64 (n : Int))) ∧ xs[3 * j + 1]? = some (.int .i64 (p.nx : Int)) ∧ xs[3 * j + 2]? = some v ∧
    w.ownsRow 0 3 1 v p.free.length (nums p.free) ∧ ∀ k, v.ownBlock = some k → ¬ Y k

/-- the machine and all that it holds -/
structure MO (w : World) (Y : Nat → Prop) (b : Nat) (S : List MSt) (st en : Nat) (pv : Value) (xs : List Value) : Prop where
  blk : w.heap[b]? = some (mblk pv st en)
  own : w.ownsRow 0 190 3 pv S.length xs
  free : SR w Y S xs
  nb : ¬ Y b
  np : ∀ k, pv.ownBlock = some k → ¬ Y k

def MH (w : World) (Y : Nat → Prop) (b : Nat) (S : List MSt) (st en : Nat) : Prop := ∃ pv xs, MO w Y b S st en pv xs

section
variable {w w' : World} {Y Z : Nat → Prop} {b : Nat} {S : List MSt} {st en : Nat}

theorem MH.reY (h : MH w Y b S st en) (hZ : ∀ k, k < w.heap.size → Z k → Y k) : MH w Z b S st en := by
  obtain ⟨pv, xs, h⟩ := h
  exact ⟨pv, xs, {
    blk := h.blk
    own := h.own
    free := fun j p hp => by
      obtain ⟨v, h1, h2, h3, h4, h5⟩ := h.free j p hp
      exact ⟨v, h1, h2, h3, h4, fun k hk hz => h5 k hk (hZ k (own_lt h4 k hk) hz)⟩
    nb := fun hz => h.nb (hZ b (heap_lt h.blk) hz)
    np := fun k hk hz => h.np k hk (hZ k (own_lt h.own k hk) hz) }⟩

/-- what is written lies in Y -/
theorem MH.kept (h : MH w Y b S st en) (key : ∀ k, k < w.heap.size → ¬ Y k → w'.heap[k]? = w.heap[k]?) : MH w' Y b S st en := by
  obtain ⟨pv, xs, h⟩ := h
  exact ⟨pv, xs, {
    blk := (key b (heap_lt h.blk) h.nb).trans h.blk
    own := own_same h.own fun k hk => key k (own_lt h.own k hk) (h.np k hk)
    free := fun j p hp => by
      obtain ⟨v, h1, h2, h3, h4, h5⟩ := h.free j p hp
      exact ⟨v, h1, h2, h3, own_same h4 fun k hk => key k (own_lt h4 k hk) (h5 k hk), h5⟩
    nb := h.nb
    np := h.np }⟩

theorem MH.grown {r : Option Nat} (h : MH w Y b S st en) (hg : w.grownBy w' r) (hr : ∀ k, r = some k → Y k) : MH w' Y b S st en :=
  h.kept fun k hk hy => hg.block k hk (fun e => hy (hr k e.symm))
theorem MH.alloc (h : MH w Y b S st en) (o : Obj) : MH (w.alloc o) Y b S st en := h.grown (World.grownBy_alloc w o none) (fun _ h => by cases h)
theorem MH.drewN (h : MH w Y b S st en) (n : Nat) : MH (w.drewN n) Y b S st en := h.grown (grown_drewN' w n none) (fun _ h => by cases h)
theorem MH.drew (h : MH w Y b S st en) : MH w.drew Y b S st en := h.grown (grown_drew' w none) (fun _ h => by cases h)
theorem MH.lt (h : MH w Y b S st en) : b < w.heap.size := by obtain ⟨pv, xs, h⟩ := h; exact heap_lt h.blk
theorem MH.nb (h : MH w Y b S st en) : ¬ Y b := by obtain ⟨pv, xs, h⟩ := h; exact h.nb

theorem MAdd (p : MSt) (n : Nat) (sv : Value) (hset : SetRep n p.set) (h : MH w Y b S st en) (hn : S.length ≤ 100000) (hsv : w.ownsRow 0 3 1 sv p.free.length (nums p.free)) (hsy : ∀ k, sv.ownBlock = some k → ¬ Y k) (hY : ∀ k, Y k → k < w.heap.size) :
    Calls Tryz.prog 140 #[.pointer (some ⟨b, 0, none⟩), .agg #[.int .u64 (n : Int), .int .i64 (p.nx : Int), sv]] w fun e w' => e = .returned (.int .i64 (S.length : Int)) ∧ MH w' Y b (S ++ [p]) st en ∧ Kp Y w w' := by
  obtain ⟨pv, xs, h⟩ := h
  refine (madd_low n p.nx sv h.blk h.own hn (own_one hsv)).mono ?_
  rintro e w' ⟨g, cap, rfl, hb, ho, hg, hf⟩
  have key : ∀ k, k < w.heap.size → k ≠ b → pv.ownBlock ≠ some k → w'.heap[k]? = w.heap[k]? := fun k hk h1 h2 => hf.block k hk (fun e => e.elim h1 h2)
  have hx := h.blk
  refine ⟨rfl, ⟨.slice (some ⟨g, 0, none⟩) (S.length + 1) cap, xs ++ [.int .u64 (n : Int), .int .i64 (p.nx : Int), sv], ?_⟩, Kp.of_fr hf (fun k _ hy e => e.elim (fun e => h.nb (e ▸ hy)) (fun e => h.np k e hy))⟩
  exact {
    blk := hb
    own := by simpa using ho
    free := by
      intro j q hq
      have hlen := h.own.1
      rcases Nat.lt_or_ge j S.length with hj | hj
      · have hq' : S[j]? = some q := by rw [List.getElem?_append_left hj] at hq; exact hq
        obtain ⟨v, h1, h2, h3, h4, h5⟩ := h.free j q hq'
        refine ⟨v, ?_, ?_, ?_, own_same h4 fun k hk => key k (own_lt h4 k hk) (fun e => own_ne hx h4 (by decide) (by rw [hk, e])) (own_ty h4 h.own (by decide) k hk), h5⟩
        · obtain ⟨n1, h6, h7⟩ := h1
          exact ⟨n1, h6, by rw [List.getElem?_append_left (by omega)]; exact h7⟩
        · rw [List.getElem?_append_left (by omega)]; exact h2
        · rw [List.getElem?_append_left (by omega)]; exact h3
      · have hj' : j = S.length := by
          have := (List.getElem?_eq_some_iff.1 hq).1
          simp at this
          omega
        subst hj'
        have hq' : q = p := by simpa using hq.symm
        subst hq'
        refine ⟨sv, ?_, ?_, ?_, own_same hsv fun k hk => key k (own_lt hsv k hk) (fun e => own_ne hx hsv (by decide) (by rw [hk, e])) (own_ty hsv h.own (by decide) k hk), hsy⟩
        · exact ⟨n, hset, by rw [List.getElem?_append_right (by omega), show 3 * S.length - xs.length = 0 by omega]; rfl⟩
        · rw [List.getElem?_append_right (by omega), show 3 * S.length + 1 - xs.length = 1 by omega]; rfl
        · rw [List.getElem?_append_right (by omega), show 3 * S.length + 2 - xs.length = 2 by omega]; rfl
    nb := h.nb
    np := by
      intro k hk hy
      simp [Value.ownBlock] at hk
      subst hk
      rcases hg with hg | hg
      · exact h.np _ hg hy
      · have := hY _ hy; omega }
end

end Go.Proofs.YtlljggefbngkeaaGreatDoor

namespace Go.Proofs.YtlljggefbngkeaaGreatDoor
open Go.RowKit

/-- the block of the program's reader of lenses -/
def sblk (s : ByteArray) (i : Nat) : Obj := .cells #[.string s, .int .i64 i] 142 (0, 0)

/-- the byte at a place; -1: the end -/
def pe (s : ByteArray) (i : Nat) : Int := if i < s.size then pk s i else -1

set_option maxHeartbeats 400000 in
theorem sblank (c : Int) {w : World} : Calls Tryz.prog 126 #[.int .u8 c] w fun e w' => e = .returned (.bool (blankI c)) ∧ w' = w := by
  by_cases h1 : c = 32
  · subst h1
    go_enter Tryz.func126, Tryz.ntmps126
    go_wp2
    go_ret
    exact ⟨rfl, rfl⟩
  · by_cases h2 : c = 10
    · subst h2
      go_enter Tryz.func126, Tryz.ntmps126
      go_wp2
      go_ret
      exact ⟨rfl, rfl⟩
    · have q1 : (c == 32) = false := by simpa using h1
      have q2 : (c == 10) = false := by simpa using h2
      have H : Hid (blankI c = false) := by simp [Hid, blankI, h1, h2]
      clear h1 h2
      go_enter Tryz.func126, Tryz.ntmps126
      go_wp2
      go_ret
      rw [unhide H]
      exact ⟨rfl, rfl⟩

end Go.Proofs.YtlljggefbngkeaaGreatDoor

namespace Go.Proofs.YtlljggefbngkeaaGreatDoor
open Go.RowKit

set_option maxRecDepth 100000 in
set_option maxHeartbeats 1600000 in
theorem speek {w : World} {b : Nat} {s : ByteArray} {i : Nat} (h : w.heap[b]? = some (sblk s i)) (hs : s.size ≤ 120) (hi : i ≤ s.size) :
    Calls Tryz.prog 81 #[.pointer (some ⟨b, 0, none⟩)] w fun e w' => e = .returned (.int .i64 (pe s (skipB s i))) ∧ w'.heap[b]? = some (sblk s (skipB s i)) ∧ w.grownBy w' (some b) := by
  go_enter Tryz.func81, Tryz.ntmps81
  go_wp2_with fail
  go_loopg [3] (s.size - i) (fun k _ wv => ∃ j, j ≤ s.size ∧ s.size - j ≤ k ∧ skipB s j = skipB s i ∧ wv.heap[b]? = some (sblk s j) ∧ w.grownBy wv (some b))
  case atStart => exact ⟨i, hi, Nat.le_refl _, rfl, h, World.grownBy.refl _ _⟩
  case round =>
    obtain ⟨j, hj, hk, hsk, hb, hg⟩ := hrel
    have HR := hide (And.intro hk (And.intro hsk (And.intro hb hg)))
    have c0 := cellOf hb 0
    have c1 := cellOf hb 1
    have fz := frozenOf hb 1
    clear hk hsk hb hg h
    simp at c0 c1
    by_cases hlt : j < s.size
    · have hd : (j : Int) < (s.size : Int) := by omega
      have hpk : pk s j = (s[j].toNat : Int) := by simp [pk, hlt]
      by_cases hbl : blankI (pk s j) = true
      · have HB : Hid (blankI (s[j].toNat : Int) = true) := by rw [← hpk]; exact hbl
        have HC := hide (fun W : World => sblank (s[j].toNat : Int) (w := W))
        rw [unhide HB] at HC
        clear hpk hbl
        go_wp2_with fail
        go_quiet (first | (go_at_call 126; refine Calls.quiet_of_same (unhide HC _)))
        go_wp2_with fail
        go_roundg (gk - 1)
        case measure => have := (unhide HR).1; omega
        case rel =>
          obtain ⟨hk, hsk, hb, hg⟩ := unhide HR
          refine ⟨j + 1, by omega, by omega, ?_, ?_, ?_⟩
          · rw [← hsk, skipB_step s j hlt (by simp only [pk, hlt, dif_pos]; exact unhide HB)]
          · have h1 := heap_set (w := wr.drewN nq) hb 1 (.int .i64 ((j : Int) + 1))
            simpa [sblk] using h1
          · exact (hg.trans (grown_drewN' _ nq _)).trans (grown_set _ _ _ _)
      · have hbf : blankI (pk s j) = false := by simpa using hbl
        have HB : Hid (blankI (s[j].toNat : Int) = false) := by rw [← hpk]; exact hbf
        have HC := hide (fun W : World => sblank (s[j].toNat : Int) (w := W))
        rw [unhide HB] at HC
        have HF : Hid (skipB s j = j ∧ pe s j = (s[j].toNat : Int)) := ⟨skipB_stop s j hbf, by simp [pe, hlt, hpk]⟩
        have hq : ((j : Int) == (s.size : Int)) = false := by rw [beq_eq_false_iff_ne]; omega
        clear hpk hbl hbf
        go_wp2_with fail
        go_quiet (first | (go_at_call 126; refine Calls.quiet_of_same (unhide HC _)))
        rename_i n1
        go_wp2_with fail
        go_quiet (fail)
        go_wp2_with fail
        go_quiet (fail)
        go_wp2
        go_ret
        obtain ⟨hk, hsk, hb, hg⟩ := unhide HR
        rw [← hsk, (unhide HF).1, (unhide HF).2]
        have hw64 : wrap64 (s[j].toNat : Int) = (s[j].toNat : Int) := by have := (s[j]).toNat_lt; unfold wrap64; omega
        exact ⟨by rw [hw64]; rfl, hb, by simpa using hg.trans (grown_drewN' _ _ _)⟩
    · have hd : decide ((j : Int) < (s.size : Int)) = false := by simp; omega
      have hje : j = s.size := by omega
      have hq : ((j : Int) == (s.size : Int)) = true := by rw [beq_iff_eq]; omega
      have HF : Hid (skipB s j = j ∧ pe s j = -1) := ⟨skipB_stop s j (by simp [pk, hlt]; rfl), by simp [pe, hlt]⟩
      go_wp2_with fail
      go_quiet (fail)
      go_wp2_with fail
      go_quiet (fail)
      go_wp2
      go_ret
      obtain ⟨hk, hsk, hb, hg⟩ := unhide HR
      rw [← hsk, (unhide HF).1, (unhide HF).2]
      exact ⟨rfl, hb, by simpa using hg.trans (grown_drewN' _ _ _)⟩

end Go.Proofs.YtlljggefbngkeaaGreatDoor
