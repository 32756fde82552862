import Derived.Test.YtlljggefbngkeaaGreatDoorV10
import Derived.Shelf.Strings.BuilderK
import Derived.Test.YtlljggefbngkeaaGreatDoorV13
import Derived.Test.YtlljggefbngkeaaGreatDoorV06
namespace Go.Proofs.YtlljggefbngkeaaGreatDoor
open Go.RowKit Go.Shelf






set_option maxHeartbeats 2000000 in
set_option maxRecDepth 100000 in
theorem bwrite {B b : Nat} {l : List UInt8} {w : World} (s : ByteArray) (h : BH B b l w) (hlen : l.length + s.size ≤ 1000000) (hBw : B ≤ w.heap.size) :
    Calls Tryz.prog 84 #[.pointer (some ⟨b, 0, none⟩), .string s] w fun e w' => e = .returned (.tuple #[.int .i64 s.size, .nilIface]) ∧ BH B b (l ++ s.data.toList) w' ∧ Below B w w' := by
  obtain ⟨i0, hi, hz0, hz1, hz2⟩ := info_parts bextra.infoByte
  have HC := hide (bcheck h)
  have hl := Lib.byteCells_length l
  clear h
  go_enter Tryz.func84, Tryz.ntmps84
  go_wp2_with fail
  refine (unhide HC).mono ?_
  rintro e w1 ⟨rfl, h1, hb1⟩
  obtain ⟨hB, v, hbk, hown, hne⟩ := h1
  have c0 : w1.cell? ⟨b, 0, none⟩ = some (.pointer (some ⟨b, 0, none⟩)) := by rw [Lib.cell_of_heap hbk]; rfl
  have c1 : w1.cell? ⟨b, 1, none⟩ = some v := by rw [Lib.cell_of_heap hbk]; rfl
  have hB1 := hb1.size
  clear HC
  go_wp2_with (at_builtin; refine Lib.wpList_append_own_stringF _ rfl _ _ 96 9 rfl B 5 i0 Tryz.underlying96 Tryz.underlying9 hi hz0 hz1 hz2 _ _ _ rfl hown s rfl (by unfold maxLen; omega) (by omega) (by omega) ?_)
  intro v' w2 hown' hgrow _
  have hlt : b < w1.heap.size := heap_lt hbk
  have hb2 : w2.heap[b]? = some (.cells #[.pointer (some ⟨b, 0, none⟩), v] 98 (0, 0)) := by
    rw [hgrow.block b hlt (fun e => hne e.symm)]
    exact hbk
  have d0 : w2.cell? ⟨b, 0, none⟩ = some (.pointer (some ⟨b, 0, none⟩)) := by rw [Lib.cell_of_heap hb2]; rfl
  have d1 : w2.cell? ⟨b, 1, none⟩ = some v := by rw [Lib.cell_of_heap hb2]; rfl
  have f1 : w2.frozen? ⟨b, 1, none⟩ = false := Lib.frozen_of_heap hb2 1
  obtain ⟨ao, n', cap, rfl⟩ : ∃ ao n' cap, v' = .slice ao n' cap := by
    rcases hown'.2 with ⟨hv, _⟩ | ⟨g, cap, cur, fz, hv, _⟩
    · exact ⟨_, _, _, hv⟩
    · exact ⟨_, _, _, hv⟩
  go_wp2
  go_ret2
  refine ⟨rfl, Or.inr ?_, ?_⟩
  · have hx := Lib.BuilderAtF.put (T := 98) (e := 5) hB hb2 (bs' := Lib.byteCells l ++ Lib.strCells s) (by simpa [Lib.strCells_length, hl] using hown') (by decide)
    have e : Lib.byteCells (l ++ s.data.toList) = Lib.byteCells l ++ Lib.strCells s := by simp [Lib.byteCells, Lib.strCells]
    rw [e]
    exact hx
  · exact (hb1.grown hgrow (Nat.le_trans hBw hB1) (fun k hk => (hown.lt k hk).1)).setCell (p := ⟨b, 1, none⟩) hB _

end Go.Proofs.YtlljggefbngkeaaGreatDoor

namespace Go.Proofs.YtlljggefbngkeaaGreatDoor
open Go.RowKit

/-- what is asked of the writing of a lens: its tree lies in the memory of w0; since then all of that has been kept -/
def WSaid (s : ByteArray) (w0 : World) (Y : Nat → Prop) (b : Nat) (t : LT) : Prop :=
  ∀ (g : Nat) (w : World) (l : List UInt8), LR s w0 Y t g → Below w0.heap.size w0 w → BH w0.heap.size b l w → l.length + (form s t).length ≤ 100000 →
    Calls Tryz.prog 54 #[.pointer (some ⟨g, 0, none⟩), .pointer (some ⟨b, 0, none⟩)] w fun e w' => e = .returned (.tuple #[]) ∧ BH w0.heap.size b (l ++ form s t) w' ∧ Below w0.heap.size w0 w'


theorem formT_app (s : ByteArray) (sep : List UInt8) : ∀ (l k : List LT), formT s sep (l ++ k) = formT s sep l ++ formT s sep k
  | [], k => by rw [formT]; rfl
  | t :: l, k => by rw [List.cons_append, formT, formT, formT_app s sep l k]; simp only [List.append_assoc]
theorem formL_app (s : ByteArray) (sep : List UInt8) (t : LT) : ∀ (l : List LT), l ≠ [] → formL s sep (l ++ [t]) = formL s sep l ++ (sep ++ form s t)
  | [], h => absurd rfl h
  | u :: l, _ => by rw [List.cons_append, formL, formL, formT_app, formT, formT, List.append_nil]; simp only [List.append_assoc]


theorem formL_take_le (s : ByteArray) (sep : List UInt8) (ts : List LT) : ∀ k, (formL s sep (ts.take k)).length ≤ (formL s sep ts).length := by
  intro k
  cases ts with
  | nil => simp
  | cons t l =>
    cases k with
    | zero => rw [List.take_zero, formL, formL]; simp
    | succ k =>
      rw [List.take_succ_cons, formL, formL]
      have : formT s sep l = formT s sep (l.take k) ++ formT s sep (l.drop k) := by rw [← formT_app, List.take_append_drop]
      rw [this]
      simp only [List.length_append]
      omega

set_option maxRecDepth 100000 in
set_option maxHeartbeats 3200000 in
theorem lwriteParts {s : ByteArray} {w0 : World} {Y : Nat → Prop} {b : Nat} {ts : List LT} {gs : List Nat} (hW : ∀ t, t ∈ ts → WSaid s w0 Y b t) {g : Nat} {kind : Int} {v jv : Value} (hg : w0.heap[g]? = some (pblk2 kind v jv)) (hv : LW w0 Y v gs) (hT : LRL s w0 Y ts gs)
    (ahead sep behind : List UInt8) (w : World) (l : List UInt8) (hB : Below w0.heap.size w0 w) (hbh : BH w0.heap.size b l w) (hlen : l.length + ahead.length + (formL s sep ts).length + behind.length ≤ 100000) :
    Calls Tryz.prog 85 #[.pointer (some ⟨g, 0, none⟩), .pointer (some ⟨b, 0, none⟩), .string (txt ahead), .string (txt sep), .string (txt behind)] w fun e w' =>
      e = .returned (.tuple #[]) ∧ BH w0.heap.size b (l ++ ahead ++ formL s sep ts ++ behind) w' ∧ Below w0.heap.size w0 w' := by
  have hgl : gs.length ≤ 9223372036854775807 := own_max hv.1
  obtain ⟨ao, cp, rfl⟩ := own_slice hv.1
  have hgs := hT.len
  have HA := hide (bwrite (txt ahead) hbh (by rw [txt_size]; omega) hB.size)
  have H0 := hide (And.intro hg (And.intro hv (And.intro hT hW)))
  have hB0 := hide hB
  clear hg hv hT hW hbh hB
  go_enter Tryz.func85, Tryz.ntmps85
  go_wp2_with fail
  refine (unhide HA).mono ?_
  rintro e w1 ⟨rfl, h1, b1⟩
  have hB1 := (unhide hB0).trans b1
  obtain ⟨hg, hv, hT, hW⟩ := unhide H0
  have hg1 : w1.heap[g]? = some (pblk2 kind (.slice ao gs.length cp) jv) := (hB1.block g (heap_lt hg)).trans hg
  have c1 := cellOf hg1 1
  simp at c1
  have htx : (txt ahead).data.toList = ahead := by simp [txt]
  rw [htx] at h1
  have H1 := hide (And.intro h1 hB1)
  have Hgs := hide hgs
  clear hg hv hT hW hg1 h1 b1 hB1 hgs htx
  go_wp2_with fail
  go_loopg [20] (gs.length + 1) (fun gk iv wv => ∃ k : Nat, iv = .int .i64 (k : Int) ∧ k ≤ gs.length ∧ gs.length - k < gk ∧ BH w0.heap.size b (l ++ ahead ++ formL s sep (ts.take k)) wv ∧ Below w0.heap.size w0 wv)
  case atStart => exact ⟨0, rfl, Nat.zero_le _, by omega, by rw [List.take_zero, formL, List.append_nil]; exact (unhide H1).1, (unhide H1).2⟩
  case round =>
    obtain ⟨k, rfl, hk, hgk, hbh, hB⟩ := hrel
    have HI := hide (And.intro hbh hB)
    clear hbh hB c1
    by_cases hlt : k < gs.length
    · have hd : (k : Int) < (gs.length : Int) := by omega
      obtain ⟨hg, hv, hT, hW⟩ := unhide H0
      obtain ⟨vb, cap, hveq, _, hvl⟩ := hv.1.form (by omega)
      injection hveq with hao _ hcp
      subst hao
      subst hcp
      obtain ⟨t, gt, ht1, ht2, ht3⟩ := LRL.at hT k (by have := unhide Hgs; omega)
      have ck : wr.cell? ⟨vb, k, none⟩ = some (.pointer (some ⟨gt, 0, none⟩)) := by
        have h1 := hv.1.cellAt k (by omega)
        rw [World.cell?_of_block (w := w0) (w' := wr) (a := ⟨vb, k, none⟩) ((unhide HI).2.block vb hvl), h1]
        simp [ptrs, ht2]
      have hmem : t ∈ ts := List.mem_of_getElem? ht1
      have htake : ts.take (k + 1) = ts.take k ++ [t] := by rw [List.take_add_one, ht1]; rfl
      have hle := formL_take_le s sep ts (k + 1)
      have HW := hide (fun (W : World) (u : List UInt8) (hB : Below w0.heap.size w0 W) (hu : BH w0.heap.size b u W) (hl : u.length + (form s t).length ≤ 100000) => hW t hmem gt W u ht3 hB hu hl)
      clear hg hv hT hW ht1 ht2 ht3 hmem
      by_cases h0 : k = 0
      · subst h0
        rw [htake, List.take_zero, List.nil_append, formL_1] at hle
        have HC := hide (unhide HW wr _ (unhide HI).2 (unhide HI).1 (by rw [List.take_zero, formL]; simp; omega))
        have Ht := hide htake
        clear htake
        go_wp2_with fail
        refine (unhide HC).mono ?_
        rintro e w3 ⟨rfl, h3, b3⟩
        go_wp2_with fail
        go_roundg (gs.length - 0)
        case measure => exact hgk
        case rel => exact ⟨1, rfl, by omega, by omega, by rw [unhide Ht, List.take_zero, List.nil_append, formL_1]; rw [List.take_zero, formL, List.append_nil] at h3; exact h3, b3⟩
      · have hne : ts.take k ≠ [] := by
          intro e
          have h5 := congrArg List.length e
          have h6 := unhide Hgs
          rw [List.length_take, List.length_nil] at h5
          omega
        rw [htake, formL_app s sep t _ hne] at hle
        simp only [List.length_append] at hle
        have hd0 : (0 : Int) < (k : Int) := by omega
        have HS := hide (bwrite (txt sep) (unhide HI).1 (by rw [txt_size]; simp only [List.length_append]; omega) (unhide HI).2.size)
        have Ht := hide (And.intro htake hne)
        clear htake hne
        go_wp2_with fail
        refine (unhide HS).mono ?_
        rintro e w2 ⟨rfl, h2, b2⟩
        have htx : (txt sep).data.toList = sep := by simp [txt]
        rw [htx] at h2
        have HC := hide (unhide HW w2 _ ((unhide HI).2.trans b2) h2 (by simp only [List.length_append]; omega))
        clear h2 b2 htx
        go_wp2_with fail
        refine (unhide HC).mono ?_
        rintro e w3 ⟨rfl, h3, b3⟩
        go_wp2_with fail
        go_roundg (gs.length - k)
        case measure => exact hgk
        case rel =>
          refine ⟨k + 1, rfl, by omega, by omega, ?_, b3⟩
          rw [(unhide Ht).1, formL_app s sep t _ (unhide Ht).2]
          simpa only [List.append_assoc] using h3
    · have hd : decide ((k : Int) < (gs.length : Int)) = false := by simp; omega
      have hke : ts.take k = ts := List.take_of_length_le (by have := unhide Hgs; omega)
      have HE := hide (bwrite (txt behind) (unhide HI).1 (by rw [txt_size, hke]; simp only [List.length_append]; omega) (unhide HI).2.size)
      rw [hke, show (txt behind).data.toList = behind by simp [txt]] at HE
      have HB := hide (unhide HI).2
      clear hke HI
      go_wp2_with fail
      refine (unhide HE).mono ?_
      rintro e w2 ⟨rfl, h2, b2⟩
      go_wp2
      go_end0
      exact ⟨rfl, h2, (unhide HB).trans b2⟩

end Go.Proofs.YtlljggefbngkeaaGreatDoor

namespace Go.Proofs.YtlljggefbngkeaaGreatDoor
open Go.RowKit

section
variable {s : ByteArray} {w0 : World} {Y : Nat → Prop} {b : Nat}

set_option maxRecDepth 100000 in
set_option maxHeartbeats 1600000 in
theorem lwrite_same (br : List PT) (i j : Nat) : WSaid s w0 Y b (.same br i j) := by
  intro g w l hR hB hbh hlen
  rw [LR] at hR
  obtain ⟨_, p, hg, _⟩ := hR
  have hg1 := (hB.block g (heap_lt hg)).trans hg
  rw [form] at *
  have htx : s.extract i j = txt (sub s.data.toList i j) := (txt_sub s i j).symm
  have c0 := cellOf hg1 0
  have c4 := cellOf hg1 4
  rw [htx] at c4
  simp at c0 c4
  have HA := hide (bwrite (txt (sub s.data.toList i j)) hbh (by rw [txt_size]; omega) hB.size)
  rw [show (txt (sub s.data.toList i j)).data.toList = sub s.data.toList i j by simp [txt]] at HA
  have HB := hide hB
  clear hB hbh hg hg1 htx
  generalize txt (sub s.data.toList i j) = q at *
  go_enter Tryz.func54, Tryz.ntmps54
  go_wp2_with fail
  refine (unhide HA).mono ?_
  rintro e w1 ⟨rfl, h1, b1⟩
  go_wp2
  go_end0
  exact ⟨rfl, h1, (unhide HB).trans b1⟩

set_option maxRecDepth 100000 in
set_option maxHeartbeats 1600000 in
theorem lwrite_fixed (br : List PT) (i j : Nat) (v d : List UInt8) (at_ : Nat) : WSaid s w0 Y b (.fixed br i j v d at_) := by
  intro g w l hR hB hbh hlen
  rw [LR] at hR
  obtain ⟨_, p, hg, _⟩ := hR
  have hg1 := (hB.block g (heap_lt hg)).trans hg
  rw [form] at *
  have htx : s.extract i j = txt (sub s.data.toList i j) := (txt_sub s i j).symm
  have c0 := cellOf hg1 0
  have c4 := cellOf hg1 4
  rw [htx] at c4
  simp at c0 c4
  simp only [List.length_append, List.length_cons, List.length_nil] at hlen
  have HA := hide (bwrite (txt (sub s.data.toList i j)) hbh (by rw [txt_size]; omega) hB.size)
  rw [show (txt (sub s.data.toList i j)).data.toList = sub s.data.toList i j by simp [txt]] at HA
  have HB := hide (And.intro hB hg)
  generalize hu : sub s.data.toList i j = u at *
  clear hB hbh hg hg1 htx hu
  go_enter Tryz.func54, Tryz.ntmps54
  go_wp2_with fail
  refine (unhide HA).mono ?_
  rintro e w1 ⟨rfl, h1, b1⟩
  have hg1 := ((unhide HB).1.trans b1).block g (heap_lt (unhide HB).2)
  rw [(unhide HB).2] at hg1
  have d5 := cellOf hg1 5
  have d6 := cellOf hg1 6
  simp at d5 d6
  have hs1 := txt_size v
  have hs2 := txt_size d
  have q1 : ¬ 9223372036854775807 < 1 + v.length := by omega
  have q2 : ¬ 9223372036854775807 < 1 + v.length + 2 := by omega
  have q3 : ¬ 9223372036854775807 < 1 + v.length + 2 + d.length := by omega
  have q4 : ¬ 9223372036854775807 < 1 + v.length + 2 + d.length + 1 := by omega
  have hcat : ((((⟨#[34]⟩ : ByteArray) ++ txt v) ++ ⟨#[34, 34]⟩) ++ txt d) ++ ⟨#[34]⟩ = txt ([34] ++ v ++ [34, 34] ++ d ++ [34]) := by
    rw [txt_app, txt_app, txt_app, txt_app]
    rfl
  have HC := hide (bwrite (w := w1.drew) (((((⟨#[34]⟩ : ByteArray) ++ txt v) ++ ⟨#[34, 34]⟩) ++ txt d) ++ ⟨#[34]⟩) h1 (by rw [hcat, txt_size]; simp only [List.length_append, List.length_cons, List.length_nil]; omega) ((unhide HB).1.trans b1).size)
  have H1 := hide ((unhide HB).1.trans b1)
  have Hcat := hide hcat
  clear hg1 h1 b1 hcat
  go_wp2_with fail
  go_region_law (go_simp; go_at_call 84; refine (unhide HC).mono ?_; rintro e w2 ⟨rfl, h2, b2⟩)
  all_goals
    go_wp2
    go_end0
    refine ⟨rfl, ?_, ?_⟩
    · rw [unhide Hcat] at h2
      simpa [txt] using h2
    · exact (unhide H1).trans ⟨b2.os, b2.tape, b2.output, b2.size, b2.block⟩


set_option maxRecDepth 100000 in
set_option maxHeartbeats 1600000 in
theorem lwrite_k2 {ts : List LT} {gs : List Nat} (hW : ∀ t, t ∈ ts → WSaid s w0 Y b t) {g : Nat} {v jv : Value} (hg : w0.heap[g]? = some (pblk2 2 v jv)) (hv : LW w0 Y v gs) (hT : LRL s w0 Y ts gs) (w : World) (l : List UInt8) (hB : Below w0.heap.size w0 w) (hbh : BH w0.heap.size b l w) (hlen : l.length + 2 + (formL s [44, 32] ts).length + 1 ≤ 100000) :
    Calls Tryz.prog 54 #[.pointer (some ⟨g, 0, none⟩), .pointer (some ⟨b, 0, none⟩)] w fun e w' => e = .returned (.tuple #[]) ∧ BH w0.heap.size b (l ++ [126, 40] ++ formL s [44, 32] ts ++ [41]) w' ∧ Below w0.heap.size w0 w' := by
  have hg1 := (hB.block g (heap_lt hg)).trans hg
  have c0 := cellOf hg1 0
  simp at c0
  have HP := hide (lwriteParts hW hg hv hT [126, 40] [44, 32] [41] w l hB hbh hlen)
  clear hW hg hv hT hB hbh hg1
  go_enter Tryz.func54, Tryz.ntmps54
  go_wp2_with fail
  refine (unhide HP).mono ?_
  rintro e w1 ⟨rfl, h1, b1⟩
  go_wp2
  go_end0
  exact ⟨rfl, h1, b1⟩


set_option maxRecDepth 100000 in
set_option maxHeartbeats 1600000 in
theorem lwrite_k3 {ts : List LT} {gs : List Nat} (hW : ∀ t, t ∈ ts → WSaid s w0 Y b t) {g : Nat} {v jv : Value} (hg : w0.heap[g]? = some (pblk2 3 v jv)) (hv : LW w0 Y v gs) (hT : LRL s w0 Y ts gs) (w : World) (l : List UInt8) (hB : Below w0.heap.size w0 w) (hbh : BH w0.heap.size b l w) (hlen : l.length + 1 + (formL s [] ts).length + 1 ≤ 100000) :
    Calls Tryz.prog 54 #[.pointer (some ⟨g, 0, none⟩), .pointer (some ⟨b, 0, none⟩)] w fun e w' => e = .returned (.tuple #[]) ∧ BH w0.heap.size b (l ++ [40] ++ formL s [] ts ++ [41]) w' ∧ Below w0.heap.size w0 w' := by
  have hg1 := (hB.block g (heap_lt hg)).trans hg
  have c0 := cellOf hg1 0
  simp at c0
  have HP := hide (lwriteParts hW hg hv hT [40] [] [41] w l hB hbh hlen)
  clear hW hg hv hT hB hbh hg1
  go_enter Tryz.func54, Tryz.ntmps54
  go_wp2_with fail
  refine (unhide HP).mono ?_
  rintro e w1 ⟨rfl, h1, b1⟩
  go_wp2
  go_end0
  exact ⟨rfl, h1, b1⟩


set_option maxRecDepth 100000 in
set_option maxHeartbeats 1600000 in
theorem lwrite_k4 {ts : List LT} {gs : List Nat} (hW : ∀ t, t ∈ ts → WSaid s w0 Y b t) {g : Nat} {v jv : Value} (hg : w0.heap[g]? = some (pblk2 4 v jv)) (hv : LW w0 Y v gs) (hT : LRL s w0 Y ts gs) (w : World) (l : List UInt8) (hB : Below w0.heap.size w0 w) (hbh : BH w0.heap.size b l w) (hlen : l.length + 0 + (formL s [] ts).length + 1 ≤ 100000) :
    Calls Tryz.prog 54 #[.pointer (some ⟨g, 0, none⟩), .pointer (some ⟨b, 0, none⟩)] w fun e w' => e = .returned (.tuple #[]) ∧ BH w0.heap.size b (l ++ [] ++ formL s [] ts ++ [42]) w' ∧ Below w0.heap.size w0 w' := by
  have hg1 := (hB.block g (heap_lt hg)).trans hg
  have c0 := cellOf hg1 0
  simp at c0
  have HP := hide (lwriteParts hW hg hv hT [] [] [42] w l hB hbh hlen)
  clear hW hg hv hT hB hbh hg1
  go_enter Tryz.func54, Tryz.ntmps54
  go_wp2_with fail
  refine (unhide HP).mono ?_
  rintro e w1 ⟨rfl, h1, b1⟩
  go_wp2
  go_end0
  exact ⟨rfl, h1, b1⟩


set_option maxRecDepth 100000 in
set_option maxHeartbeats 1600000 in
theorem lwrite_k5 {ts : List LT} {gs : List Nat} (hW : ∀ t, t ∈ ts → WSaid s w0 Y b t) {g : Nat} {v jv : Value} (hg : w0.heap[g]? = some (pblk2 5 v jv)) (hv : LW w0 Y v gs) (hT : LRL s w0 Y ts gs) (w : World) (l : List UInt8) (hB : Below w0.heap.size w0 w) (hbh : BH w0.heap.size b l w) (hlen : l.length + 0 + (formL s [32] ts).length + 0 ≤ 100000) :
    Calls Tryz.prog 54 #[.pointer (some ⟨g, 0, none⟩), .pointer (some ⟨b, 0, none⟩)] w fun e w' => e = .returned (.tuple #[]) ∧ BH w0.heap.size b (l ++ [] ++ formL s [32] ts ++ []) w' ∧ Below w0.heap.size w0 w' := by
  have hg1 := (hB.block g (heap_lt hg)).trans hg
  have c0 := cellOf hg1 0
  simp at c0
  have HP := hide (lwriteParts hW hg hv hT [] [32] [] w l hB hbh hlen)
  clear hW hg hv hT hB hbh hg1
  go_enter Tryz.func54, Tryz.ntmps54
  go_wp2_with fail
  refine (unhide HP).mono ?_
  rintro e w1 ⟨rfl, h1, b1⟩
  go_wp2
  go_end0
  exact ⟨rfl, h1, b1⟩


set_option maxRecDepth 100000 in
set_option maxHeartbeats 1600000 in
theorem lwrite_k6 {ts : List LT} {gs : List Nat} (hW : ∀ t, t ∈ ts → WSaid s w0 Y b t) {g : Nat} {v jv : Value} (hg : w0.heap[g]? = some (pblk2 6 v jv)) (hv : LW w0 Y v gs) (hT : LRL s w0 Y ts gs) (w : World) (l : List UInt8) (hB : Below w0.heap.size w0 w) (hbh : BH w0.heap.size b l w) (hlen : l.length + 0 + (formL s [32, 124, 32] ts).length + 0 ≤ 100000) :
    Calls Tryz.prog 54 #[.pointer (some ⟨g, 0, none⟩), .pointer (some ⟨b, 0, none⟩)] w fun e w' => e = .returned (.tuple #[]) ∧ BH w0.heap.size b (l ++ [] ++ formL s [32, 124, 32] ts ++ []) w' ∧ Below w0.heap.size w0 w' := by
  have hg1 := (hB.block g (heap_lt hg)).trans hg
  have c0 := cellOf hg1 0
  simp at c0
  have HP := hide (lwriteParts hW hg hv hT [] [32, 124, 32] [] w l hB hbh hlen)
  clear hW hg hv hT hB hbh hg1
  go_enter Tryz.func54, Tryz.ntmps54
  go_wp2_with fail
  refine (unhide HP).mono ?_
  rintro e w1 ⟨rfl, h1, b1⟩
  go_wp2
  go_end0
  exact ⟨rfl, h1, b1⟩

mutual
theorem lwrite : ∀ t : LT, WSaid s w0 Y b t
  | .same br i j => lwrite_same br i j
  | .fixed br i j v d a => lwrite_fixed br i j v d a
  | .swap at_ a c => by
    have ia := lwrite a
    have ic := lwrite c
    intro g w l hR hB hbh hlen
    rw [LR] at hR
    obtain ⟨_, v, jv, ga, gb, h1, h2, _, h4, h5⟩ := hR
    have e : form s (.swap at_ a c) = [126, 40] ++ formL s [44, 32] [a, c] ++ [41] := by rw [form, formL, formT, formT, List.append_nil]; simp only [List.append_assoc]
    rw [e] at hlen
    simp only [List.length_append, List.length_cons, List.length_nil] at hlen
    refine (lwrite_k2 (ts := [a, c]) (gs := [ga, gb]) (fun t ht => ?_) h1 h2 (by rw [LRL, LRL, LRL]; exact ⟨h4, h5, trivial⟩) w l hB hbh (by omega)).mono ?_
    · rcases List.mem_cons.1 ht with rfl | ht
      · exact ia
      · rw [List.mem_singleton] at ht
        subst ht
        exact ic
    · rintro e' w' ⟨rfl, k1, k2⟩
      exact ⟨rfl, by rw [e]; simpa only [List.append_assoc] using k1, k2⟩
  | .group a => by
    have ia := lwrite a
    intro g w l hR hB hbh hlen
    rw [LR] at hR
    obtain ⟨_, v, ga, h1, h2, h4⟩ := hR
    have e : form s (.group a) = [40] ++ formL s [] [a] ++ [41] := by rw [form, formL_1]; rfl
    rw [e] at hlen
    simp only [List.length_append, List.length_cons, List.length_nil] at hlen
    refine (lwrite_k3 (ts := [a]) (gs := [ga]) (fun t ht => ?_) h1 h2 (by rw [LRL, LRL]; exact ⟨h4, trivial⟩) w l hB hbh (by omega)).mono ?_
    · rw [List.mem_singleton] at ht
      subst ht
      exact ia
    · rintro e' w' ⟨rfl, k1, k2⟩
      exact ⟨rfl, by rw [e]; simpa only [List.append_assoc] using k1, k2⟩
  | .many at_ a => by
    have ia := lwrite a
    intro g w l hR hB hbh hlen
    rw [LR] at hR
    obtain ⟨_, v, jv, ga, h1, h2, _, h4⟩ := hR
    have e : form s (.many at_ a) = formL s [] [a] ++ [42] := by rw [form, formL_1]
    rw [e] at hlen
    simp only [List.length_append, List.length_cons, List.length_nil] at hlen
    refine (lwrite_k4 (ts := [a]) (gs := [ga]) (fun t ht => ?_) h1 h2 (by rw [LRL, LRL]; exact ⟨h4, trivial⟩) w l hB hbh (by simp; omega)).mono ?_
    · rw [List.mem_singleton] at ht
      subst ht
      exact ia
    · rintro e' w' ⟨rfl, k1, k2⟩
      exact ⟨rfl, by rw [e]; simpa only [List.append_assoc, List.append_nil, List.nil_append] using k1, k2⟩
  | .row ts ps => by
    have il := lwriteL ts
    intro g w l hR hB hbh hlen
    rw [LR] at hR
    obtain ⟨_, v, jv, gs, h1, h2, _, h4⟩ := hR
    rw [form] at *
    refine (lwrite_k5 il h1 h2 h4 w l hB hbh (by simpa using hlen)).mono ?_
    rintro e' w' ⟨rfl, k1, k2⟩
    exact ⟨rfl, by simpa only [List.append_assoc, List.append_nil, List.nil_append] using k1, k2⟩
  | .choice ts ps => by
    have il := lwriteL ts
    intro g w l hR hB hbh hlen
    rw [LR] at hR
    obtain ⟨_, v, jv, gs, h1, h2, _, h4⟩ := hR
    rw [form] at *
    refine (lwrite_k6 il h1 h2 h4 w l hB hbh (by simpa using hlen)).mono ?_
    rintro e' w' ⟨rfl, k1, k2⟩
    exact ⟨rfl, by simpa only [List.append_assoc, List.append_nil, List.nil_append] using k1, k2⟩
theorem lwriteL : ∀ (l : List LT) (t : LT), t ∈ l → WSaid s w0 Y b t
  | [], t, h => absurd h (List.not_mem_nil)
  | u :: l, t, h => by
    have iu := lwrite u
    have il := lwriteL l
    rcases List.mem_cons.1 h with rfl | h
    · exact iu
    · exact il t h
end

set_option maxRecDepth 100000 in
set_option maxHeartbeats 1600000 in
theorem lprint {t : LT} {g : Nat} {w : World} (hR : LR s w Y t g) (hlen : (form s t).length ≤ 100000) :
    Calls Tryz.prog 42 #[.pointer (some ⟨g, 0, none⟩)] w fun e w' => e = .returned (.string (txt (form s t))) ∧ Below w.heap.size w w' := by
  have hb0 : BH w.heap.size w.heap.size [] (w.alloc (.cells #[.pointer none, .slice none 0 0] 98)) := by
    refine Or.inl ⟨Nat.le_refl _, .slice none 0 0, heap_alloc_new w _, ?_, by simp [Value.ownBlock]⟩
    exact World.ownsRowF_nil _ _ _ _
  have hB0 : Below w.heap.size w (w.alloc (.cells #[.pointer none, .slice none 0 0] 98)) := (Below.refl _ w).alloc (Nat.le_refl _) _
  have HW := hide (lwrite t g _ [] hR hB0 hb0 (by simpa using hlen))
  rw [List.nil_append] at HW
  clear hR hb0 hB0
  go_enter Tryz.func42, Tryz.ntmps42
  go_wp2_with fail
  refine (unhide HW).mono ?_
  rintro e w1 ⟨rfl, h1, b1⟩
  go_wp2_with fail
  refine (bstring h1 b1.size).mono ?_
  rintro e w2 ⟨rfl, b2⟩
  go_wp2
  go_ret
  exact ⟨rfl, b1.trans b2⟩

end
end Go.Proofs.YtlljggefbngkeaaGreatDoor
