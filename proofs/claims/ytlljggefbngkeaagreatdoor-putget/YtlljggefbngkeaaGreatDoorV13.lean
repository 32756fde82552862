import Derived.Test.YtlljggefbngkeaaGreatDoorV10
import Derived.Shelf.Strings.BuilderK
import Derived.Test.YtlljggefbngkeaaGreatDoorV06
namespace Go.Proofs.YtlljggefbngkeaaGreatDoor
open Go.RowKit Go.Shelf

/-! strings.Builder: String by the library's contract; copyCheck and WriteString walked here. -/
def bren : Go.Shelf.Ren := ⟨fun | 169 => 55 | n => n, fun | 70 => 95 | 9 => 9 | 0 => 0 | 72 => 98 | 37 => 96 | 127 => 152 | 3 => 3 | 5 => 5 | n => n, fun | n => n⟩
theorem blays : Go.Proofs.Lays.n169 Tryz.prog bren := {
  mixed := by kernel_rfl
  f169 := Tryz.func55.trans (congrArg some (by kernel_rfl))
  t0 := Tryz.underlying0
  a0 := Tryz.isAgg0
  z0 := Tryz.sizeOf0
  v0 := Tryz.zeroValue0
  t3 := Tryz.underlying3
  a3 := Tryz.isAgg3
  z3 := Tryz.sizeOf3
  v3 := Tryz.zeroValue3
  t9 := Tryz.underlying9
  a9 := Tryz.isAgg9
  z9 := Tryz.sizeOf9
  v9 := Tryz.zeroValue9
  t37 := Tryz.underlying96
  a37 := Tryz.isAgg96
  z37 := Tryz.sizeOf96
  v37 := Tryz.zeroValue96
  t70 := Tryz.underlying95
  a70 := Tryz.isAgg95
  z70 := Tryz.sizeOf95
  v70 := Tryz.zeroValue95
  t72 := Tryz.underlying98
  a72 := Tryz.isAgg98
  z72 := Tryz.sizeOf98
  v72 := Tryz.zeroValue98
  t127 := Tryz.underlying152
  a127 := Tryz.isAgg152
  z127 := Tryz.sizeOf152
  v127 := Tryz.zeroValue152 }
theorem bextra : Builder.Extra Tryz.prog bren := {
  sizeBuilder := by kernel_rfl
  liesBuilder := by kernel_rfl
  t5 := Tryz.underlying5
  a5 := Tryz.isAgg5
  z5 := Tryz.sizeOf5
  v5 := Tryz.zeroValue5
  infoByte := by kernel_rfl
  cellsByte := by kernel_rfl
  sizeByte := by kernel_rfl
  neB5 := by decide }

/-- a builder in block b that holds the bytes l -/
def BH (B b : Nat) (l : List UInt8) (w : World) : Prop := Lib.IsBuilderF 98 5 B b (Lib.byteCells l) w

theorem bstring {B b : Nat} {l : List UInt8} {w : World} (h : BH B b l w) (hB : B ≤ w.heap.size) :
    Calls Tryz.prog 55 #[.pointer (some ⟨b, 0, none⟩)] w fun e w' => e = .returned (.string (txt l)) ∧ Below B w w' :=
  (Any.Builder_String_any_k blays bextra B b l w h hB).mono fun _ _ ⟨h1, _, h3, _⟩ => ⟨h1, h3⟩

set_option maxHeartbeats 1000000 in
set_option maxRecDepth 100000 in
theorem bcheck {B b : Nat} {bs : List Value} {w : World} (h : Lib.IsBuilderF 98 5 B b bs w) :
    Calls Tryz.prog 130 #[.pointer (some ⟨b, 0, none⟩)] w fun e w' => e = .returned (.tuple #[]) ∧ Lib.BuilderAtF 98 5 B b (.pointer (some ⟨b, 0, none⟩)) bs w' ∧ Below B w w' := by
  obtain ⟨j, hj, hjs⟩ := Option.map_eq_some_iff.1 bextra.sizeBuilder
  rcases h with h | h
  · have c0 := h.cell0
    have f0 := h.frozen0
    have hsh := h.shape
    have HH := hide h
    clear h
    go_enter Tryz.func130, Tryz.ntmps130
    go_wp2
    rw [Lib.run_to_unsafe w ⟨b, 0, none⟩ Tryz.underlying95 Tryz.underlying201 hj (by rw [hjs]; decide) hsh (Nat.zero_lt_succ 1)]
    simp only [Result.andThen]
    rw [Oper.upon_value]
    go_wp2
    rw [run_callFunc_extern Tryz.func153 (by kernel_rfl) (by kernel_rfl) (by kernel_rfl) (e := Extern.AbiNoEscape.same) (by kernel_rfl)]
    rw [Lib.run_noEscape]
    simp only [Result.andThen]
    rw [Oper.upon_value]
    go_wp2
    rw [Lib.run_from_unsafe w ⟨b, 0, none⟩ Tryz.underlying201 Tryz.underlying95 hj hsh bextra.liesBuilder]
    simp only [Result.andThen]
    rw [Oper.upon_value]
    go_wp2
    go_end0
    exact ⟨rfl, (unhide HH).used _, (Below.refl B w).setCell (p := ⟨b, 0, none⟩) (unhide HH).1 _⟩
  · have c0 := h.cell0
    have HH := hide h
    clear h
    go_enter Tryz.func130, Tryz.ntmps130
    go_wp2
    rw [Lib.run_neq_ptr_same w _ Tryz.underlying95 hj]
    go_wp2
    go_end0
    exact ⟨rfl, unhide HH, Below.refl B _⟩



end Go.Proofs.YtlljggefbngkeaaGreatDoor

namespace Go.Proofs.YtlljggefbngkeaaGreatDoor
open Go.RowKit


theorem own_max {w : World} {base : Nat} {e : TypeId} {size : Nat} {v : Value} {n : Nat} {xs : List Value} (h : w.ownsRow base e size v n xs) : n ≤ 9223372036854775807 := by
  rcases h.2 with ⟨_, h2⟩ | ⟨g, cap, cur, _, _, _, h2, h3, _⟩
  · omega
  · unfold maxLen at h3; omega

theorem formL_1 (s : ByteArray) (sep : List UInt8) (t : LT) : formL s sep [t] = form s t := by rw [formL, formT, List.append_nil]

theorem LRL.at {s : ByteArray} {w : World} {Y : Nat → Prop} : ∀ {l : List LT} {gs : List Nat}, LRL s w Y l gs → ∀ k, k < l.length → ∃ t g, l[k]? = some t ∧ gs[k]? = some g ∧ LR s w Y t g
  | [], [], _, k, hk => absurd hk (Nat.not_lt_zero _)
  | t :: l, g :: gs, h, 0, _ => by rw [LRL] at h; exact ⟨t, g, rfl, rfl, h.1⟩
  | t :: l, g :: gs, h, k + 1, hk => by
    rw [LRL] at h
    obtain ⟨t', g', h1, h2, h3⟩ := LRL.at h.2 k (by simpa using hk)
    exact ⟨t', g', by simpa using h1, by simpa using h2, h3⟩
  | [], k :: ks, h, _, _ => by simp [LRL] at h
  | t :: l, [], h, _, _ => by simp [LRL] at h



end Go.Proofs.YtlljggefbngkeaaGreatDoor

namespace Go.Proofs.YtlljggefbngkeaaGreatDoor
open Go.RowKit

theorem form_jRow (s : ByteArray) (l : List LT) (ps : List Nat) : form s (joinRow l ps) = formL s [32] l := by
  match l with
  | [] => rw [joinRow, form]; intro t h; cases h
  | [t] => rw [joinRow, formL_1]
  | t :: u :: l => rw [joinRow, form]; intro t h; cases h
theorem form_jAlt (s : ByteArray) (l : List LT) (ps : List Nat) : form s (joinAlt l ps) = formL s [32, 124, 32] l := by
  match l with
  | [] => rw [joinAlt, form]; intro t h; cases h
  | [t] => rw [joinAlt, formL_1]
  | t :: u :: l => rw [joinAlt, form]; intro t h; cases h

theorem formT_len (s : ByteArray) (sep : List UInt8) (l : List LT) : (formT s sep l).length ≤ sep.length + (formL s sep l).length := by
  cases l with
  | nil => rw [formT]; simp
  | cons t l => rw [formT, formL]; simp only [List.length_append]; omega

theorem gPlain_form {s : ByteArray} {n i : Nat} {t : LT} {j : Nat} (h : gPlain s n i = .ok t j) : (form s t).length + 3 ≤ 4 * (j - i) := by
  unfold gPlain at h
  cases hg : gAlts s n (i + 1) with
  | err p => rw [hg] at h; cases h
  | ok l k =>
    rw [hg] at h
    simp only [Res.bind] at h
    have h0 := (g_lt s n).2.2 _ _ _ hg
    split at h
    · rename_i h47
      have hk : k < s.size := pk_lt (by rw [h47]; decide)
      have hb := skipB_bd s (k + 1) hk
      have hsl : (sub s.data.toList i (k + 1)).length = k + 1 - i := sub_len _ _ _ (by simp; omega)
      split at h
      · cases hq : gQuoted s (skipB s (k + 1)) with
        | err p => rw [hq] at h; cases h
        | ok v k1 =>
          rw [hq] at h
          simp only at h
          have h1 := gQuoted_form hq
          have e1 := congrArg List.length h1.2.2.2
          rw [sub_len _ _ _ (by simpa using h1.2.1)] at e1
          simp only [List.length_append, List.length_cons, List.length_nil] at e1
          have hb1 := skipB_bd s k1 h1.2.1
          cases hq2 : gQuoted s (skipB s k1) with
          | err p => rw [hq2] at h; cases h
          | ok d m =>
            rw [hq2] at h
            have h2 := gQuoted_form hq2
            have e2 := congrArg List.length h2.2.2.2
            rw [sub_len _ _ _ (by simpa using h2.2.1)] at e2
            simp only [List.length_append, List.length_cons, List.length_nil] at e2
            cases h
            rw [form]
            simp only [List.length_append, List.length_cons, List.length_nil, hsl]
            omega
      · cases h
        rw [form, hsl]
        omega
    · cases h

theorem gL_form (s : ByteArray) : ∀ n, (∀ i t j, gPiece s n i = .ok t j → (form s t).length + 3 ≤ 4 * (j - i)) ∧ (∀ i t j, gItem s n i = .ok t j → (form s t).length + 3 ≤ 4 * (j - i)) ∧
    (∀ i x j, gItems s n i = .ok x j → (formL s [32] x.1).length + 3 ≤ 4 * (j - i)) ∧ (∀ i x j, gRows s n i = .ok x j → (formL s [32, 124, 32] x.1).length + 3 ≤ 4 * (j - i))
  | 0 => ⟨fun i t j h => (by rw [gPiece] at h; cases h), fun i l j h => (by rw [gItem] at h; cases h), fun i l j h => (by rw [gItems] at h; cases h), fun i l j h => (by rw [gRows] at h; cases h)⟩
  | n + 1 => by
    obtain ⟨k1, k2, k3, k4⟩ := gL_form s n
    obtain ⟨m1, m2, m3, m4⟩ := gL_lt s n
    refine ⟨fun i t j h => ?_, fun i t j h => ?_, fun i t j h => ?_, fun i t j h => ?_⟩
    · rw [gPiece] at h
      split at h
      · exact gPlain_form h
      · split at h
        · split at h
          · cases hq : gRows s n (skipB s (i + 1) + 1) with
            | err p => rw [hq] at h; cases h
            | ok a j1 =>
              rw [hq] at h
              simp only [Res.bind] at h
              have h1 := k4 _ _ _ hq
              have h1' := m4 _ _ _ hq
              have h2 := skipB_le s (i + 1)
              split at h
              · cases hq2 : gRows s n (j1 + 1) with
                | err p => rw [hq2] at h; cases h
                | ok b k =>
                  rw [hq2] at h
                  simp only at h
                  have h3 := k4 _ _ _ hq2
                  have h3' := m4 _ _ _ hq2
                  split at h
                  · cases h
                    rw [form, form_jAlt, form_jAlt]
                    simp only [List.length_append, List.length_cons, List.length_nil]
                    omega
                  · cases h
              · cases h
          · cases h
        · split at h
          · cases hq : gRows s n (i + 1) with
            | err p => rw [hq] at h; cases h
            | ok a j1 =>
              rw [hq] at h
              simp only [Res.bind] at h
              have h1 := k4 _ _ _ hq
              have h1' := m4 _ _ _ hq
              split at h
              · cases h
                rw [form, form_jAlt]
                simp only [List.length_append, List.length_cons, List.length_nil]
                omega
              · cases h
          · cases h
    · rw [gItem] at h
      cases hq : gPiece s n i with
      | err p => rw [hq] at h; cases h
      | ok a j1 =>
        rw [hq] at h
        simp only [Res.bind] at h
        have h1 := k1 _ _ _ hq
        have h1' := m1 _ _ _ hq
        have h2 := skipB_le s j1
        split at h
        · cases h
          have h3 := skipB_le s (skipB s j1 + 1)
          rw [form]
          simp only [List.length_append, List.length_cons, List.length_nil]
          omega
        · cases h
          omega
    · rw [gItems] at h
      cases hq : gItem s n i with
      | err p => rw [hq] at h; cases h
      | ok a j1 =>
        rw [hq] at h
        simp only [Res.bind] at h
        have h1 := k2 _ _ _ hq
        have h1' := m2 _ _ _ hq
        split at h
        · cases hq2 : gItems s n j1 with
          | err p => rw [hq2] at h; cases h
          | ok b k =>
            rw [hq2] at h
            have h3 := k3 _ _ _ hq2
            have h3' := m3 _ _ _ hq2
            cases h
            rw [formL]
            have := formT_len s [32] b.1
            simp only [List.length_append, List.length_cons, List.length_nil] at *
            omega
        · cases h
          rw [formL_1]
          omega
    · rw [gRows] at h
      have h0 := skipB_le s i
      cases hq : gItems s n (skipB s i) with
      | err p => rw [hq] at h; cases h
      | ok a j1 =>
        rw [hq] at h
        simp only [Res.bind] at h
        have h1 := k3 _ _ _ hq
        have h1' := m3 _ _ _ hq
        split at h
        · cases hq2 : gRows s n (j1 + 1) with
          | err p => rw [hq2] at h; cases h
          | ok b k =>
            rw [hq2] at h
            have h3 := k4 _ _ _ hq2
            have h3' := m4 _ _ _ hq2
            cases h
            rw [formL, form_jRow]
            have := formT_len s [32, 124, 32] b.1
            simp only [List.length_append, List.length_cons, List.length_nil] at *
            omega
        · cases h
          rw [formL_1, form_jRow]
          omega

theorem gRows_form {s : ByteArray} {n : Nat} {x : List LT × List Nat} {j : Nat} (hj : j ≤ s.size) (hs : s.size ≤ 120) (h : gRows s n 0 = .ok x j) : (formL s [32, 124, 32] x.1).length ≤ 480 := by
  have := (gL_form s n).2.2.2 _ _ _ h
  omega

end Go.Proofs.YtlljggefbngkeaaGreatDoor

namespace Go.Proofs.YtlljggefbngkeaaGreatDoor
open Go.RowKit

section
variable {s : ByteArray} {w0 : World} {Y : Nat → Prop} {b : Nat}















end
end Go.Proofs.YtlljggefbngkeaaGreatDoor
