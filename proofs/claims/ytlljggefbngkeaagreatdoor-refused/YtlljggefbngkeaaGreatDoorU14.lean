import Derived.Test.YtlljggefbngkeaaGreatDoorU13
namespace Go.Proofs.YtlljggefbngkeaaGreatDoor
open Go.RowKit

section
variable {w : World} {Y : Nat → Prop} {b : Nat} {s : ByteArray} {p : Nat} {c : Int}

theorem EatB (x : Int) (hx : x ≠ 0) (h : BadAt w Y b s p c) (hs : s.size ≤ 120) :
    Calls Tryz.prog 155 #[.pointer (some ⟨b, 0, none⟩), .int .u8 x] w fun e w' => e = .returned (.tuple #[]) ∧ BadAt w' Y b s p c ∧ Kp Y w w' := by
  obtain ⟨st, hR, hb, hi, hp, hd⟩ := h
  refine (EatNo x hR hs (by rw [hi]; exact hp) (by rw [hb, peekI_bad]; exact Ne.symm hx)).mono ?_
  rintro e w' ⟨rfl, h1, h2⟩
  rw [St.spoil_bad st hb] at h1
  exact ⟨rfl, ⟨st, h1, hb, hi, hp, hd⟩, h2⟩

theorem PeekBB (h : BadAt w Y b s p c) (hs : s.size ≤ 120) :
    Calls Tryz.prog 58 #[.pointer (some ⟨b, 0, none⟩)] w fun e w' => e = .returned (.int .u8 0) ∧ BadAt w' Y b s p c ∧ Kp Y w w' := by
  obtain ⟨st, hR, hb, hi, hp, hd⟩ := h
  refine (PeekB hR hs (by rw [hi]; exact hp) hb).mono ?_
  rintro e w' ⟨rfl, h1, h2⟩
  exact ⟨rfl, ⟨st, h1, hb, hi, hp, hd⟩, h2⟩

theorem BlanksBB (h : BadAt w Y b s p c) (hs : s.size ≤ 120) :
    Calls Tryz.prog 56 #[.pointer (some ⟨b, 0, none⟩)] w fun e w' => e = .returned (.tuple #[]) ∧ BadAt w' Y b s p c ∧ Kp Y w w' := by
  obtain ⟨st, hR, hb, hi, hp, hd⟩ := h
  refine (BlanksB hR hs (by rw [hi]; exact hp) hb).mono ?_
  rintro e w' ⟨rfl, h1, h2⟩
  exact ⟨rfl, ⟨st, h1, hb, hi, hp, hd⟩, h2⟩

theorem BadAt.c1 (h : BadAt w Y b s p c) : w.cell? ⟨b, 1, none⟩ = some (.int .i64 p) := by
  obtain ⟨st, hR, hb, hi, hp, hd⟩ := h
  rw [hR.c1, hi]
theorem BadAt.c2 (h : BadAt w Y b s p c) : w.cell? ⟨b, 2, none⟩ = some (.bool true) := by
  obtain ⟨st, hR, hb, hi, hp, hd⟩ := h
  rw [hR.c2, hb]
theorem BadAt.fz (h : BadAt w Y b s p c) (o : Nat) : w.frozen? ⟨b, o, none⟩ = false := by
  obtain ⟨st, hR, hb, hi, hp, hd⟩ := h
  exact hR.fz o
theorem BadAt.nb (h : BadAt w Y b s p c) : ¬ Y b := by
  obtain ⟨st, hR, hb, hi, hp, hd⟩ := h
  exact hR.nb
theorem BadAt.setBad (h : BadAt w Y b s p c) : BadAt (w.setCell ⟨b, 2, none⟩ (.bool true)) Y b s p c := by
  obtain ⟨st, hR, hb, hi, hp, hd⟩ := h
  exact ⟨_, hR.setBad, rfl, hi, hp, hd⟩
theorem BadAt.c4 (h : BadAt w Y b s p c) (hs : s.size ≤ 120) (hc : c ≤ 5000) : ∃ o : ByteArray, w.cell? ⟨b, 4, none⟩ = some (.string o) ∧ o.size ≤ 100000 ∧ ∀ x : UInt8, BadAt (w.setCell ⟨b, 4, none⟩ (.string (o ++ ⟨#[x]⟩))) Y b s p (c + 1) := by
  obtain ⟨st, hR, hb, hi, hp, hd⟩ := h
  refine ⟨st.out, hR.c4, St.out_le hs hc (by rw [hi]; exact hp) hd, fun x => ⟨_, hR.setOut _, hb, hi, hp, ?_⟩⟩
  unfold St.bd at *
  have : (st.out ++ (⟨#[x]⟩ : ByteArray)).size = st.out.size + 1 := by rw [ByteArray.size_append]; rfl
  simp only [this]
  omega
theorem BadAt.mono (h : BadAt w Y b s p c) {d : Int} (hcd : c ≤ d) : BadAt w Y b s p d := by
  obtain ⟨st, hR, hb, hi, hp, hd⟩ := h
  exact ⟨st, hR, hb, hi, hp, St.bd_mono hd hcd⟩
theorem BadAt.le (h : BadAt w Y b s p c) : p ≤ s.size := by
  obtain ⟨st, hR, hb, hi, hp, hd⟩ := h
  exact hp

set_option maxHeartbeats 800000 in
theorem PieceB (h : BadAt w Y b s p c) (hs : s.size ≤ 120) :
    Calls Tryz.prog 131 #[.pointer (some ⟨b, 0, none⟩)] w fun e w' => e = .returned (.int .i64 0) ∧ BadAt w' Y b s p c ∧ Kp Y w w' := by
  have c1 := h.c1
  have HP := hide (PeekBB h hs)
  clear h
  go_enter Tryz.func131, Tryz.ntmps131
  go_wp2_with fail
  refine (unhide HP).mono ?_
  rintro e w1 ⟨rfl, hB1, hK1⟩
  have c2 := hB1.c2
  have f2 := hB1.fz 2
  go_wp2
  go_ret
  exact ⟨rfl, hB1.setBad, hK1.trans (Kp.set _ _ _ _ hB1.nb)⟩

set_option maxHeartbeats 800000 in
theorem ItemB (h : BadAt w Y b s p c) (hs : s.size ≤ 120) :
    Calls Tryz.prog 86 #[.pointer (some ⟨b, 0, none⟩)] w fun e w' => e = .returned (.int .i64 0) ∧ BadAt w' Y b s p c ∧ Kp Y w w' := by
  have HP := hide (PieceB h hs)
  clear h
  go_enter Tryz.func86, Tryz.ntmps86
  go_wp2_with fail
  refine (unhide HP).mono ?_
  rintro e w1 ⟨rfl, hB1, hK1⟩
  have c2 := hB1.c2
  go_wp2
  go_ret
  exact ⟨rfl, hB1, hK1⟩

set_option maxHeartbeats 800000 in
theorem RowB (h : BadAt w Y b s p c) (hs : s.size ≤ 120) :
    Calls Tryz.prog 57 #[.pointer (some ⟨b, 0, none⟩)] w fun e w' => e = .returned (.int .i64 0) ∧ BadAt w' Y b s p c ∧ Kp Y w w' := by
  have HP := hide (ItemB h hs)
  clear h
  go_enter Tryz.func57, Tryz.ntmps57
  go_wp2_with fail
  refine (unhide HP).mono ?_
  rintro e w1 ⟨rfl, hB1, hK1⟩
  go_wp2_with fail
  go_loopg [3] 0 (fun gk kv wv => kv = .int .i64 0 ∧ wv = w1)
  case atStart => exact ⟨rfl, rfl⟩
  case round =>
    obtain ⟨rfl, rfl⟩ := hrel
    have c2 := hB1.c2
    go_wp2
    go_ret
    exact ⟨rfl, hB1, hK1⟩

set_option maxHeartbeats 800000 in
theorem LensB (h : BadAt w Y b s p c) (hs : s.size ≤ 120) :
    Calls Tryz.prog 43 #[.pointer (some ⟨b, 0, none⟩)] w fun e w' => e = .returned (.int .i64 0) ∧ BadAt w' Y b s p c ∧ Kp Y w w' := by
  have HP := hide (BlanksBB h hs)
  clear h
  go_enter Tryz.func43, Tryz.ntmps43
  go_wp2_with fail
  refine (unhide HP).mono ?_
  rintro e w1 ⟨rfl, hB1, hK1⟩
  go_wp2_with fail
  refine (RowB hB1 hs).mono ?_
  rintro e w2 ⟨rfl, hB2, hK2⟩
  go_wp2_with fail
  go_loopg [3] 0 (fun gk kv wv => kv = .int .i64 0 ∧ wv = w2)
  case atStart => exact ⟨rfl, rfl⟩
  case round =>
    obtain ⟨rfl, rfl⟩ := hrel
    have c2 := hB2.c2
    go_wp2
    go_ret
    exact ⟨rfl, hB2, hK1.trans hK2⟩
end

/-- what is asked of the reading of a piece; of an item, of a row, of a lens -/
def PieceSaid (s : ByteArray) (b i0 : Nat) : Prop :=
  ∀ (w : World) (Y : Nat → Prop) (st : St) (c : Int), i0 ≤ st.i → RH w Y b s st → st.bad = false → st.i ≤ s.size → st.bd c → c ≤ 3000 → (∀ k, Y k → k < w.heap.size) → -1 ≤ st.wn ∧ st.wn < st.i → ∀ n, 6 * (s.size - st.i) + 2 ≤ n →
    Calls Tryz.prog 131 #[.pointer (some ⟨b, 0, none⟩)] w fun e w' => Kp Y w w' ∧ LPost Y b s st c 12 e w' (gPiece s n st.i)
def ItemSaid (s : ByteArray) (b i0 : Nat) : Prop :=
  ∀ (w : World) (Y : Nat → Prop) (st : St) (c : Int), i0 ≤ st.i → RH w Y b s st → st.bad = false → st.i ≤ s.size → st.bd c → c ≤ 3000 → (∀ k, Y k → k < w.heap.size) → -1 ≤ st.wn ∧ st.wn < st.i → ∀ n, 6 * (s.size - st.i) + 3 ≤ n →
    Calls Tryz.prog 86 #[.pointer (some ⟨b, 0, none⟩)] w fun e w' => Kp Y w w' ∧ LPost Y b s st c 12 e w' (gItem s n st.i)

def LsPost (sep : List UInt8) (Y : Nat → Prop) (b : Nat) (s : ByteArray) (st : St) (c d : Int) (e : Ending) (w' : World) : Res (List LT × List Nat) → Prop
  | .ok x j => st.i < j ∧ j ≤ s.size ∧ GoodL Y b s st c e w' (formL s sep x.1) (dfltsL x.1) j (rowB (kdOf sep) x.1 x.2)
  | .err p => (∃ k : Nat, e = .returned (.int .i64 k)) ∧ BadAt w' Y b s p (c + d) ∧ st.i ≤ p

def RowSaid (s : ByteArray) (b i0 : Nat) : Prop :=
  ∀ (w : World) (Y : Nat → Prop) (st : St) (c : Int), i0 ≤ st.i → RH w Y b s st → st.bad = false → st.i ≤ s.size → st.bd c → c ≤ 2995 → (∀ k, Y k → k < w.heap.size) → -1 ≤ st.wn ∧ st.wn < st.i → ∀ n, 6 * (s.size - st.i) + 4 ≤ n →
    Calls Tryz.prog 57 #[.pointer (some ⟨b, 0, none⟩)] w fun e w' => Kp Y w w' ∧ LsPost [32] Y b s st c 14 e w' (gItems s n st.i)
def LensSaid (s : ByteArray) (b i0 : Nat) : Prop :=
  ∀ (w : World) (Y : Nat → Prop) (st : St) (c : Int), i0 ≤ st.i → RH w Y b s st → st.bad = false → st.i ≤ s.size → st.bd c → c ≤ 2985 → (∀ k, Y k → k < w.heap.size) → -1 ≤ st.wn ∧ st.wn < st.i → ∀ n, 6 * (s.size - st.i) + 5 ≤ n →
    Calls Tryz.prog 43 #[.pointer (some ⟨b, 0, none⟩)] w fun e w' => Kp Y w w' ∧ LsPost [32, 124, 32] Y b s st c 18 e w' (gRows s n st.i)

end Go.Proofs.YtlljggefbngkeaaGreatDoor

namespace Go.Proofs.YtlljggefbngkeaaGreatDoor
open Go.RowKit

theorem form_joinAlt (s : ByteArray) : ∀ (l : List LT) (ps : List Nat), form s (joinAlt l ps) = formL s [32, 124, 32] l
  | [], ps => by rw [joinAlt, form] <;> simp
  | [t], ps => by rw [joinAlt, formL, formT]; simp
  | t :: u :: l, ps => by rw [joinAlt, form]; simp
theorem form_joinRow (s : ByteArray) : ∀ (l : List LT) (ps : List Nat), form s (joinRow l ps) = formL s [32] l
  | [], ps => by rw [joinRow, form] <;> simp
  | [t], ps => by rw [joinRow, formL, formT]; simp
  | t :: u :: l, ps => by rw [joinRow, form]; simp
theorem dflts_joinAlt : ∀ (l : List LT) (ps : List Nat), dflts (joinAlt l ps) = dfltsL l
  | [], ps => by rw [joinAlt, dflts] <;> simp
  | [t], ps => by rw [joinAlt, dfltsL, dfltsL]; simp
  | t :: u :: l, ps => by rw [joinAlt, dflts]; simp
theorem dflts_joinRow : ∀ (l : List LT) (ps : List Nat), dflts (joinRow l ps) = dfltsL l
  | [], ps => by rw [joinRow, dflts] <;> simp
  | [t], ps => by rw [joinRow, dfltsL, dfltsL]; simp
  | t :: u :: l, ps => by rw [joinRow, dflts]; simp

theorem byte_of_pk {s : ByteArray} {i : Nat} (h : i < s.size) {c : UInt8} (hc : pk s i = (c.toNat : Int)) : s[i] = c := by
  unfold pk at hc
  rw [dif_pos h] at hc
  exact UInt8.toNat.inj (by omega)

theorem St.took_txt {st : St} {s : ByteArray} {c : UInt8} (h : st.i < s.size) (hc : pk s st.i = (c.toNat : Int)) : st.took s = { st with i := st.i + 1, out := st.out ++ txt [c] } := by
  rw [St.took_eq h, byte_of_pk h hc]; rfl

theorem St.bd_took {st : St} {c d : Int} (hd : st.bd c) (o : List UInt8) (n : Nat) (ho : o.length = n) (hcd : c + n - 20 ≤ d) (hd0 : c - 20 ≤ d) : St.bd { st with i := st.i + 1, out := st.out ++ txt o } d := by
  unfold St.bd at *
  have : (st.out ++ txt o).size = st.out.size + n := by rw [ByteArray.size_append, txt_size, ho]
  simp only [this]
  omega

theorem St.bd_two {st : St} {c d : Int} (hd : st.bd c) (p q : Pat) (l : Lns) (hcd : c + 2 ≤ d) : St.bd { st with P := st.P ++ [p] ++ [q], L := st.L ++ [l] } d := by
  unfold St.bd at *
  simp
  omega

/-- a sign that stands there is taken -/
theorem EatG {w : World} {Y : Nat → Prop} {b : Nat} {s : ByteArray} {st : St} {j : Nat} (c : UInt8) (h : RH w Y b s st) (hs : s.size ≤ 120) (ei : st.i = j) (hj : j < s.size) (ho : st.out.size ≤ 100000) (hb : st.bad = false) (hc : pk s j = (c.toNat : Int)) :
    Calls Tryz.prog 155 #[.pointer (some ⟨b, 0, none⟩), .int .u8 (c.toNat : Int)] w fun e w' => e = .returned (.tuple #[]) ∧ RH w' Y b s { st with i := j + 1, out := st.out ++ txt [c] } ∧ Kp Y w w' := by
  subst ei
  have := EatOk (c.toNat : Int) h hs hj ho hb hc
  rw [St.took_txt hj hc] at this
  exact this
theorem TakeG {w : World} {Y : Nat → Prop} {b : Nat} {s : ByteArray} {st : St} {j : Nat} (c : UInt8) (h : RH w Y b s st) (hs : s.size ≤ 120) (ei : st.i = j) (hj : j < s.size) (ho : st.out.size ≤ 100000) (hb : st.bad = false) (hc : pk s j = (c.toNat : Int)) :
    Calls Tryz.prog 59 #[.pointer (some ⟨b, 0, none⟩)] w fun e w' => (∃ x, e = .returned (.int .u8 x)) ∧ RH w' Y b s { st with i := j + 1, out := st.out ++ txt [c] } ∧ Kp Y w w' := by
  subst ei
  have := TakeOk h hs hj ho hb
  rw [St.took_txt hj hc] at this
  exact this.mono fun _ _ ⟨h1, h2, h3⟩ => ⟨⟨_, h1⟩, h2, h3⟩
theorem EatN {w : World} {Y : Nat → Prop} {b : Nat} {s : ByteArray} {st : St} {j : Nat} {d : Int} (c : Int) (h : RH w Y b s st) (hs : s.size ≤ 120) (ei : st.i = j) (hj : j ≤ s.size) (hb : st.bad = false) (hd : st.bd d) (hc : pk s j ≠ c) :
    Calls Tryz.prog 155 #[.pointer (some ⟨b, 0, none⟩), .int .u8 c] w fun e w' => e = .returned (.tuple #[]) ∧ BadAt w' Y b s j d ∧ Kp Y w w' := by
  subst ei
  refine (EatNo c h hs hj (by rw [hb]; exact hc)).mono ?_
  rintro e w' ⟨rfl, h1, h2⟩
  exact ⟨rfl, ⟨_, h1, rfl, rfl, hj, hd⟩, h2⟩

section
variable (s : ByteArray) (n i : Nat)
theorem gPiece_plain (h : pk s i = 47) : gPiece s (n + 1) i = gPlain s (4 * s.size + 4) i := by rw [gPiece, if_pos h]
theorem gPiece_group (h : pk s i = 40) : gPiece s (n + 1) i = (gRows s n (i + 1)).bind fun a j => if pk s j = 41 then .ok (.group (joinAlt a.1 a.2)) (j + 1) else .err j := by
  rw [gPiece, if_neg (by rw [h]; decide), if_neg (by rw [h]; decide), if_pos h]
theorem gPiece_swap (h : pk s i = 126) : gPiece s (n + 1) i = if pk s (skipB s (i + 1)) = 40 then
        (gRows s n (skipB s (i + 1) + 1)).bind fun a j =>
          if pk s j = 44 then (gRows s n (j + 1)).bind fun b k => if pk s k = 41 then .ok (.swap i (joinAlt a.1 a.2) (joinAlt b.1 b.2)) (k + 1) else .err k
          else .err j
      else .err (skipB s (i + 1)) := by
  rw [gPiece, if_neg (by rw [h]; decide), if_pos h]
theorem gPiece_none (h1 : pk s i ≠ 47) (h2 : pk s i ≠ 126) (h3 : pk s i ≠ 40) : gPiece s (n + 1) i = .err i := by
  rw [gPiece, if_neg h1, if_neg h2, if_neg h3]
end

set_option maxRecDepth 100000 in
set_option maxHeartbeats 3200000 in
theorem piece_of {s : ByteArray} {b i0 : Nat} (hs : s.size ≤ 120) (hlens : LensSaid s b (i0 + 1)) : PieceSaid s b i0 := by
  intro w Y st c h0 h hb hi hd hc hY hw n hn
  obtain ⟨n, rfl⟩ : ∃ m, n = m + 1 := ⟨n - 1, by omega⟩
  have c1 := h.c1
  have HP := hide (PeekGR (i := st.i) h hs rfl hi hb)
  have HD := hide (And.intro hb (And.intro hd (And.intro hw hlens)))
  clear h hb hd hw hlens
  by_cases h47 : pk s st.i = 47
  · have HG := hide (gPiece_plain s n st.i h47)
    have Hp := hide h47
    rw [h47] at HP
    clear h47
    go_enter Tryz.func131, Tryz.ntmps131
    go_wp2_with (go_at_call 58; refine (unhide HP).mono ?_; rintro e w1 ⟨rfl, hR1, hK1⟩)
    refine (Plain hR1 hs (unhide HD).1 hi (unhide HD).2.1 (by omega) (fun k hk => by have := hY k hk; have := hK1.size; omega) (unhide HD).2.2.1 (unhide Hp)).mono ?_
    rintro e w2 ⟨hK2, hP2⟩
    rw [← unhide HG] at hP2
    have he : ∃ k : Nat, e = .returned (.int .i64 k) := by
      cases hg : gPiece s (n + 1) st.i with
      | ok t j => rw [hg] at hP2; obtain ⟨_, _, k, _, he, _⟩ := hP2; exact ⟨k, he⟩
      | err p => rw [hg] at hP2; exact hP2.1
    obtain ⟨k, rfl⟩ := he
    have HP2 := hide hP2
    clear hP2
    go_wp2
    go_ret
    exact ⟨hK1.trans hK2, unhide HP2⟩
  · by_cases h40 : pk s st.i = 40
    · have hlt : st.i < s.size := pk_lt (by rw [h40]; decide)
      have HG := hide (gPiece_group s n st.i h40)
      have HT := hide (fun (W : World) (hW : RH W Y b s st) => TakeG 40 hW hs rfl hlt (St.out_le (c := c) hs (by omega) hi (unhide HD).2.1) (unhide HD).1 h40)
      rw [h40] at HP
      clear h40 h47
      go_enter Tryz.func131, Tryz.ntmps131
      go_wp2_with (go_at_call 58; refine (unhide HP).mono ?_; rintro e w1 ⟨rfl, hR1, hK1⟩)
      refine (unhide HT _ hR1).mono ?_
      rintro e w2 ⟨⟨x, rfl⟩, hR2, hK2⟩
      have hK12 := hK1.trans hK2
      go_wp2_with fail
      refine ((unhide HD).2.2.2 w2 Y _ (c - 19) (by show i0 + 1 ≤ st.i + 1; omega) hR2 (unhide HD).1 hlt (St.bd_took (st := st) (c := c) (d := c - 19) (unhide HD).2.1 [40] 1 rfl (by omega) (by omega)) (by omega) (fun k hk => by have := hY k hk; have := hK12.size; omega) ⟨(unhide HD).2.2.1.1, by have := (unhide HD).2.2.1.2; show st.wn < ((st.i + 1 : Nat) : Int); omega⟩ n (by show 6 * (s.size - (st.i + 1)) + 5 ≤ n; omega)).mono ?_
      rintro e w3 ⟨hK3, hP3⟩
      have hK13 := hK12.trans hK3
      replace hP3 : LsPost [32, 124, 32] Y b s _ (c - 19) 18 e w3 (gRows s n (st.i + 1)) := hP3
      cases hg : gRows s n (st.i + 1) with
      | err p =>
        rw [hg] at hP3 HG
        obtain ⟨⟨k, rfl⟩, hB, hp⟩ := hP3
        have hp' : st.i + 1 ≤ p := hp
        clear hg
        go_wp2_with fail
        refine (EatB 41 (by decide) hB hs).mono ?_
        rintro e w4 ⟨rfl, hB4, hK4⟩
        go_wp2
        go_ret
        refine ⟨hK13.trans hK4, ?_⟩
        rw [unhide HG]
        exact ⟨⟨k, rfl⟩, hB4.mono (by omega), by omega⟩
      | ok x j =>
        rw [hg] at hP3 HG
        obtain ⟨hj1, hj2, k, st3, rfl, hkl, hL3, hR3, hi3, hb3, ho3, hw3, hw3a, hw3b, hd3, hN3⟩ := hP3
        have HN3 := hide hN3
        clear hN3
        have hj1' : st.i + 1 < j := hj1
        simp only [Res.bind] at HG
        clear hg
        by_cases h41 : pk s j = 41
        · have hjs : j < s.size := pk_lt (by rw [h41]; decide)
          rw [if_pos h41] at HG
          have HE := hide (EatG 41 hR3 hs hi3 hjs (St.out_le hs (by omega) (by rw [hi3]; exact hj2) hd3) hb3 h41)
          have HF := hide (And.intro hi3 (And.intro hb3 (And.intro ho3 (And.intro hw3 hd3))))
          clear h41 hi3 hb3 ho3 hw3 hd3
          go_wp2_with fail
          refine (unhide HE).mono ?_
          rintro e w4 ⟨rfl, hR4, hK4⟩
          go_wp2
          go_ret
          refine ⟨hK13.trans hK4, ?_⟩
          rw [unhide HG]
          refine ⟨by omega, hjs, k, { st3 with i := j + 1, out := st3.out ++ txt [41] }, rfl, hkl, hL3, hR4, rfl, (unhide HF).2.1, ?_, ?_, hw3a, by show st3.wn < ((j + 1 : Nat) : Int); omega, ?_, by rw [toB, toB_joinAlt]; exact unhide HN3⟩
          · show st3.out ++ txt [41] = _
            rw [(unhide HF).2.2.1]
            show (st.out ++ txt [40]) ++ _ ++ _ = _
            rw [form, form_joinAlt, ByteArray.append_assoc, ByteArray.append_assoc, ← txt_app, ← txt_app]
            rfl
          · rw [dflts, dflts_joinAlt]; exact (unhide HF).2.2.2.1
          · have := St.bd_took (d := c - 10) (unhide HF).2.2.2.2 [41] 1 rfl (by omega) (by omega)
            rw [(unhide HF).1] at this
            exact this
        · rw [if_neg h41] at HG
          have HE := hide (EatN 41 hR3 hs hi3 hj2 hb3 hd3 h41)
          clear h41 hi3 hb3 ho3 hw3 hd3
          go_wp2_with fail
          refine (unhide HE).mono ?_
          rintro e w4 ⟨rfl, hB4, hK4⟩
          go_wp2
          go_ret
          refine ⟨hK13.trans hK4, ?_⟩
          rw [unhide HG]
          exact ⟨⟨k, rfl⟩, hB4.mono (by omega), by omega⟩
    · by_cases h126 : pk s st.i = 126
      · have hlt : st.i < s.size := pk_lt (by rw [h126]; decide)
        have HG := hide (gPiece_swap s n st.i h126)
        have HT := hide (fun (W : World) (hW : RH W Y b s st) => TakeG 126 hW hs rfl hlt (St.out_le (c := c) hs (by omega) hi (unhide HD).2.1) (unhide HD).1 h126)
        rw [h126] at HP
        have hi1 := skipB_bd s (st.i + 1) hlt
        clear h40 h47 h126
        go_enter Tryz.func131, Tryz.ntmps131
        go_wp2_with (go_at_call 58; refine (unhide HP).mono ?_; rintro e w1 ⟨rfl, hR1, hK1⟩)
        refine (unhide HT _ hR1).mono ?_
        rintro e w2 ⟨⟨x, rfl⟩, hR2, hK2⟩
        go_wp2_with fail
        refine (BlanksG hR2 hs hlt (unhide HD).1).mono ?_
        rintro e w3 ⟨rfl, hR3, hK3⟩
        replace hR3 : RH w3 Y b s { st with i := skipB s (st.i + 1), out := st.out ++ txt [126] } := hR3
        have hK13 := (hK1.trans hK2).trans hK3
        have hbd3 : St.bd { st with i := skipB s (st.i + 1), out := st.out ++ txt [126] } (c - 19) := St.bd_i (St.bd_took (unhide HD).2.1 [126] 1 rfl (by omega) (by omega)) _ hi1.1
        clear c1
        by_cases h40 : pk s (skipB s (st.i + 1)) = 40
        · have hi1s : skipB s (st.i + 1) < s.size := pk_lt (by rw [h40]; decide)
          rw [if_pos h40] at HG
          have HE := hide (EatG 40 hR3 hs rfl hi1s (St.out_le hs (by omega) hi1.2 hbd3) (unhide HD).1 h40)
          have hbd4 : St.bd { st with i := skipB s (st.i + 1) + 1, out := st.out ++ txt [126] ++ txt [40] } (c - 38) := St.bd_took hbd3 [40] 1 rfl (by omega) (by omega)
          have HB4 := hide hbd4
          clear h40 hbd3 hbd4
          go_wp2_with fail
          refine (unhide HE).mono ?_
          rintro e w4 ⟨rfl, hR4, hK4⟩
          have hK14 := hK13.trans hK4
          go_wp2_with fail
          refine ((unhide HD).2.2.2 w4 Y _ (c - 38) (by show i0 + 1 ≤ skipB s (st.i + 1) + 1; omega) hR4 (unhide HD).1 hi1s (unhide HB4) (by omega) (fun k hk => by have := hY k hk; have := hK14.size; omega) ⟨(unhide HD).2.2.1.1, by have := (unhide HD).2.2.1.2; show st.wn < ((skipB s (st.i + 1) + 1 : Nat) : Int); omega⟩ n (by show 6 * (s.size - (skipB s (st.i + 1) + 1)) + 5 ≤ n; omega)).mono ?_
          rintro e w5 ⟨hK5, hP5⟩
          have hK15 := hK14.trans hK5
          replace hP5 : LsPost [32, 124, 32] Y b s _ (c - 38) 18 e w5 (gRows s n (skipB s (st.i + 1) + 1)) := hP5
          cases hg : gRows s n (skipB s (st.i + 1) + 1) with
          | err p =>
            rw [hg] at hP5 HG
            obtain ⟨⟨k, rfl⟩, hB, hp⟩ := hP5
            have hp' : skipB s (st.i + 1) + 1 ≤ p := hp
            clear hg
            go_wp2_with fail
            refine (EatB 44 (by decide) hB hs).mono ?_
            rintro e wa ⟨rfl, hBa, hKa⟩
            have hKx2 := hK15.trans hKa
            obtain ⟨oo, c4, hoo, hset⟩ := hBa.c4 hs (by omega)
            have f4 := hBa.fz 4
            have hno : ¬ 9223372036854775807 < oo.size + 1 := by omega
            go_wp2_with fail
            refine (LensB (hset 32) hs).mono ?_
            rintro e wb ⟨rfl, hBb, hKb⟩
            go_wp2_with fail
            refine (EatB 41 (by decide) hBb hs).mono ?_
            rintro e wc ⟨rfl, hBc, hKc⟩
            have c2c := hBc.c2
            go_wp2
            go_ret
            refine ⟨((hKx2.trans (Kp.set _ _ _ _ hBa.nb)).trans hKb).trans hKc, ?_⟩
            rw [unhide HG]
            exact ⟨⟨0, rfl⟩, hBc.mono (by omega), by omega⟩
          | ok x j =>
            rw [hg] at hP5 HG
            obtain ⟨hj1, hj2, ka, st5, rfl, hkl, hL5, hR5, hi5, hb5, ho5, hw5, hw5a, hw5b, hd5, hN5⟩ := hP5
            have HN5 := hide hN5
            clear hN5
            have hj1' : skipB s (st.i + 1) + 1 < j := hj1
            simp only [Res.bind] at HG
            clear hg
            by_cases h44 : pk s j = 44
            · have hjs : j < s.size := pk_lt (by rw [h44]; decide)
              rw [if_pos h44] at HG
              have HE2 := hide (EatG 44 hR5 hs hi5 hjs (St.out_le hs (by omega) (by rw [hi5]; exact hj2) hd5) hb5 h44)
              have hd6 : St.bd { st5 with i := j + 1, out := st5.out ++ txt [44] } (c - 57) := by
                have := St.bd_took (d := c - 57) hd5 [44] 1 rfl (by omega) (by omega)
                rw [hi5] at this
                exact this
              have hos : (st5.out ++ txt [44]).size ≤ 100000 := St.out_le (st := { st5 with i := j + 1, out := st5.out ++ txt [44] }) hs (by omega) hjs hd6
              have hd7 : St.bd { st5 with i := j + 1, out := st5.out ++ txt [44] ++ txt [32] } (c - 56) := by
                have e : (st5.out ++ txt [44] ++ txt [32]).size = (st5.out ++ txt [44]).size + 1 := by rw [ByteArray.size_append (a := st5.out ++ txt [44])]; rfl
                unfold St.bd at *
                simp only [e]
                simp only at hd6
                omega
              have HF := hide (And.intro hi5 (And.intro hb5 (And.intro ho5 (And.intro hw5 hd7))))
              clear h44 hi5 hb5 ho5 hw5 hd5 hd6 hd7
              go_wp2_with fail
              refine (unhide HE2).mono ?_
              rintro e w6 ⟨rfl, hR6, hK6⟩
              have c4 : w6.cell? ⟨b, 4, none⟩ = some (.string (st5.out ++ txt [44])) := hR6.c4
              have f4 := hR6.fz 4
              have hno : ¬ 9223372036854775807 < (st5.out ++ txt [44]).size + 1 := by omega
              have hK16 := hK15.trans hK6
              have hR7 := hR6.setOut (st5.out ++ txt [44] ++ ⟨#[32]⟩)
              have hK7 : Kp Y w6 (w6.setCell ⟨b, 4, none⟩ (.string (st5.out ++ txt [44] ++ ⟨#[32]⟩))) := Kp.set _ _ _ _ hR6.nb
              have HR7 := hide (And.intro hR7 hK7)
              clear hR7 hK7
              generalize hoo : st5.out ++ txt [44] = oo at *
              have Hoo := hide hoo
              clear hoo
              go_wp2_with fail
              have hK17 := hK16.trans (unhide HR7).2
              refine ((unhide HD).2.2.2 _ Y _ (c - 56) (by show i0 + 1 ≤ j + 1; omega) (unhide HR7).1 (unhide HF).2.1 hjs (show St.bd _ _ from (unhide HF).2.2.2.2) (by omega) (fun k hk => by have := hY k hk; have := hK17.size; omega) ⟨hw5a, by show st5.wn < ((j + 1 : Nat) : Int); omega⟩ n (by show 6 * (s.size - (j + 1)) + 5 ≤ n; omega)).mono ?_
              rintro e w8 ⟨hK8, hP8⟩
              have hK18 := hK17.trans hK8
              replace hP8 : LsPost [32, 124, 32] Y b s _ (c - 56) 18 e w8 (gRows s n (j + 1)) := hP8
              clear c4 f4
              cases hg : gRows s n (j + 1) with
              | err p =>
                rw [hg] at hP8 HG
                obtain ⟨⟨k, rfl⟩, hB, hp⟩ := hP8
                have hp' : j + 1 ≤ p := hp
                have hKx := hK18
                clear hg
                go_wp2_with fail
                refine (EatB 41 (by decide) hB hs).mono ?_
                rintro e wc ⟨rfl, hBc, hKc⟩
                have c2c := hBc.c2
                go_wp2
                go_ret
                refine ⟨hKx.trans hKc, ?_⟩
                rw [unhide HG]
                exact ⟨⟨0, rfl⟩, hBc.mono (by omega), by omega⟩
              | ok y k =>
                rw [hg] at hP8 HG
                obtain ⟨hk1, hk2, kb, st8, rfl, hkl8, hL8, hR8, hi8, hb8, ho8, hw8, hw8a, hw8b, hd8, hN8⟩ := hP8
                have HN8 := hide hN8
                clear hN8
                have hk1' : j + 1 < k := hk1
                have hL8' : st5.L.length ≤ st8.L.length := hL8
                simp only at HG
                clear hg
                by_cases h41 : pk s k = 41
                · have hks : k < s.size := pk_lt (by rw [h41]; decide)
                  rw [if_pos h41] at HG
                  have HE3 := hide (EatG 41 hR8 hs hi8 hks (St.out_le hs (by omega) (by rw [hi8]; exact hk2) hd8) hb8 h41)
                  have hd9 : St.bd { st8 with i := k + 1, out := st8.out ++ txt [41] } (c - 70) := by
                    have := St.bd_took (d := c - 70) hd8 [41] 1 rfl (by omega) (by omega)
                    rw [hi8] at this
                    exact this
                  have HF8 := hide (And.intro ho8 (And.intro hw8 hd9))
                  have hPl : st8.P.length ≤ 99999 := by
                    have := hd9.2.1
                    simp only at this
                    omega
                  have hLl : st8.L.length ≤ 100000 := by
                    have := hd9.2.2
                    simp only at this
                    omega
                  clear h41 ho8 hw8 hd8 hd9
                  go_wp2_with fail
                  refine (unhide HE3).mono ?_
                  rintro e w9 ⟨rfl, hR9, hK9⟩
                  have c2 : w9.cell? ⟨b, 2, none⟩ = some (.bool false) := hR9.c2.trans (by show some (Value.bool st8.bad) = _; rw [hb8])
                  have hK19 := hK18.trans hK9
                  have Hb8 := hide (And.intro hb8 hi8)
                  clear hb8 hi8
                  go_wp2_with fail
                  have hka8 : ka < st8.L.length := by omega
                  refine (Two 126 (by decide) ka kb st.i st8.L[ka] st8.L[kb] hR9 hPl hLl (fun k hk => by have := hY k hk; have := hK19.size; omega) (List.getElem?_eq_getElem hka8) (List.getElem?_eq_getElem hkl8)).mono ?_
                  rintro e w10 ⟨rfl, hR10, hK10⟩
                  go_wp2
                  go_ret
                  refine ⟨hK19.trans hK10, ?_⟩
                  rw [unhide HG]
                  have hL5' : st.L.length ≤ st5.L.length := hL5
                  refine ⟨by omega, hks, st8.L.length, _, rfl, by simp, by simp; omega, hR10, rfl, (unhide Hb8).1, ?_, ?_, hw8a, by show st8.wn < ((k + 1 : Nat) : Int); omega, ?_, by rw [toB, toB_joinAlt, toB_joinAlt]; exact Laid.two (.inr (.inr rfl)) st.i (unhide HN5) (unhide HN8) (List.getElem?_eq_getElem hka8) (List.getElem?_eq_getElem hkl8)⟩
                  · show st8.out ++ txt [41] = _
                    rw [(unhide HF8).1]
                    show (oo ++ ⟨#[32]⟩) ++ _ ++ _ = _
                    rw [← unhide Hoo, (unhide HF).2.2.1]
                    show (((st.out ++ txt [126] ++ txt [40]) ++ _) ++ txt [44] ++ txt [32]) ++ _ ++ _ = _
                    rw [form, form_joinAlt, form_joinAlt]
                    simp only [ByteArray.append_assoc, ← txt_app]
                    congr 2
                    simp
                  · rw [dflts, dflts_joinAlt, dflts_joinAlt]
                    exact WnRel.app (unhide HF).2.2.2.1 (unhide HF8).2.1
                  · exact St.bd_two (unhide HF8).2.2 _ _ _ (by omega)
                · rw [if_neg h41] at HG
                  have HE3 := hide (EatN 41 hR8 hs hi8 hk2 hb8 hd8 h41)
                  clear h41 ho8 hw8 hd8 hi8 hb8
                  go_wp2_with fail
                  refine (unhide HE3).mono ?_
                  rintro e wc ⟨rfl, hBc, hKc⟩
                  have c2c := hBc.c2
                  go_wp2
                  go_ret
                  refine ⟨hK18.trans hKc, ?_⟩
                  rw [unhide HG]
                  exact ⟨⟨0, rfl⟩, hBc.mono (by omega), by omega⟩
            · rw [if_neg h44] at HG
              have HE2 := hide (EatN 44 hR5 hs hi5 hj2 hb5 hd5 h44)
              clear h44 hi5 hb5 ho5 hw5 hd5
              go_wp2_with fail
              refine (unhide HE2).mono ?_
              rintro e wa ⟨rfl, hBa, hKa⟩
              have hKx2 := hK15.trans hKa
              obtain ⟨oo, c4, hoo, hset⟩ := hBa.c4 hs (by omega)
              have f4 := hBa.fz 4
              have hno : ¬ 9223372036854775807 < oo.size + 1 := by omega
              go_wp2_with fail
              refine (LensB (hset 32) hs).mono ?_
              rintro e wb ⟨rfl, hBb, hKb⟩
              go_wp2_with fail
              refine (EatB 41 (by decide) hBb hs).mono ?_
              rintro e wc ⟨rfl, hBc, hKc⟩
              have c2c := hBc.c2
              go_wp2
              go_ret
              refine ⟨((hKx2.trans (Kp.set _ _ _ _ hBa.nb)).trans hKb).trans hKc, ?_⟩
              rw [unhide HG]
              exact ⟨⟨0, rfl⟩, hBc.mono (by omega), by omega⟩
        · rw [if_neg h40] at HG
          have HE := hide (EatN 40 hR3 hs rfl hi1.2 (unhide HD).1 hbd3 h40)
          clear h40 hbd3
          go_wp2_with fail
          refine (unhide HE).mono ?_
          rintro e w4 ⟨rfl, hB4, hK4⟩
          go_wp2_with fail
          refine (LensB hB4 hs).mono ?_
          rintro e w5 ⟨rfl, hB5, hK5⟩
          go_wp2_with fail
          refine (EatB 44 (by decide) hB5 hs).mono ?_
          rintro e wa ⟨rfl, hBa, hKa⟩
          have hKx2 := ((hK13.trans hK4).trans hK5).trans hKa
          obtain ⟨oo, c4, hoo, hset⟩ := hBa.c4 hs (by omega)
          have f4 := hBa.fz 4
          have hno : ¬ 9223372036854775807 < oo.size + 1 := by omega
          go_wp2_with fail
          refine (LensB (hset 32) hs).mono ?_
          rintro e wb ⟨rfl, hBb, hKb⟩
          go_wp2_with fail
          refine (EatB 41 (by decide) hBb hs).mono ?_
          rintro e wc ⟨rfl, hBc, hKc⟩
          have c2c := hBc.c2
          go_wp2
          go_ret
          refine ⟨((hKx2.trans (Kp.set _ _ _ _ hBa.nb)).trans hKb).trans hKc, ?_⟩
          rw [unhide HG]
          exact ⟨⟨0, rfl⟩, hBc.mono (by omega), by omega⟩
      · have q1 : (pk s st.i == 47) = false := by simpa using h47
        have q2 : (pk s st.i == 40) = false := by simpa using h40
        have q3 : (pk s st.i == 126) = false := by simpa using h126
        have HG := hide (gPiece_none s n st.i h47 h126 h40)
        clear h47 h40 h126
        generalize pk s st.i = a at *
        go_enter Tryz.func131, Tryz.ntmps131
        go_wp2_with fail
        refine (unhide HP).mono ?_
        rintro e w1 ⟨rfl, hR1, hK1⟩
        have c2 := hR1.c2
        have f2 := hR1.fz 2
        go_wp2
        go_ret
        refine ⟨hK1.trans (Kp.set _ _ _ _ hR1.nb), ?_⟩
        rw [unhide HG]
        exact ⟨⟨0, rfl⟩, ⟨_, hR1.setBad, rfl, rfl, hi, St.bd_mono (unhide HD).2.1 (by omega)⟩, Nat.le_refl _⟩

end Go.Proofs.YtlljggefbngkeaaGreatDoor

namespace Go.Proofs.YtlljggefbngkeaaGreatDoor
open Go.RowKit

theorem gItem_eq (s : ByteArray) (n i : Nat) : gItem s (n + 1) i = (gPiece s n i).bind fun t j => if pk s (skipB s j) = 42 then .ok (.many (skipB s j) t) (skipB s (skipB s j + 1)) else .ok t (skipB s j) := by rw [gItem]

/-- the lens k of the reader, where there is one -/
theorem RH.lensAt {w : World} {Y : Nat → Prop} {b : Nat} {s : ByteArray} {st : St} (h : RH w Y b s st) {k : Nat} (hk : k < st.L.length) : ∃ gl cap, w.cell? ⟨b, 6, none⟩ = some (.slice (some ⟨gl, 0, none⟩) st.L.length cap) ∧ w.cell? ⟨gl, k * 8 + 6, none⟩ = some (.int .i64 st.L[k].s) ∧ w.cell? ⟨gl, k * 8 + 7, none⟩ = some (.int .i64 st.L[k].v) := by
  rcases h.lens with h0 | ⟨gl, cap, h1, _, h2⟩
  · rw [h0] at hk; simp at hk
  · exact ⟨gl, cap, h1, h2 k st.L[k] (List.getElem?_eq_getElem hk) 6 (by omega), h2 k st.L[k] (List.getElem?_eq_getElem hk) 7 (by omega)⟩

theorem RH.lay1 {w : World} {Y : Nat → Prop} {b : Nat} {s : ByteArray} {st : St} (kind : Int) (x : Nat) (h : RH w Y b s st) (hn : st.P.length ≤ 100000) (hY : ∀ k, Y k → k < w.heap.size) :
    Calls Tryz.prog 132 #[.pointer (some ⟨b, 0, none⟩), .agg #[.int .u8 kind, .string ⟨#[]⟩, .slice (some ⟨w.heap.size, 0, none⟩) 1 1]] (w.alloc (.cells #[.int .i64 x] 3)) fun e w' => e = .returned (.int .i64 st.P.length) ∧ RH w' Y b s { st with P := st.P ++ [⟨kind, ⟨#[]⟩, [x]⟩] } ∧ Kp Y w w' := by
  refine (Lay ⟨kind, ⟨#[]⟩, [x]⟩ (.slice (some ⟨w.heap.size, 0, none⟩) 1 1) (h.alloc _) hn (fun k hk => by have := hY k hk; simp; omega) (World.ownsRow_lit w _ 1 (by omega) (by unfold maxLen; omega) rfl) (by intro k e hy; have := hY k hy; simp [Value.ownBlock] at e; omega)).mono ?_
  rintro e w3 ⟨rfl, hR3, hK3⟩
  exact ⟨rfl, hR3, (Kp.alloc _ _ _).trans hK3⟩

set_option maxRecDepth 100000 in
set_option maxHeartbeats 3200000 in
theorem item_of {s : ByteArray} {b i0 : Nat} (hs : s.size ≤ 120) (hpiece : PieceSaid s b i0) : ItemSaid s b i0 := by
  intro w Y st c h0 h hb hi hd hc hY hw n hn
  obtain ⟨n, rfl⟩ : ∃ m, n = m + 1 := ⟨n - 1, by omega⟩
  have HPc := hide (hpiece w Y st c h0 h hb hi hd hc hY hw n (by omega))
  have HG := hide (gItem_eq s n st.i)
  clear h hb hd hw hpiece
  go_enter Tryz.func86, Tryz.ntmps86
  go_wp2_with fail
  refine (unhide HPc).mono ?_
  rintro e w1 ⟨hK1, hP1⟩
  cases hg : gPiece s n st.i with
  | err p =>
    rw [hg] at hP1 HG
    obtain ⟨⟨k, rfl⟩, hB, hp⟩ := hP1
    clear hg
    have c2 := hB.c2
    go_wp2
    go_ret
    refine ⟨hK1, ?_⟩
    rw [unhide HG]
    exact ⟨⟨0, rfl⟩, hB, hp⟩
  | ok t j =>
    rw [hg] at hP1 HG
    obtain ⟨hj1, hj2, k, st1, rfl, hkl, hL1, hR1, hi1, hb1, ho1, hw1, hw1a, hw1b, hd1, hN1⟩ := hP1
    have HN1 := hide hN1
    clear hN1
    simp only [Res.bind] at HG
    have hk0 := skipB_bd s j hj2
    have c2 : w1.cell? ⟨b, 2, none⟩ = some (.bool false) := by rw [hR1.c2, hb1]
    have HF := hide (And.intro hi1 (And.intro hb1 (And.intro ho1 (And.intro hw1 hd1))))
    clear hg hi1 hb1 ho1 hw1 hd1
    go_wp2_with fail
    refine (BlanksG hR1 hs (by rw [(unhide HF).1]; exact hj2) (unhide HF).2.1).mono ?_
    rintro e w2 ⟨rfl, hR2, hK2⟩
    rw [(unhide HF).1] at hR2
    have hd2 : St.bd { st1 with i := skipB s j } (c - 10) := by
      have := St.bd_i (unhide HF).2.2.2.2 (skipB s j) (by rw [(unhide HF).1]; exact hk0.1)
      exact this
    have HD2 := hide hd2
    have HP := hide (PeekGR (i := skipB s j) hR2 hs rfl hk0.2 (unhide HF).2.1)
    have hK12 := hK1.trans hK2
    clear c2 hd2
    by_cases h42 : pk s (skipB s j) = 42
    · rw [if_pos h42] at HG
      have hks : skipB s j < s.size := pk_lt (by rw [h42]; decide)
      have hk2 := skipB_bd s (skipB s j + 1) hks
      have HT := hide (fun (W : World) (hW : RH W Y b s _) => TakeG (st := { st1 with i := skipB s j }) 42 hW hs rfl hks (St.out_le (c := c - 10) hs (by omega) hk0.2 (unhide HD2)) (unhide HF).2.1 h42)
      have hd3 : St.bd { st1 with i := skipB s j + 1, out := st1.out ++ txt [42] } (c - 19) := St.bd_took (st := { st1 with i := skipB s j }) (c := c - 10) (unhide HD2) [42] 1 rfl (by omega) (by omega)
      have HD3 := hide hd3
      rw [h42] at HP
      clear h42 hd3
      go_wp2_with fail
      refine (unhide HP).mono ?_
      rintro e w3 ⟨rfl, hR3, hK3⟩
      have c1 : w3.cell? ⟨b, 1, none⟩ = some (.int .i64 (skipB s j : Nat)) := hR3.c1
      have hK13 := hK12.trans hK3
      go_wp2_with fail
      refine (unhide HT _ hR3).mono ?_
      rintro e w4 ⟨⟨x, rfl⟩, hR4, hK4⟩
      have hK14 := hK13.trans hK4
      obtain ⟨gl, cap, c6, cs, _⟩ := hR4.lensAt (k := k) hkl
      have hki : (k : Int) < (st1.L.length : Int) := by omega
      replace c6 : w4.cell? ⟨b, 6, none⟩ = some (.slice (some ⟨gl, 0, none⟩) st1.L.length cap) := c6
      clear c1
      go_wp2_with fail
      refine (RH.lay1 42 _ hR4 (St.P_le (c := c - 19) hs (by omega) hks (unhide HD3)) (fun k hk => by have := hY k hk; have := hK14.size; omega)).mono ?_
      rintro e w5 ⟨rfl, hR5, hK5⟩
      have hK15 := hK14.trans hK5
      obtain ⟨gl2, cap2, d6, _, cv⟩ := hR5.lensAt (k := k) hkl
      replace d6 : w5.cell? ⟨b, 6, none⟩ = some (.slice (some ⟨gl2, 0, none⟩) st1.L.length cap2) := d6
      clear c6 cs
      go_wp2_with fail
      refine (RH.lay1 42 _ hR5 (St.P_le (c := c - 18) hs (by omega) hks (St.bd_mono (St.bd_lay (unhide HD3) _) (by omega))) (fun k hk => by have := hY k hk; have := hK15.size; omega)).mono ?_
      rintro e w6 ⟨rfl, hR6, hK6⟩
      have hK16 := hK15.trans hK6
      go_wp2_with fail
      refine (BlanksG hR6 hs hks (unhide HF).2.1).mono ?_
      rintro e w7 ⟨rfl, hR7, hK7⟩
      have hK17 := hK16.trans hK7
      clear d6 cv
      go_wp2_with fail
      rw [show ((st1.P.length : Int) + 1) = ((st1.P.length + 1 : Nat) : Int) by omega]
      refine (Node ⟨42, k, 0, skipB s j, ⟨#[]⟩, ⟨#[]⟩, st1.P.length, st1.P.length + 1⟩ hR7 (St.L_le (st := st1) (c := c - 10) hs (by omega) (by rw [(unhide HF).1]; exact hj2) (unhide HF).2.2.2.2) (fun k hk => by have := hY k hk; have := hK17.size; omega)).mono ?_
      rintro e w8 ⟨rfl, hR8, hK8⟩
      go_wp2
      go_ret
      refine ⟨hK17.trans hK8, ?_⟩
      rw [unhide HG]
      have hL1' : st.L.length ≤ st1.L.length := hL1
      refine ⟨by omega, hk2.2, st1.L.length, _, rfl, by simp, by simp; omega, hR8, rfl, (unhide HF).2.1, ?_, ?_, hw1a, ?_, ?_, by rw [toB]; exact Laid.star (skipB s j) (unhide HN1) (List.getElem?_eq_getElem hkl)⟩
      · show st1.out ++ txt [42] = _
        rw [(unhide HF).2.2.1, form, ByteArray.append_assoc, ← txt_app]
      · rw [dflts]; exact (unhide HF).2.2.2.1
      · show st1.wn < ((skipB s (skipB s j + 1) : Nat) : Int)
        omega
      · exact St.bd_node (St.bd_i (St.bd_lay (St.bd_lay (unhide HD3) _) _) _ hk2.1) _ (by omega)
    · rw [if_neg h42] at HG
      have q1 : (pk s (skipB s j) != 42) = true := by rw [bne_iff_ne]; exact h42
      clear h42
      generalize pk s (skipB s j) = a at *
      go_wp2_with fail
      refine (unhide HP).mono ?_
      rintro e w3 ⟨rfl, hR3, hK3⟩
      go_wp2
      go_ret
      refine ⟨hK12.trans hK3, ?_⟩
      rw [unhide HG]
      exact ⟨by omega, hk0.2, k, { st1 with i := skipB s j }, rfl, hkl, hL1, hR3, rfl, (unhide HF).2.1, (unhide HF).2.2.1, (unhide HF).2.2.2.1, hw1a, by show st1.wn < ((skipB s j : Nat) : Int); omega, unhide HD2, unhide HN1⟩

end Go.Proofs.YtlljggefbngkeaaGreatDoor
