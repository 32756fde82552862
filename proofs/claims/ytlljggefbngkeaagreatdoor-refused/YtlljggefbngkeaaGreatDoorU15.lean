import Derived.Test.YtlljggefbngkeaaGreatDoorU14
import Derived.BigRegion
import Derived.Test.YtlljggefbngkeaaGreatDoorU11
import Derived.Test.YtlljggefbngkeaaGreatDoorU01
namespace Go.Proofs.YtlljggefbngkeaaGreatDoor
open Go.RowKit

theorem gItems_eq (s : ByteArray) (n i : Nat) : gItems s (n + 1) i = (gItem s n i).bind fun t j => if atPiece (pk s j) then (gItems s n j).map fun x => (t :: x.1, j :: x.2) else .ok ([t], []) j := by rw [gItems]
theorem gRows_eq (s : ByteArray) (n i : Nat) : gRows s (n + 1) i = (gItems s n (skipB s i)).bind fun x j => if pk s j = 124 then (gRows s n (j + 1)).map fun y => (joinRow x.1 x.2 :: y.1, j :: y.2) else .ok ([joinRow x.1 x.2], []) j := by rw [gRows]

theorem formT_snoc (s : ByteArray) (sep : List UInt8) : ∀ (l : List LT) (t : LT), formT s sep (l ++ [t]) = formT s sep l ++ (sep ++ form s t)
  | [], t => by simp [formT]
  | u :: l, t => by rw [List.cons_append, formT, formT, formT_snoc s sep l t]; simp
theorem formL_snoc (s : ByteArray) (sep : List UInt8) (l : List LT) (t : LT) (h : l ≠ []) : formL s sep (l ++ [t]) = formL s sep l ++ (sep ++ form s t) := by
  cases l with
  | nil => exact absurd rfl h
  | cons u l => rw [List.cons_append, formL, formL, formT_snoc]; simp
theorem formL_one (s : ByteArray) (sep : List UInt8) (t : LT) : formL s sep [t] = form s t := by rw [formL, formT]; simp
theorem dfltsL_snoc : ∀ (l : List LT) (t : LT), dfltsL (l ++ [t]) = dfltsL l ++ dflts t
  | [], t => by simp [dfltsL]
  | u :: l, t => by rw [List.cons_append, dfltsL, dfltsL, dfltsL_snoc l t]; simp
theorem dfltsL_one (t : LT) : dfltsL [t] = dflts t := by rw [dfltsL, dfltsL]; simp

/-- what holds at a loop's head: some are read (l, the places ps), the reader stands at j; or it is bad -/
def LoopL (sep : List UInt8) (w : World) (Y : Nat → Prop) (b : Nat) (s : ByteArray) (st : St) (c d : Int) (r : Res (List LT × List Nat)) (next : Nat → Nat → Res (List LT × List Nat)) (more : Nat → Bool) (need : Nat) (gk : Nat) (kv : Value) (wv : World) : Prop :=
  Kp Y w wv ∧ ∃ k : Nat, kv = .int .i64 k ∧
   ((∃ (l : List LT) (ps : List Nat) (j m : Nat) (st' : St), l ≠ [] ∧ RH wv Y b s st' ∧ k < st'.L.length ∧ st.L.length ≤ st'.L.length ∧ st'.i = j ∧ st'.bad = false ∧ st'.out = st.out ++ txt (formL s sep l) ∧ WnRel st.wn st'.wn (dfltsL l) ∧ -1 ≤ st'.wn ∧ st'.wn < j ∧ st'.bd (c - 10) ∧ st.i < j ∧ j ≤ s.size ∧ s.size - j < gk ∧ 6 * (s.size - j) + need ≤ m ∧ (ps.length + 1 = l.length ∧ Laid st.P st.L st'.P st'.L k (rowB (kdOf sep) l ps)) ∧
      r = if more j then (next m j).map (fun x => (l ++ x.1, ps ++ j :: x.2)) else .ok (l, ps) j) ∨
    (∃ p, BadAt wv Y b s p (c + d) ∧ st.i ≤ p ∧ r = .err p))

set_option maxRecDepth 100000 in
set_option maxHeartbeats 3200000 in
theorem row_of {s : ByteArray} {b i0 : Nat} (hs : s.size ≤ 120) (hitem : ItemSaid s b i0) : RowSaid s b i0 := by
  intro w Y st c h0 h hb hi hd hc hY hw n hn
  obtain ⟨n, rfl⟩ : ∃ m, n = m + 1 := ⟨n - 1, by omega⟩
  have HPc := hide (hitem w Y st c h0 h hb hi hd (by omega) hY hw n (by omega))
  generalize hr : gItems s (n + 1) st.i = r
  rw [gItems_eq] at hr
  have HD := hide (And.intro hd hitem)
  clear h hb hd hw hitem
  go_enter Tryz.func57, Tryz.ntmps57
  go_wp2_with fail
  refine (unhide HPc).mono ?_
  rintro e w1 ⟨hK1, hP1⟩
  have H0 : (∃ k : Nat, e = .returned (.int .i64 k)) ∧ ∀ k : Nat, e = .returned (.int .i64 k) → LoopL [32] w Y b s st c 14 r (gItems s) (fun j => atPiece (pk s j)) 4 (s.size + 1) (.int .i64 k) w1 := by
    cases hg : gItem s n st.i with
    | err p =>
      rw [hg] at hP1 hr
      obtain ⟨hk, hB, hp⟩ := hP1
      exact ⟨hk, fun k _ => ⟨hK1, k, rfl, Or.inr ⟨p, hB.mono (by omega), hp, hr.symm⟩⟩⟩
    | ok t j =>
      rw [hg] at hP1 hr
      obtain ⟨hj1, hj2, k, st1, rfl, hkl, hL1, hR1, hi1, hb1, ho1, hw1, hw1a, hw1b, hd1, hN1⟩ := hP1
      refine ⟨⟨k, rfl⟩, fun k' hk' => ?_⟩
      obtain rfl : k = k' := by simp at hk'; omega
      refine ⟨hK1, k, rfl, Or.inl ⟨[t], [], j, n, st1, by simp, hR1, hkl, hL1, hi1, hb1, by rw [formL_one]; exact ho1, by rw [dfltsL_one]; exact hw1, hw1a, hw1b, hd1, hj1, hj2, by omega, by omega, ⟨rfl, by rw [rowB_one]; exact hN1⟩, ?_⟩⟩
      rw [← hr]
      simp only [Res.bind, List.nil_append, List.singleton_append]
  obtain ⟨⟨k, rfl⟩, H0⟩ := H0
  have H1 := hide (H0 k rfl)
  clear H0 hP1 hr
  have s3 : (⟨#[47, 126, 40]⟩ : ByteArray).data.toList = [47, 126, 40] := rfl
  have HH := hide (fun (c : Int) (W : World) => has_any ⟨#[47, 126, 40]⟩ c W (by decide))
  rw [s3] at HH
  clear s3
  go_wp2_with fail
  go_loopg [3] (s.size + 1) (fun gk kv wv => LoopL [32] w Y b s st c 14 r (gItems s) (fun j => atPiece (pk s j)) 4 gk kv wv)
  case atStart => exact unhide H1
  case round =>
    clear H1
    obtain ⟨hK, k, rfl, hcase⟩ := hrel
    rcases hcase with ⟨l, ps, j, m, st', hl, hR, hkl, hL, hij, hbj, hoj, hwj, hwa, hwb, hdj, hj1, hj2, hgk, hm, hN, hr⟩ | ⟨p, hB, hp, hr⟩
    · have HN := hide hN
      clear hN
      have c2 : wr.cell? ⟨b, 2, none⟩ = some (.bool false) := by rw [hR.c2, hbj]
      have HP := hide (PeekGR hR hs hij hj2 hbj)
      have HHj := hide (fun W => unhide HH (pk s j) W)
      cases hat : atPiece (pk s j) with
      | true =>
        have hb2 : hasL [47, 126, 40] (pk s j) = true := hat
        rw [hb2] at HHj
        simp only [hat, if_true] at hr
        have HF := hide (And.intro hij (And.intro hbj (And.intro hoj (And.intro hwj (And.intro hdj hr)))))
        clear hat hb2 hij hbj hoj hwj hdj hr
        generalize pk s j = a at *
        go_wp2_with (go_at_call 58; refine (unhide HP).mono ?_; rintro e w2 ⟨rfl, hR2, hK2⟩)
        refine (unhide HHj _).mono ?_
        rintro e w2' ⟨rfl, rfl⟩
        have c1 : w2'.cell? ⟨b, 1, none⟩ = some (.int .i64 (j : Nat)) := by rw [hR2.c1, (unhide HF).1]
        have c4 := hR2.c4
        have f4 := hR2.fz 4
        have hos := St.out_le hs (by omega) (by rw [(unhide HF).1]; exact hj2) (unhide HF).2.2.2.2.1
        have hno : ¬ 9223372036854775807 < st'.out.size + 1 := by omega
        have hK12 := hK.trans hK2
        have hR3 := hR2.setOut (st'.out ++ ⟨#[32]⟩)
        have hK3 : Kp Y w2' (w2'.setCell ⟨b, 4, none⟩ (.string (st'.out ++ ⟨#[32]⟩))) := Kp.set _ _ _ _ hR2.nb
        have HR3 := hide (And.intro hR3 hK3)
        clear hR3 hK3
        go_wp2_with fail
        have hK13 := hK12.trans (unhide HR3).2
        have hd3 : St.bd { st' with out := st'.out ++ ⟨#[32]⟩ } (c - 9) := by
          have e : (st'.out ++ (⟨#[32]⟩ : ByteArray)).size = st'.out.size + 1 := by rw [ByteArray.size_append]; rfl
          have := (unhide HF).2.2.2.2.1
          unfold St.bd at *
          simp only [e]
          omega
        obtain ⟨m, rfl⟩ : ∃ m', m = m' + 1 := ⟨m - 1, by omega⟩
        have HI := hide ((unhide HD).2 _ Y _ (c - 9) (by show i0 ≤ st'.i; rw [(unhide HF).1]; omega) (unhide HR3).1 (unhide HF).2.1 (by show st'.i ≤ s.size; rw [(unhide HF).1]; exact hj2) hd3 (by omega) (fun k hk => by have := hY k hk; have := hK13.size; omega) ⟨hwa, by show st'.wn < (st'.i : Int); rw [(unhide HF).1]; exact hwb⟩ m (by show 6 * (s.size - st'.i) + 3 ≤ m; rw [(unhide HF).1]; omega))
        clear hd3
        refine (unhide HI).mono ?_
        rintro e w4 ⟨hK4, hP4⟩
        have hK14 := hK13.trans hK4
        replace hP4 : LPost Y b s _ (c - 9) 12 e w4 (gItem s m st'.i) := hP4
        rw [(unhide HF).1] at hP4
        have hr := (unhide HF).2.2.2.2.2
        rw [gItems_eq] at hr
        clear c1 c4 f4
        cases hg : gItem s m j with
        | err p =>
          rw [hg] at hP4 hr
          obtain ⟨⟨kb, rfl⟩, hB, hp⟩ := hP4
          have hp' : j ≤ p := hp
          have c2 := hB.c2
          have Hr := hide hr
          clear hg hr hp
          go_wp2_with fail
          go_roundg (s.size - j)
          case measure => exact hgk
          case rel => exact ⟨hK14, k, rfl, Or.inr ⟨p, hB.mono (by omega), by omega, unhide Hr⟩⟩
        | ok t j4 =>
          rw [hg] at hP4 hr
          obtain ⟨hj3, hj4, kb, st4, rfl, hkl4, hL4, hR4, hi4, hb4, ho4, hw4, hw4a, hw4b, hd4, hN4⟩ := hP4
          have HN4 := hide hN4
          clear hN4
          have hj3' : j < j4 := hj3
          have hL4' : st'.L.length ≤ st4.L.length := hL4
          have c2 : w4.cell? ⟨b, 2, none⟩ = some (.bool false) := by rw [hR4.c2, hb4]
          simp only [Res.bind] at hr
          have hPl : st4.P.length ≤ 99999 := by have := hd4.2.1; rw [hi4] at this; omega
          have hLl : st4.L.length ≤ 100000 := by have := hd4.2.2; rw [hi4] at this; omega
          have hka : k < st4.L.length := by omega
          have HF4 := hide (And.intro hi4 (And.intro hb4 (And.intro ho4 (And.intro hw4 (And.intro hd4 hr)))))
          clear hg hr hj3 hi4 hb4 ho4 hw4 hd4
          go_wp2_with fail
          refine (Two 114 (by decide) k kb j st4.L[k] st4.L[kb] hR4 hPl hLl (fun k hk => by have := hY k hk; have := hK14.size; omega) (List.getElem?_eq_getElem hka) (List.getElem?_eq_getElem hkl4)).mono ?_
          rintro e w5 ⟨rfl, hR5, hK5⟩
          go_wp2_with fail
          go_roundg (s.size - j)
          case measure => exact hgk
          case rel =>
            refine ⟨hK14.trans hK5, st4.L.length, rfl, Or.inl ⟨l ++ [t], ps ++ [j], j4, m, _, by simp, hR5, by simp, by simp; omega, (unhide HF4).1, (unhide HF4).2.1, ?_, ?_, hw4a, hw4b, ?_, by omega, hj4, by omega, by omega, ⟨by have := (unhide HN).1; simp; omega, by rw [rowB_snoc _ _ _ _ _ (unhide HN).1]; exact Laid.two (.inl rfl) j (unhide HN).2 (unhide HN4) (List.getElem?_eq_getElem hka) (List.getElem?_eq_getElem hkl4)⟩, ?_⟩⟩
            · show st4.out = _
              rw [(unhide HF4).2.2.1]
              show (st'.out ++ txt [32]) ++ _ = _
              rw [(unhide HF).2.2.1, formL_snoc s [32] l t hl]
              simp only [ByteArray.append_assoc, List.append_assoc, ← txt_app]
            · rw [dfltsL_snoc]; exact WnRel.app (unhide HF).2.2.2.1 (unhide HF4).2.2.2.1
            · exact St.bd_two (unhide HF4).2.2.2.2.1 _ _ _ (by omega)
            · rw [(unhide HF4).2.2.2.2.2]
              by_cases h5 : atPiece (pk s j4) = true
              · simp only [h5, if_true, Res.map_map]
                simp
              · simp only [Bool.not_eq_true] at h5
                simp [h5, Res.map]
      | false =>
        have hb2 : hasL [47, 126, 40] (pk s j) = false := hat
        rw [hb2] at HHj
        simp only [hat, Bool.false_eq_true, if_false] at hr
        have HF := hide (And.intro hij (And.intro hbj (And.intro hoj (And.intro hwj (And.intro hdj hr)))))
        clear hat hb2 hij hbj hoj hwj hdj hr
        generalize pk s j = a at *
        go_wp2_with (go_at_call 58; refine (unhide HP).mono ?_; rintro e w2 ⟨rfl, hR2, hK2⟩)
        refine (unhide HHj _).mono ?_
        rintro e w2' ⟨rfl, rfl⟩
        go_wp2
        go_ret
        refine ⟨hK.trans hK2, ?_⟩
        rw [(unhide HF).2.2.2.2.2]
        exact ⟨hj1, hj2, k, st', rfl, hkl, hL, hR2, (unhide HF).1, (unhide HF).2.1, (unhide HF).2.2.1, (unhide HF).2.2.2.1, hwa, hwb, (unhide HF).2.2.2.2.1, (unhide HN).2⟩
    · have c2 := hB.c2
      have Hr := hide hr
      clear hr
      go_wp2
      go_ret
      refine ⟨hK, ?_⟩
      rw [unhide Hr]
      exact ⟨⟨k, rfl⟩, hB, hp⟩

end Go.Proofs.YtlljggefbngkeaaGreatDoor

namespace Go.Proofs.YtlljggefbngkeaaGreatDoor
open Go.RowKit

theorem St.bd_out1 {st : St} {c : Int} (hd : st.bd c) (x : UInt8) : St.bd { st with out := st.out ++ ⟨#[x]⟩ } (c + 1) := by
  have e : (st.out ++ (⟨#[x]⟩ : ByteArray)).size = st.out.size + 1 := by rw [ByteArray.size_append]; rfl
  unfold St.bd at *
  simp only [e]
  omega

set_option maxRecDepth 100000 in
set_option maxHeartbeats 3200000 in
theorem lens_of {s : ByteArray} {b i0 : Nat} (hs : s.size ≤ 120) (hrow : RowSaid s b i0) : LensSaid s b i0 := by
  intro w Y st c h0 h hb hi hd hc hY hw n hn
  obtain ⟨n, rfl⟩ : ∃ m, n = m + 1 := ⟨n - 1, by omega⟩
  generalize hr : gRows s (n + 1) st.i = r
  rw [gRows_eq] at hr
  have hi1 := skipB_bd s st.i hi
  have HB := hide (BlanksG h hs hi hb)
  have HD := hide (And.intro hb (And.intro hd (And.intro hw (And.intro hrow hr))))
  clear h hb hd hw hrow hr
  go_enter Tryz.func43, Tryz.ntmps43
  go_wp2_with fail
  refine (unhide HB).mono ?_
  rintro e w1 ⟨rfl, hR1, hK1⟩
  go_wp2_with fail
  refine ((unhide HD).2.2.2.1 w1 Y _ c (by show i0 ≤ skipB s st.i; omega) hR1 (unhide HD).1 hi1.2 (St.bd_i (unhide HD).2.1 _ hi1.1) (by omega) (fun k hk => by have := hY k hk; have := hK1.size; omega) ⟨(unhide HD).2.2.1.1, by have := (unhide HD).2.2.1.2; show st.wn < ((skipB s st.i : Nat) : Int); omega⟩ n (by show 6 * (s.size - skipB s st.i) + 4 ≤ n; omega)).mono ?_
  rintro e w2 ⟨hK2, hP2⟩
  have hK12 := hK1.trans hK2
  replace hP2 : LsPost [32] Y b s _ c 14 e w2 (gItems s n (skipB s st.i)) := hP2
  have hr := (unhide HD).2.2.2.2
  have H0 : (∃ k : Nat, e = .returned (.int .i64 k)) ∧ ∀ k : Nat, e = .returned (.int .i64 k) → LoopL [32, 124, 32] w Y b s st c 18 r (fun m j => gRows s m (j + 1)) (fun j => decide (pk s j = 124)) 4 (s.size + 1) (.int .i64 k) w2 := by
    cases hg : gItems s n (skipB s st.i) with
    | err p =>
      rw [hg] at hP2 hr
      obtain ⟨hk, hB, hp⟩ := hP2
      have hp' : skipB s st.i ≤ p := hp
      exact ⟨hk, fun k _ => ⟨hK12, k, rfl, Or.inr ⟨p, hB.mono (by omega), by omega, hr.symm⟩⟩⟩
    | ok x j =>
      rw [hg] at hP2 hr
      obtain ⟨hj1, hj2, k, st1, rfl, hkl, hL1, hR1, hi1', hb1, ho1, hw1, hw1a, hw1b, hd1, hN1⟩ := hP2
      have hj1' : skipB s st.i < j := hj1
      refine ⟨⟨k, rfl⟩, fun k' hk' => ?_⟩
      obtain rfl : k = k' := by simp at hk'; omega
      refine ⟨hK12, k, rfl, Or.inl ⟨[joinRow x.1 x.2], [], j, n, st1, by simp, hR1, hkl, hL1, hi1', hb1, by rw [formL_one, form_joinRow]; exact ho1, by rw [dfltsL_one, dflts_joinRow]; exact hw1, hw1a, hw1b, hd1, by omega, hj2, by omega, by omega, ⟨rfl, by rw [rowB_one, toB_joinRow]; exact hN1⟩, ?_⟩⟩
      rw [← hr]
      simp only [Res.bind, List.nil_append, List.singleton_append, decide_eq_true_eq]
  obtain ⟨⟨k, rfl⟩, H0⟩ := H0
  have H1 := hide (H0 k rfl)
  clear H0 hP2 hr
  go_wp2_with fail
  go_loopg [3] (s.size + 1) (fun gk kv wv => LoopL [32, 124, 32] w Y b s st c 18 r (fun m j => gRows s m (j + 1)) (fun j => decide (pk s j = 124)) 4 gk kv wv)
  case atStart => exact unhide H1
  case round =>
    clear H1
    obtain ⟨hK, k, rfl, hcase⟩ := hrel
    rcases hcase with ⟨l, ps, j, m, st', hl, hR, hkl, hL, hij, hbj, hoj, hwj, hwa, hwb, hdj, hj1, hj2, hgk, hm, hN, hr⟩ | ⟨p, hB, hp, hr⟩
    · have HN := hide hN
      clear hN
      have c2 : wr.cell? ⟨b, 2, none⟩ = some (.bool false) := by rw [hR.c2, hbj]
      have HP := hide (PeekGR hR hs hij hj2 hbj)
      by_cases h124 : pk s j = 124
      · simp only [h124, decide_true, if_true] at hr
        have hjs : j < s.size := pk_lt (by rw [h124]; decide)
        have hj5 := skipB_bd s (j + 1) hjs
        have hd3 := St.bd_out1 hdj 32
        have HT := hide (fun (W : World) (hW : RH W Y b s _) => TakeG (st := { st' with out := st'.out ++ ⟨#[32]⟩ }) 124 hW hs hij hjs (St.out_le (c := c - 9) hs (by omega) (by rw [hij]; exact hj2) (St.bd_mono hd3 (by omega))) hbj h124)
        have hd4 : St.bd { st' with i := j + 1, out := st'.out ++ ⟨#[32]⟩ ++ txt [124] } (c - 28) := by
          have := St.bd_took (st := { st' with out := st'.out ++ ⟨#[32]⟩ }) (d := c - 28) hd3 [124] 1 rfl (by omega) (by omega)
          rw [hij] at this
          exact this
        have hd5 := St.bd_out1 hd4 32
        have hos := St.out_le (c := c - 10) hs (by omega) (by rw [hij]; exact hj2) hdj
        have hos2 : (st'.out ++ ⟨#[32]⟩ ++ txt [124]).size ≤ 100000 := St.out_le (st := { st' with i := j + 1, out := st'.out ++ ⟨#[32]⟩ ++ txt [124] }) (c := c - 28) hs (by omega) hjs hd4
        obtain ⟨m, rfl⟩ : ∃ m', m = m' + 1 := ⟨m - 1, by omega⟩
        rw [gRows_eq] at hr
        rw [h124] at HP
        have HF := hide (And.intro hij (And.intro hbj (And.intro hoj (And.intro hwj (And.intro hd5 hr)))))
        clear h124 hij hbj hoj hwj hdj hr hd3 hd4 hd5
        go_wp2_with fail
        refine (unhide HP).mono ?_
        rintro e w2 ⟨rfl, hR2, hK2⟩
        have c1 : w2.cell? ⟨b, 1, none⟩ = some (.int .i64 (j : Nat)) := by rw [hR2.c1, (unhide HF).1]
        have c4 := hR2.c4
        have f4 := hR2.fz 4
        have hno : ¬ 9223372036854775807 < st'.out.size + 1 := by omega
        have hK12 := hK.trans hK2
        have hR3 := hR2.setOut (st'.out ++ ⟨#[32]⟩)
        have hK3 : Kp Y w2 (w2.setCell ⟨b, 4, none⟩ (.string (st'.out ++ ⟨#[32]⟩))) := Kp.set _ _ _ _ hR2.nb
        have HR3 := hide (And.intro hR3 hK3)
        clear hR3 hK3
        go_wp2_with fail
        have hK13 := hK12.trans (unhide HR3).2
        refine (unhide HT _ (unhide HR3).1).mono ?_
        rintro e w4 ⟨⟨x, rfl⟩, hR4, hK4⟩
        have hK14 := hK13.trans hK4
        have d4 : w4.cell? ⟨b, 4, none⟩ = some (.string (st'.out ++ ⟨#[32]⟩ ++ txt [124])) := hR4.c4
        have g4 := hR4.fz 4
        have hno2 : ¬ 9223372036854775807 < (st'.out ++ ⟨#[32]⟩ ++ txt [124]).size + 1 := by omega
        have hR5 := hR4.setOut (st'.out ++ ⟨#[32]⟩ ++ txt [124] ++ ⟨#[32]⟩)
        have hK5 : Kp Y w4 (w4.setCell ⟨b, 4, none⟩ (.string (st'.out ++ ⟨#[32]⟩ ++ txt [124] ++ ⟨#[32]⟩))) := Kp.set _ _ _ _ hR4.nb
        have HR5 := hide (And.intro hR5 hK5)
        clear hR5 hK5 c1 c4 f4 hno
        generalize hoo : st'.out ++ ⟨#[32]⟩ ++ txt [124] = oo at *
        have Hoo := hide hoo
        clear hoo
        go_wp2_with fail
        have hK15 := hK14.trans (unhide HR5).2
        refine (BlanksG (unhide HR5).1 hs hjs (unhide HF).2.1).mono ?_
        rintro e w6 ⟨rfl, hR6, hK6⟩
        have hK16 := hK15.trans hK6
        clear d4 g4 hno2
        go_wp2_with fail
        refine ((unhide HD).2.2.2.1 w6 Y _ (c - 27) (by show i0 ≤ skipB s (j + 1); omega) hR6 (unhide HF).2.1 hj5.2 (St.bd_mono (St.bd_i (unhide HF).2.2.2.2.1 _ hj5.1) (by omega)) (by omega) (fun k hk => by have := hY k hk; have := hK16.size; omega) ⟨hwa, by show st'.wn < ((skipB s (j + 1) : Nat) : Int); omega⟩ m (by show 6 * (s.size - skipB s (j + 1)) + 4 ≤ m; omega)).mono ?_
        rintro e w7 ⟨hK7, hP7⟩
        have hK17 := hK16.trans hK7
        replace hP7 : LsPost [32] Y b s _ (c - 27) 14 e w7 (gItems s m (skipB s (j + 1))) := hP7
        have hr := (unhide HF).2.2.2.2.2
        cases hg : gItems s m (skipB s (j + 1)) with
        | err p =>
          rw [hg] at hP7 hr
          obtain ⟨⟨kb, rfl⟩, hB, hp⟩ := hP7
          have hp' : skipB s (j + 1) ≤ p := hp
          have e2 := hB.c2
          have Hr := hide hr
          clear hg hr hp
          go_wp2_with fail
          go_roundg (s.size - j)
          case measure => exact hgk
          case rel => exact ⟨hK17, k, rfl, Or.inr ⟨p, hB.mono (by omega), by omega, unhide Hr⟩⟩
        | ok y j8 =>
          rw [hg] at hP7 hr
          obtain ⟨hj7, hj8, kb, st8, rfl, hkl8, hL8, hR8, hi8, hb8, ho8, hw8, hw8a, hw8b, hd8, hN8⟩ := hP7
          have HN8 := hide hN8
          clear hN8
          have hj7' : skipB s (j + 1) < j8 := hj7
          have hL8' : st'.L.length ≤ st8.L.length := hL8
          have e2 : w7.cell? ⟨b, 2, none⟩ = some (.bool false) := by rw [hR8.c2, hb8]
          simp only [Res.bind] at hr
          have hPl : st8.P.length ≤ 99999 := by have := hd8.2.1; rw [hi8] at this; omega
          have hLl : st8.L.length ≤ 100000 := by have := hd8.2.2; rw [hi8] at this; omega
          have hka : k < st8.L.length := by omega
          have HF8 := hide (And.intro hi8 (And.intro hb8 (And.intro ho8 (And.intro hw8 (And.intro hd8 hr)))))
          clear hg hr hj7 hi8 hb8 ho8 hw8 hd8
          go_wp2_with fail
          refine (Two 124 (by decide) k kb j st8.L[k] st8.L[kb] hR8 hPl hLl (fun k hk => by have := hY k hk; have := hK17.size; omega) (List.getElem?_eq_getElem hka) (List.getElem?_eq_getElem hkl8)).mono ?_
          rintro e w9 ⟨rfl, hR9, hK9⟩
          go_wp2_with fail
          go_roundg (s.size - j)
          case measure => exact hgk
          case rel =>
            refine ⟨hK17.trans hK9, st8.L.length, rfl, Or.inl ⟨l ++ [joinRow y.1 y.2], ps ++ [j], j8, m, _, by simp, hR9, by simp, by simp; omega, (unhide HF8).1, (unhide HF8).2.1, ?_, ?_, hw8a, hw8b, St.bd_two (unhide HF8).2.2.2.2.1 _ _ _ (by omega), by omega, hj8, by omega, by omega, ⟨by have := (unhide HN).1; simp; omega, by rw [rowB_snoc _ _ _ _ _ (unhide HN).1, toB_joinRow]; exact Laid.two (.inr (.inl rfl)) j (unhide HN).2 (unhide HN8) (List.getElem?_eq_getElem hka) (List.getElem?_eq_getElem hkl8)⟩, ?_⟩⟩
            · show st8.out = _
              rw [(unhide HF8).2.2.1]
              show (oo ++ txt [32]) ++ _ = _
              rw [← unhide Hoo]
              show (st'.out ++ txt [32] ++ txt [124] ++ txt [32]) ++ _ = _
              rw [(unhide HF).2.2.1, formL_snoc s [32, 124, 32] l _ hl, form_joinRow]
              simp only [ByteArray.append_assoc, List.append_assoc, ← txt_app]
              rfl
            · rw [dfltsL_snoc, dflts_joinRow]; exact WnRel.app (unhide HF).2.2.2.1 (unhide HF8).2.2.2.1
            · rw [(unhide HF8).2.2.2.2.2]
              by_cases h5 : pk s j8 = 124
              · simp only [h5, decide_true, if_true, Res.map_map]
                simp
              · simp [h5, Res.map]
      · simp only [h124, decide_false, Bool.false_eq_true, if_false] at hr
        have q1 : (pk s j == 124) = false := by simpa using h124
        have HF := hide (And.intro hij (And.intro hbj (And.intro hoj (And.intro hwj (And.intro hdj hr)))))
        clear h124 hij hbj hoj hwj hdj hr
        generalize pk s j = a at *
        go_wp2_with fail
        refine (unhide HP).mono ?_
        rintro e w2 ⟨rfl, hR2, hK2⟩
        go_wp2
        go_ret
        refine ⟨hK.trans hK2, ?_⟩
        rw [(unhide HF).2.2.2.2.2]
        exact ⟨hj1, hj2, k, st', rfl, hkl, hL, hR2, (unhide HF).1, (unhide HF).2.1, (unhide HF).2.2.1, (unhide HF).2.2.2.1, hwa, hwb, (unhide HF).2.2.2.2.1, (unhide HN).2⟩
    · have c2 := hB.c2
      have Hr := hide hr
      clear hr
      go_wp2
      go_ret
      refine ⟨hK, ?_⟩
      rw [unhide Hr]
      exact ⟨⟨k, rfl⟩, hB, hp⟩

theorem lensSaid (s : ByteArray) (b : Nat) (hs : s.size ≤ 120) : ∀ d i0, s.size + 1 - i0 ≤ d → LensSaid s b i0
  | 0, i0, h => by
    intro w Y st c h0 _ _ hi
    omega
  | d + 1, i0, h => lens_of hs (row_of hs (item_of hs (piece_of hs (lensSaid s b hs d (i0 + 1) (by omega)))))

end Go.Proofs.YtlljggefbngkeaaGreatDoor

namespace Go.Proofs.YtlljggefbngkeaaGreatDoor
open Go.RowKit

/-- a glass in memory -/
structure GM (w : World) (g : Nat) (P : List Pat) (L : List Lns) (k : Nat) (f : ByteArray) (gp cap gl cl : Nat) (xs : List Value) : Prop where
  blk : w.heap[g]? = some (.cells #[.slice (some ⟨gp, 0, none⟩) P.length cap, .slice (some ⟨gl, 0, none⟩) L.length cl, .int .i64 k, .string f] 28 (0, 0))
  pm : PM w gp cap P xs
  own : w.ownsRow 0 35 8 (.slice (some ⟨gl, 0, none⟩) L.length cl) L.length (L.flatMap lnsCells)
theorem GM.k0 {w w' : World} {g : Nat} {P : List Pat} {L : List Lns} {k : Nat} {f : ByteArray} {gp cap gl cl : Nat} {xs : List Value} (h : GM w g P L k f gp cap gl cl xs) (hk : K0 w w') : GM w' g P L k f gp cap gl cl xs where
  blk := (hk.heap (heap_lt h.blk)).trans h.blk
  pm := h.pm.k0 hk
  own := own_same h.own fun k e => hk.heap (own_lt h.own k e)
/-- a glass in memory that stands for the lens -/
def GlassAt (w : World) (g : Nat) (b : BT) : Prop := ∃ P L k f gp cap gl cl xs, GM w g P L k f gp cap gl cl xs ∧ P.length ≤ 100000 ∧ L.length ≤ 100000 ∧ Laid [] [] P L k b
theorem GlassAt.k0 {w w' : World} {g : Nat} {b : BT} (h : GlassAt w g b) (hk : K0 w w') : GlassAt w' g b := by
  obtain ⟨P, L, k, f, gp, cap, gl, cl, xs, h, r⟩ := h
  exact ⟨P, L, k, f, gp, cap, gl, cl, xs, h.k0 hk, r⟩
theorem PRep.lt {P : List Pat} {t : PT} {k : Nat} (h : PRep P t k) : k < P.length := by
  have key : ∀ p, P[k]? = some p → k < P.length := fun p h => (List.getElem?_eq_some_iff.1 h).1
  cases t with
  | chr l => rw [PRep] at h; exact key _ h
  | seq l => rw [PRep] at h; obtain ⟨ks, h, _⟩ := h; exact key _ h
  | alt l =>
    rw [PRep] at h
    rcases h with ⟨ks, h, _⟩ | ⟨v, _, _, h⟩
    · exact key _ h
    · exact key _ h
  | rep c t => rw [PRep] at h; obtain ⟨_, j, h, _⟩ := h; exact key _ h

/-- what Parse answers -/
def ParsePost (w : World) (s : ByteArray) (e : Ending) (w' : World) : Prop :=
  K0 w w' ∧
  ((120 < s.size ∧ e = .returned (.tuple #[.pointer none, .int .i64 1, .int .i64 0])) ∨
   (s.size ≤ 120 ∧ match gRows s (6 * s.size + 5) 0 with
     | .err p => e = .returned (.tuple #[.pointer none, .int .i64 2, .int .i64 (p : Int)])
     | .ok x j => (j < s.size ∧ e = .returned (.tuple #[.pointer none, .int .i64 2, .int .i64 (j : Int)])) ∨
        (j = s.size ∧ ∃ o, FirstW (dfltsL x.1) o ∧ match o with
          | some a => e = .returned (.tuple #[.pointer none, .int .i64 3, .int .i64 (a : Int)])
          | none => ∃ g, e = .returned (.tuple #[.pointer (some ⟨g, 0, none⟩), .int .i64 0, .int .i64 0]) ∧ w'.cell? ⟨g, 3, none⟩ = some (.string (txt (formL s [32, 124, 32] x.1))) ∧ GlassAt w' g (rowB 124 x.1 x.2))))

theorem RH.c5 {w : World} {Y : Nat → Prop} {b : Nat} {s : ByteArray} {st : St} (h : RH w Y b s st) : ∃ ao cp, w.cell? ⟨b, 5, none⟩ = some (.slice ao st.P.length cp) := by
  obtain ⟨pv, lv, xs, h⟩ := h
  obtain ⟨ao, cp, rfl⟩ := own_slice h.ownP
  exact ⟨ao, cp, by rw [cellOf h.blk]; rfl⟩

theorem K0.of_new {w w1 : World} {o : Obj} (h : Kp (fun k => k < w.heap.size) (w.alloc o) w1) : K0 w w1 := by
  have hs := h.size
  simp at hs
  refine ⟨h.os, h.tape, h.output, by omega, fun k hk _ => ?_⟩
  rw [h.block k (by simp; omega) hk, Below.heap_alloc _ _ _ hk]

set_option maxRecDepth 100000 in
set_option maxHeartbeats 1600000 in
theorem parse_long (s : ByteArray) (w : World) (hs : 120 < s.size) (hm : s.size ≤ maxLen) :
    Calls Tryz.prog 28 #[.string s] w fun e w' => ParsePost w s e w' := by
  unfold maxLen at hm
  have hsi : (120 : Int) < (s.size : Int) := by omega
  go_enter Tryz.func28, Tryz.ntmps28
  go_wp2
  go_ret3
  exact ⟨K0.refl _, Or.inl ⟨hs, rfl⟩⟩

set_option maxRecDepth 100000 in
set_option maxHeartbeats 3200000 in
theorem parse_short (s : ByteArray) (w : World) (hs : s.size ≤ 120) :
    Calls Tryz.prog 28 #[.string s] w fun e w' => ParsePost w s e w' := by
  have hsi : ¬ (120 : Int) < (s.size : Int) := by omega
  have h0 : RH (w.alloc (rblk s 0 false (-1) ⟨#[]⟩ (.slice none 0 0) (.slice none 0 0))) (fun k => k < w.heap.size) w.heap.size s ⟨0, false, -1, ⟨#[]⟩, [], []⟩ := by
    refine ⟨.slice none 0 0, .slice none 0 0, [], ?_⟩
    exact {
      blk := heap_alloc_new w _
      ownP := World.ownsRow_nil _ _ _ _
      ownL := World.ownsRow_nil _ _ _ _
      subs := fun j p hp => by simp at hp
      nb := Nat.lt_irrefl _
      np := fun k hk => by cases hk
      nl := fun k hk => by cases hk }
  have HL := hide (lensSaid s w.heap.size hs (s.size + 1) 0 (by omega) _ (fun k => k < w.heap.size) _ 100 (Nat.zero_le _) h0 rfl (Nat.zero_le _) (by refine ⟨?_, ?_, ?_⟩ <;> decide) (by omega) (fun k hk => by simp; omega) (by simp) (6 * s.size + 5) (by simp))
  clear h0
  go_enter Tryz.func28, Tryz.ntmps28
  go_wp2_with fail
  refine (unhide HL).mono ?_
  rintro e w1 ⟨hK1, hP1⟩
  replace hP1 : LsPost [32, 124, 32] _ w.heap.size s _ 100 18 e w1 (gRows s (6 * s.size + 5) 0) := hP1
  have hK := K0.of_new hK1
  cases hg : gRows s (6 * s.size + 5) 0 with
  | err p =>
    rw [hg] at hP1
    obtain ⟨⟨k, rfl⟩, hB, _⟩ := hP1
    have c1 := hB.c1
    have c2 := hB.c2
    have Hg := hide hg
    clear hg hK1
    go_wp2_with fail
    go_quiet (fail)
    go_wp2
    go_ret3
    refine ⟨hK.drewN _, Or.inr ⟨hs, ?_⟩⟩
    rw [unhide Hg]
    rfl
  | ok x j =>
    rw [hg] at hP1
    obtain ⟨_, hj2, k, st1, rfl, hkl, _, hR1, hi1, hb1, ho1, hw1, hw1a, hw1b, hd1, hN1⟩ := hP1
    have HN1 := hide hN1
    clear hN1
    have c1 : w1.cell? ⟨w.heap.size, 1, none⟩ = some (.int .i64 (j : Nat)) := by rw [hR1.c1, hi1]
    have c2 : w1.cell? ⟨w.heap.size, 2, none⟩ = some (.bool false) := by rw [hR1.c2, hb1]
    have c3 := hR1.c3
    have c4 : w1.cell? ⟨w.heap.size, 4, none⟩ = some (.string (txt (formL s [32, 124, 32] x.1))) := by
      rw [hR1.c4, ho1]
      congr 2
    have Hg := hide (And.intro hg (And.intro hw1 (And.intro hb1 (And.intro hi1 hd1))))
    clear hg hK1 hw1 hb1 hi1 hd1 ho1
    by_cases hjs : j < s.size
    · have q1 : decide ((j : Int) < (s.size : Int)) = true := by simp; omega
      go_wp2_with fail
      go_quiet (fail)
      go_wp2
      go_ret3
      refine ⟨hK.drewN _, Or.inr ⟨hs, ?_⟩⟩
      rw [(unhide Hg).1]
      exact Or.inl ⟨hjs, rfl⟩
    · have q1 : decide ((j : Int) < (s.size : Int)) = false := by simp; omega
      obtain rfl : j = s.size := by omega
      obtain ⟨_, o, ho, hwo⟩ := (unhide Hg).2.1.1 (by show (-1 : Int) < 0; decide)
      cases o with
      | some a =>
        have hwo' : st1.wn = (a : Int) := hwo
        rw [hwo'] at c3
        have Ho := hide ho
        have q2 : decide ((0 : Int) ≤ (a : Int)) = true := by simp
        clear ho hwo hwo' hw1a hw1b
        go_wp2_with fail
        go_quiet (fail)
        go_wp2
        go_ret3
        refine ⟨hK.drewN _, Or.inr ⟨hs, ?_⟩⟩
        rw [(unhide Hg).1]
        exact Or.inr ⟨rfl, some a, unhide Ho, rfl⟩
      | none =>
        have hwo' : st1.wn = -1 := hwo
        rw [hwo'] at c3
        have Ho := hide ho
        clear ho hwo hwo' hw1a hw1b
        obtain ⟨lx, _, hlx⟩ := (unhide HN1).2.2.1.node
        have hPl : 0 < st1.P.length := by have := hlx.2.1.lt; omega
        have hbd := (unhide Hg).2.2.2.2
        have hi1 := (unhide Hg).2.2.2.1
        have hb1 := (unhide Hg).2.2.1
        have hbl := hR1.lt
        obtain ⟨pv, lv, xs, hO1⟩ := hR1
        obtain ⟨gp, cap, rfl, _, _⟩ := hO1.ownP.form hPl
        obtain ⟨gl, cl, rfl, _, _⟩ := hO1.ownL.form (by omega)
        have c5 : w1.cell? ⟨w.heap.size, 5, none⟩ = some (.slice (some ⟨gp, 0, none⟩) st1.P.length cap) := by rw [cellOf hO1.blk]; rfl
        have c6 : w1.cell? ⟨w.heap.size, 6, none⟩ = some (.slice (some ⟨gl, 0, none⟩) st1.L.length cl) := by rw [cellOf hO1.blk]; rfl
        have hbd2 : st1.P.length ≤ 100000 ∧ st1.L.length ≤ 100000 := by
          obtain ⟨_, b2, b3⟩ := hbd
          rw [hi1] at b2 b3
          omega
        have HO := hide hO1
        clear hO1 hbd hi1 hb1 hlx
        go_wp2_with fail
        go_region
        go_wp2
        go_ret3
        have hkz : K0 w1 ((w1.alloc (.cells #[.slice (some ⟨gp, 0, none⟩) st1.P.length cap, .slice (some ⟨gl, 0, none⟩) st1.L.length cl, .int .i64 k, .string (txt (formL s [32, 124, 32] x.1))] 28)).drew) := Kp.trans (Kp.alloc _ _ _) (Kp.drew _ _)
        refine ⟨(K0.trans hK (Kp.alloc _ _ _)).drew, Or.inr ⟨hs, ?_⟩⟩
        rw [(unhide Hg).1]
        refine Or.inr ⟨rfl, none, unhide Ho, w1.heap.size, rfl, by simp, st1.P, st1.L, k, txt (formL s [32, 124, 32] x.1), gp, cap, gl, cl, xs, ?_, hbd2.1, hbd2.2, unhide HN1⟩
        exact {
          blk := heap_alloc_new w1 _
          pm := ⟨own_same (unhide HO).ownP fun k e => hkz.heap (own_lt (unhide HO).ownP k e), fun j p hp => by
            obtain ⟨v, h1, h2, h3, h4, h5⟩ := (unhide HO).subs j p hp
            exact ⟨v, h1, h2, h3, own_same h4 (fun k e => hkz.heap (own_lt h4 k e)), fun _ _ h => h⟩⟩
          own := own_same (unhide HO).ownL fun k e => hkz.heap (own_lt (unhide HO).ownL k e) }

end Go.Proofs.YtlljggefbngkeaaGreatDoor

namespace Go.Proofs.YtlljggefbngkeaaGreatDoor
open Go.RowKit

set_option maxRecDepth 100000 in
set_option maxHeartbeats 1600000 in
/-- in: as In, of the glass's patterns -/
theorem gin {w : World} {gg gp cap : Nat} {P : List Pat} {xs : List Value} {k : Nat} {t : PT} {d : ByteArray} (hg : w.cell? ⟨gg, 0, none⟩ = some (.slice (some ⟨gp, 0, none⟩) P.length cap)) (hPM : PM w gp cap P xs) (hPl : P.length ≤ 100000) (hrep : PRep P t k) (hwf : wf t = true) (hd : d.size ≤ 200000000) :
    Calls Tryz.prog 30 #[.pointer (some ⟨gg, 0, none⟩), .int .i64 k, .string d] w fun e w' => InPost w t d e w' := by
  have HI := hide (in_any hPM hPl hrep hwf hd)
  clear hPM hrep hwf
  go_enter Tryz.func30, Tryz.ntmps30
  go_wp2_with fail
  refine (unhide HI).mono ?_
  rintro e w1 ⟨x, rfl, hx, hK⟩
  have HX := hide (And.intro hx hK)
  clear hx hK
  go_wp2
  go_ret
  exact ⟨x, rfl, (unhide HX).1, (unhide HX).2⟩

/-- how many of the first m places, and the first of them (-1: none) -/
def cnt (q : Nat → Bool) : Nat → Nat
  | 0 => 0
  | m + 1 => cnt q m + (if q m then 1 else 0)
def fstAt (q : Nat → Bool) : Nat → Int
  | 0 => -1
  | m + 1 => if q m = true ∧ fstAt q m < 0 then (m : Int) else fstAt q m

theorem cnt_le (q : Nat → Bool) : ∀ m, cnt q m ≤ m
  | 0 => Nat.le_refl _
  | m + 1 => by
    have := cnt_le q m
    rw [cnt]
    split <;> omega
theorem fstAt_bd (q : Nat → Bool) : ∀ m, -1 ≤ fstAt q m ∧ fstAt q m < (m : Int)
  | 0 => by rw [fstAt]; omega
  | m + 1 => by
    have := fstAt_bd q m
    rw [fstAt]
    split <;> omega

/-- the places at which d is parted -/
def Parted (ta tb : PT) (d : List UInt8) (q : Nat → Bool) : Prop := ∀ i, q i = true ↔ M ta (sub d 0 i) ∧ M tb (sub d i d.length)
theorem parted_ex (ta tb : PT) (d : List UInt8) : ∃ q, Parted ta tb d q := by
  classical
  exact ⟨fun i => decide (M ta (sub d 0 i) ∧ M tb (sub d i d.length)), fun i => by simp⟩

def GPartsPost (w : World) (d : ByteArray) (q : Nat → Bool) (e : Ending) (w' : World) : Prop :=
  e = .returned (.tuple #[.int .i64 ((min (cnt q (d.size + 1)) 2 : Nat) : Int), .int .i64 (fstAt q (d.size + 1))]) ∧ K0 w w'

set_option maxRecDepth 100000 in
set_option maxHeartbeats 3200000 in
theorem gparts {w : World} {gg gp cap : Nat} {P : List Pat} {xs : List Value} {ka kb : Nat} {ta tb : PT} {d : ByteArray} {q : Nat → Bool} (hq : Parted ta tb d.data.toList q) (hg : w.cell? ⟨gg, 0, none⟩ = some (.slice (some ⟨gp, 0, none⟩) P.length cap)) (hPM : PM w gp cap P xs) (hPl : P.length ≤ 100000)
    (hra : PRep P ta ka) (hwa : wf ta = true) (hrb : PRep P tb kb) (hwb : wf tb = true) (hd : d.size ≤ 200000000) :
    Calls Tryz.prog 29 #[.pointer (some ⟨gg, 0, none⟩), .int .i64 ka, .int .i64 kb, .string d] w fun e w' => GPartsPost w d q e w' := by
  obtain ⟨i0, hi0, hz0, hz1, hz2⟩ := info_parts Tryz.infoBool
  have hgl : gg < w.heap.size := World.block_lt_of_cell? w ⟨gg, 0, none⟩ hg
  have HB := hide (And.intro hPM (And.intro hra (And.intro (ends_all ta hwa) (And.intro hrb (And.intro hwb (And.intro hq hg))))))
  have hds : (d.size : Int) < (d.size : Int) + 1 := by omega
  clear hPM hra hwa hrb hwb hq
  go_enter Tryz.func29, Tryz.ntmps29
  go_wp2_with (at_make; refine wpList_make_full _ rfl _ _ 77 rfl 0 4 i0 (.bool false) 1 Tryz.underlying77 hi0 hz0 hz1 _ _ _ _ (d.size + 1) rfl rfl (by simp) (by simp) (by rw [hz2]; omega) (by unfold maxLen; omega) (by omega) ?_)
  intro w1 hown hgrow
  have hR1 := BR.made hown
  have hK1 : K0 w w1 := Kp.of_grown hgrow (fun _ e => by cases e)
  have hc0 := hR1.cell 0 (by omega)
  have hf0 := hR1.fz 0
  have hR2 := hR1.set 0 true
  have hK2 := hK1.set (Nat.le_refl _) 0 (.bool true)
  have hg2 : (w1.setCell ⟨w.heap.size, 0, none⟩ (.bool true)).cell? ⟨gg, 0, none⟩ = some (.slice (some ⟨gp, 0, none⟩) P.length cap) := by
    rw [World.cell?_of_block (w := w) (hK2.heap hgl)]
    exact hg
  have HE := hide ((unhide HB).2.2.1 _ gp cap P xs ka d _ _ _ ((unhide HB).1.k0 hK2) hPl (unhide HB).2.1 hR2 (by omega))
  have HK := hide hK2
  clear hR1 hK1 hR2 hK2 hown hgrow hg
  go_wp2_with fail
  refine (unhide HE).mono ?_
  rintro e w3 ⟨g3, c3, f3, rfl, hR3, hV3, hK3, _, _⟩
  have HK3 := hide (And.intro ((unhide HK).trans hK3) (And.intro hR3 hV3))
  clear hR3 hV3 hK3 hc0 hf0 hg2
  go_wp2_with fail
  go_loopg [10, 11, 14] (d.size + 2) (fun gk nv av iv wv => ∃ m : Nat, iv = .int .i64 (m : Int) ∧ nv = .int .i64 (cnt q m : Int) ∧ av = .int .i64 (fstAt q m) ∧ m ≤ d.size + 1 ∧ d.size + 1 - m < gk ∧ K0 w wv ∧ BR wv g3 (d.size + 1) c3 f3)
  case atStart => exact ⟨0, rfl, rfl, rfl, Nat.zero_le _, by omega, (unhide HK3).1, (unhide HK3).2.1⟩
  case round =>
    obtain ⟨m, rfl, rfl, rfl, hm, hgk, hK, hR⟩ := hrel
    have hcb := cnt_le q m
    have hfb := fstAt_bd q m
    have hw1 : IntKind.i64.wrap ((m : Int) + 1) = (m : Int) + 1 := IntWalk.i64_in _ (by omega)
    have hw2 : IntKind.i64.wrap ((cnt q m : Int) + 1) = (cnt q m : Int) + 1 := IntWalk.i64_in _ (by omega)
    by_cases hlt : m ≤ d.size
    · have hd1 : (m : Int) ≤ (d.size : Int) := by omega
      have hm2 : (m : Int) < (d.size : Int) + 1 := by omega
      have cl := hR.cell m (by omega)
      have hgw : wr.cell? ⟨gg, 0, none⟩ = some (.slice (some ⟨gp, 0, none⟩) P.length cap) := by
        rw [World.cell?_of_block (w := w) (hK.heap hgl)]
        exact (unhide HB).2.2.2.2.2.2
      have HI := hide (gin (d := d.extract m d.size) hgw ((unhide HB).1.k0 hK) hPl (unhide HB).2.2.2.1 (unhide HB).2.2.2.2.1 (by simp; omega))
      have HRK := hide (And.intro hK hR)
      clear hK hR hgw
      have hqm : ∀ x : Bool, (x = true ↔ M tb (d.extract m d.size).data.toList) → (f3 m && x) = q m := by
        intro x hx
        have h1 := (unhide HK3).2.2 m (by simpa using hlt)
        have h2 : f3 m = true ↔ M ta (sub d.data.toList 0 m) := by
          rw [h1]
          constructor
          · rintro ⟨i, hi, hu, hm⟩
            have : i = 0 := by
              unfold upd at hu
              by_cases h : i = 0
              · exact h
              · rw [if_neg h] at hu; cases hu
            subst this
            exact hm
          · intro hm
            exact ⟨0, Nat.zero_le _, rfl, hm⟩
        have h3 : (d.extract m d.size).data.toList = sub d.data.toList m d.data.toList.length := by simp [sub, ByteArray.data_extract]
        rw [Bool.eq_iff_iff, Bool.and_eq_true, h2, hx, h3, (unhide HB).2.2.2.2.2.1 m]
      have HQ := hide hqm
      clear hqm
      cases hf : f3 m with
      | true =>
        rw [hf] at cl HQ
        clear hf
        go_wp2_with fail
        refine (unhide HI).mono ?_
        rintro e w4 ⟨x, rfl, hx, hK4⟩
        have hxq := unhide HQ x hx
        rw [Bool.true_and] at hxq
        have HN := hide (And.intro hxq (And.intro ((unhide HRK).1.trans hK4) ((unhide HRK).2.k0 hK4)))
        clear hx hK4 hxq HQ HI cl
        cases x with
        | true =>
          by_cases hneg : fstAt q m < 0
          · go_wp2_with fail
            go_roundg (gk - 1)
            case measure => omega
            case rel =>
              have hq1 := (unhide HN).1.symm
              exact ⟨m + 1, by go_num, by rw [cnt, hq1]; simp, by rw [fstAt, if_pos ⟨hq1, hneg⟩], by omega, by omega, (unhide HN).2.1, (unhide HN).2.2⟩
          · go_wp2_with fail
            go_roundg (gk - 1)
            case measure => omega
            case rel =>
              have hq1 := (unhide HN).1.symm
              exact ⟨m + 1, by go_num, by rw [cnt, hq1]; simp, by rw [fstAt, if_neg (fun h => by omega)], by omega, by omega, (unhide HN).2.1, (unhide HN).2.2⟩
        | false =>
          go_wp2_with fail
          go_roundg (gk - 1)
          case measure => omega
          case rel =>
            have hq1 := (unhide HN).1.symm
            exact ⟨m + 1, by go_num, by rw [cnt, hq1]; simp, by rw [fstAt, if_neg (fun h => by rw [hq1] at h; cases h.1)], by omega, by omega, (unhide HN).2.1, (unhide HN).2.2⟩
      | false =>
        rw [hf] at cl HQ
        clear hf
        have Hq0 : Hid (q m = false) := hide (by
          obtain ⟨x, hx⟩ : ∃ x : Bool, x = true ↔ M tb (d.extract m d.size).data.toList := by
            by_cases h : M tb (d.extract m d.size).data.toList
            · exact ⟨true, fun _ => h, fun _ => rfl⟩
            · exact ⟨false, fun e => (by cases e), fun e => absurd e h⟩
          have := unhide HQ x hx
          rw [Bool.false_and] at this
          exact this.symm)
        clear HQ HI
        go_wp2_with fail
        go_roundg (gk - 1)
        case measure => omega
        case rel =>
          have hq1 := unhide Hq0
          exact ⟨m + 1, by go_num, by rw [cnt, hq1]; simp, by rw [fstAt, if_neg (fun h => by rw [hq1] at h; cases h.1)], by omega, by omega, (unhide HRK).1, (unhide HRK).2⟩
    · obtain rfl : m = d.size + 1 := by omega
      have HKf := hide hK
      clear hK hR
      have hd1 : ¬ ((d.size : Int) + 1 ≤ (d.size : Int)) := by omega
      have hc0 : (0 : Int) ≤ (cnt q (d.size + 1) : Int) := by omega
      go_wp2_with fail
      all_goals
        go_ret2
        refine ⟨?_, unhide HKf⟩
        simp
        omega

end Go.Proofs.YtlljggefbngkeaaGreatDoor
