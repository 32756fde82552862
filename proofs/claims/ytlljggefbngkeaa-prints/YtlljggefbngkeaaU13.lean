import Derived.Test.YtlljggefbngkeaaU12
import Derived.BigRegion
namespace Go.Proofs.Ytlljggefbngkeaa
open Go.RowKit

theorem St.bd_out1 {st : St} {c : Int} (hd : st.bd c) (x : UInt8) : St.bd { st with out := st.out ++ ⟨#[x]⟩ } (c + 1) := by
  have e : (st.out ++ (⟨#[x]⟩ : ByteArray)).size = st.out.size + 1 := by rw [ByteArray.size_append]; rfl
  unfold St.bd at *
  simp only [e]
  omega

set_option maxRecDepth 100000 in
set_option maxHeartbeats 3200000 in
theorem lens_of {s : ByteArray} {b i0 : Nat} (hs : s.size ≤ 120) (hrow : RowSaid s b i0) : LensSaid s b i0 := by
  intro w Y st c h0 h hb hi hd hc hY hw n hn
  obtain ⟨n, rfl⟩ : ∃ m, n = m + 1 := ⟨n - 1, by omega⟩
  generalize hr : gRows s (n + 1) st.i = r
  rw [gRows_eq] at hr
  have hi1 := skipB_bd s st.i hi
  have HB := hide (BlanksG h hs hi hb)
  have HD := hide (And.intro hb (And.intro hd (And.intro hw (And.intro hrow hr))))
  clear h hb hd hw hrow hr
  go_enter Try.func9, Try.ntmps9
  go_wp2_with fail
  refine (unhide HB).mono ?_
  rintro e w1 ⟨rfl, hR1, hK1⟩
  go_wp2_with fail
  refine ((unhide HD).2.2.2.1 w1 Y _ c (by show i0 ≤ skipB s st.i; omega) hR1 (unhide HD).1 hi1.2 (St.bd_i (unhide HD).2.1 _ hi1.1) (by omega) (fun k hk => by have := hY k hk; have := hK1.size; omega) ⟨(unhide HD).2.2.1.1, by have := (unhide HD).2.2.1.2; show st.wn < ((skipB s st.i : Nat) : Int); omega⟩ n (by show 6 * (s.size - skipB s st.i) + 4 ≤ n; omega)).mono ?_
  rintro e w2 ⟨hK2, hP2⟩
  have hK12 := hK1.trans hK2
  replace hP2 : LsPost [32] Y b s _ c 14 e w2 (gItems s n (skipB s st.i)) := hP2
  have hr := (unhide HD).2.2.2.2
  have H0 : (∃ k : Nat, e = .returned (.int .i64 k)) ∧ ∀ k : Nat, e = .returned (.int .i64 k) → LoopL [32, 124, 32] w Y b s st c 18 r (fun m j => gRows s m (j + 1)) (fun j => decide (pk s j = 124)) 4 (s.size + 1) (.int .i64 k) w2 := by
    cases hg : gItems s n (skipB s st.i) with
    | err p =>
      rw [hg] at hP2 hr
      obtain ⟨hk, hB, hp⟩ := hP2
      have hp' : skipB s st.i ≤ p := hp
      exact ⟨hk, fun k _ => ⟨hK12, k, rfl, Or.inr ⟨p, hB.mono (by omega), by omega, hr.symm⟩⟩⟩
    | ok x j =>
      rw [hg] at hP2 hr
      obtain ⟨hj1, hj2, k, st1, rfl, hkl, hL1, hR1, hi1', hb1, ho1, hw1, hw1a, hw1b, hd1⟩ := hP2
      have hj1' : skipB s st.i < j := hj1
      refine ⟨⟨k, rfl⟩, fun k' hk' => ?_⟩
      obtain rfl : k = k' := by simp at hk'; omega
      refine ⟨hK12, k, rfl, Or.inl ⟨[joinRow x.1 x.2], [], j, n, st1, by simp, hR1, hkl, hL1, hi1', hb1, by rw [formL_one, form_joinRow]; exact ho1, by rw [dfltsL_one, dflts_joinRow]; exact hw1, hw1a, hw1b, hd1, by omega, hj2, by omega, by omega, ?_⟩⟩
      rw [← hr]
      simp only [Res.bind, List.nil_append, List.singleton_append, decide_eq_true_eq]
  obtain ⟨⟨k, rfl⟩, H0⟩ := H0
  have H1 := hide (H0 k rfl)
  clear H0 hP2 hr
  go_wp2_with fail
  go_loopg [3] (s.size + 1) (fun gk kv wv => LoopL [32, 124, 32] w Y b s st c 18 r (fun m j => gRows s m (j + 1)) (fun j => decide (pk s j = 124)) 4 gk kv wv)
  case atStart => exact unhide H1
  case round =>
    clear H1
    obtain ⟨hK, k, rfl, hcase⟩ := hrel
    rcases hcase with ⟨l, ps, j, m, st', hl, hR, hkl, hL, hij, hbj, hoj, hwj, hwa, hwb, hdj, hj1, hj2, hgk, hm, hr⟩ | ⟨p, hB, hp, hr⟩
    · have c2 : wr.cell? ⟨b, 2, none⟩ = some (.bool false) := by rw [hR.c2, hbj]
      have HP := hide (PeekGR hR hs hij hj2 hbj)
      by_cases h124 : pk s j = 124
      · simp only [h124, decide_true, if_true] at hr
        have hjs : j < s.size := pk_lt (by rw [h124]; decide)
        have hj5 := skipB_bd s (j + 1) hjs
        have hd3 := St.bd_out1 hdj 32
        have HT := hide (fun (W : World) (hW : RH W Y b s _) => TakeG (st := { st' with out := st'.out ++ ⟨#[32]⟩ }) 124 hW hs hij hjs (St.out_le (c := c - 9) hs (by omega) (by rw [hij]; exact hj2) (St.bd_mono hd3 (by omega))) hbj h124)
        have hd4 : St.bd { st' with i := j + 1, out := st'.out ++ ⟨#[32]⟩ ++ txt [124] } (c - 28) := by
          have := St.bd_took (st := { st' with out := st'.out ++ ⟨#[32]⟩ }) (d := c - 28) hd3 [124] 1 rfl (by omega) (by omega)
          rw [hij] at this
          exact this
        have hd5 := St.bd_out1 hd4 32
        have hos := St.out_le (c := c - 10) hs (by omega) (by rw [hij]; exact hj2) hdj
        have hos2 : (st'.out ++ ⟨#[32]⟩ ++ txt [124]).size ≤ 100000 := St.out_le (st := { st' with i := j + 1, out := st'.out ++ ⟨#[32]⟩ ++ txt [124] }) (c := c - 28) hs (by omega) hjs hd4
        obtain ⟨m, rfl⟩ : ∃ m', m = m' + 1 := ⟨m - 1, by omega⟩
        rw [gRows_eq] at hr
        rw [h124] at HP
        have HF := hide (And.intro hij (And.intro hbj (And.intro hoj (And.intro hwj (And.intro hd5 hr)))))
        clear h124 hij hbj hoj hwj hdj hr hd3 hd4 hd5
        go_wp2_with fail
        refine (unhide HP).mono ?_
        rintro e w2 ⟨rfl, hR2, hK2⟩
        have c1 : w2.cell? ⟨b, 1, none⟩ = some (.int .i64 (j : Nat)) := by rw [hR2.c1, (unhide HF).1]
        have c4 := hR2.c4
        have f4 := hR2.fz 4
        have hno : ¬ 9223372036854775807 < st'.out.size + 1 := by omega
        have hK12 := hK.trans hK2
        have hR3 := hR2.setOut (st'.out ++ ⟨#[32]⟩)
        have hK3 : Kp Y w2 (w2.setCell ⟨b, 4, none⟩ (.string (st'.out ++ ⟨#[32]⟩))) := Kp.set _ _ _ _ hR2.nb
        have HR3 := hide (And.intro hR3 hK3)
        clear hR3 hK3
        go_wp2_with fail
        have hK13 := hK12.trans (unhide HR3).2
        refine (unhide HT _ (unhide HR3).1).mono ?_
        rintro e w4 ⟨⟨x, rfl⟩, hR4, hK4⟩
        have hK14 := hK13.trans hK4
        have d4 : w4.cell? ⟨b, 4, none⟩ = some (.string (st'.out ++ ⟨#[32]⟩ ++ txt [124])) := hR4.c4
        have g4 := hR4.fz 4
        have hno2 : ¬ 9223372036854775807 < (st'.out ++ ⟨#[32]⟩ ++ txt [124]).size + 1 := by omega
        have hR5 := hR4.setOut (st'.out ++ ⟨#[32]⟩ ++ txt [124] ++ ⟨#[32]⟩)
        have hK5 : Kp Y w4 (w4.setCell ⟨b, 4, none⟩ (.string (st'.out ++ ⟨#[32]⟩ ++ txt [124] ++ ⟨#[32]⟩))) := Kp.set _ _ _ _ hR4.nb
        have HR5 := hide (And.intro hR5 hK5)
        clear hR5 hK5 c1 c4 f4 hno
        generalize hoo : st'.out ++ ⟨#[32]⟩ ++ txt [124] = oo at *
        have Hoo := hide hoo
        clear hoo
        go_wp2_with fail
        have hK15 := hK14.trans (unhide HR5).2
        refine (BlanksG (unhide HR5).1 hs hjs (unhide HF).2.1).mono ?_
        rintro e w6 ⟨rfl, hR6, hK6⟩
        have hK16 := hK15.trans hK6
        clear d4 g4 hno2
        go_wp2_with fail
        refine ((unhide HD).2.2.2.1 w6 Y _ (c - 27) (by show i0 ≤ skipB s (j + 1); omega) hR6 (unhide HF).2.1 hj5.2 (St.bd_mono (St.bd_i (unhide HF).2.2.2.2.1 _ hj5.1) (by omega)) (by omega) (fun k hk => by have := hY k hk; have := hK16.size; omega) ⟨hwa, by show st'.wn < ((skipB s (j + 1) : Nat) : Int); omega⟩ m (by show 6 * (s.size - skipB s (j + 1)) + 4 ≤ m; omega)).mono ?_
        rintro e w7 ⟨hK7, hP7⟩
        have hK17 := hK16.trans hK7
        replace hP7 : LsPost [32] Y b s _ (c - 27) 14 e w7 (gItems s m (skipB s (j + 1))) := hP7
        have hr := (unhide HF).2.2.2.2.2
        cases hg : gItems s m (skipB s (j + 1)) with
        | err p =>
          rw [hg] at hP7 hr
          obtain ⟨⟨kb, rfl⟩, hB, hp⟩ := hP7
          have hp' : skipB s (j + 1) ≤ p := hp
          have e2 := hB.c2
          have Hr := hide hr
          clear hg hr hp
          go_wp2_with fail
          go_roundg (s.size - j)
          case measure => exact hgk
          case rel => exact ⟨hK17, k, rfl, Or.inr ⟨p, hB.mono (by omega), by omega, unhide Hr⟩⟩
        | ok y j8 =>
          rw [hg] at hP7 hr
          obtain ⟨hj7, hj8, kb, st8, rfl, hkl8, hL8, hR8, hi8, hb8, ho8, hw8, hw8a, hw8b, hd8⟩ := hP7
          have hj7' : skipB s (j + 1) < j8 := hj7
          have hL8' : st'.L.length ≤ st8.L.length := hL8
          have e2 : w7.cell? ⟨b, 2, none⟩ = some (.bool false) := by rw [hR8.c2, hb8]
          simp only [Res.bind] at hr
          have hPl : st8.P.length ≤ 99999 := by have := hd8.2.1; rw [hi8] at this; omega
          have hLl : st8.L.length ≤ 100000 := by have := hd8.2.2; rw [hi8] at this; omega
          have hka : k < st8.L.length := by omega
          have HF8 := hide (And.intro hi8 (And.intro hb8 (And.intro ho8 (And.intro hw8 (And.intro hd8 hr)))))
          clear hg hr hj7 hi8 hb8 ho8 hw8 hd8
          go_wp2_with fail
          refine (Two 124 (by decide) k kb j st8.L[k] st8.L[kb] hR8 hPl hLl (fun k hk => by have := hY k hk; have := hK17.size; omega) (List.getElem?_eq_getElem hka) (List.getElem?_eq_getElem hkl8)).mono ?_
          rintro e w9 ⟨rfl, hR9, hK9⟩
          go_wp2_with fail
          go_roundg (s.size - j)
          case measure => exact hgk
          case rel =>
            refine ⟨hK17.trans hK9, st8.L.length, rfl, Or.inl ⟨l ++ [joinRow y.1 y.2], ps ++ [j], j8, m, _, by simp, hR9, by simp, by simp; omega, (unhide HF8).1, (unhide HF8).2.1, ?_, ?_, hw8a, hw8b, St.bd_two (unhide HF8).2.2.2.2.1 _ _ _ (by omega), by omega, hj8, by omega, by omega, ?_⟩⟩
            · show st8.out = _
              rw [(unhide HF8).2.2.1]
              show (oo ++ txt [32]) ++ _ = _
              rw [← unhide Hoo]
              show (st'.out ++ txt [32] ++ txt [124] ++ txt [32]) ++ _ = _
              rw [(unhide HF).2.2.1, formL_snoc s [32, 124, 32] l _ hl, form_joinRow]
              simp only [ByteArray.append_assoc, List.append_assoc, ← txt_app]
              rfl
            · rw [dfltsL_snoc, dflts_joinRow]; exact WnRel.app (unhide HF).2.2.2.1 (unhide HF8).2.2.2.1
            · rw [(unhide HF8).2.2.2.2.2]
              by_cases h5 : pk s j8 = 124
              · simp only [h5, decide_true, if_true, Res.map_map]
                simp
              · simp [h5, Res.map]
      · simp only [h124, decide_false, Bool.false_eq_true, if_false] at hr
        have q1 : (pk s j == 124) = false := by simpa using h124
        have HF := hide (And.intro hij (And.intro hbj (And.intro hoj (And.intro hwj (And.intro hdj hr)))))
        clear h124 hij hbj hoj hwj hdj hr
        generalize pk s j = a at *
        go_wp2_with fail
        refine (unhide HP).mono ?_
        rintro e w2 ⟨rfl, hR2, hK2⟩
        go_wp2
        go_ret
        refine ⟨hK.trans hK2, ?_⟩
        rw [(unhide HF).2.2.2.2.2]
        exact ⟨hj1, hj2, k, st', rfl, hkl, hL, hR2, (unhide HF).1, (unhide HF).2.1, (unhide HF).2.2.1, (unhide HF).2.2.2.1, hwa, hwb, (unhide HF).2.2.2.2.1⟩
    · have c2 := hB.c2
      have Hr := hide hr
      clear hr
      go_wp2
      go_ret
      refine ⟨hK, ?_⟩
      rw [unhide Hr]
      exact ⟨⟨k, rfl⟩, hB, hp⟩

theorem lensSaid (s : ByteArray) (b : Nat) (hs : s.size ≤ 120) : ∀ d i0, s.size + 1 - i0 ≤ d → LensSaid s b i0
  | 0, i0, h => by
    intro w Y st c h0 _ _ hi
    omega
  | d + 1, i0, h => lens_of hs (row_of hs (item_of hs (piece_of hs (lensSaid s b hs d (i0 + 1) (by omega)))))

end Go.Proofs.Ytlljggefbngkeaa

namespace Go.Proofs.Ytlljggefbngkeaa
open Go.RowKit

/-- what Parse answers -/
def ParsePost (w : World) (s : ByteArray) (e : Ending) (w' : World) : Prop :=
  K0 w w' ∧
  ((120 < s.size ∧ e = .returned (.tuple #[.pointer none, .int .i64 1, .int .i64 0])) ∨
   (s.size ≤ 120 ∧ match gRows s (6 * s.size + 5) 0 with
     | .err p => e = .returned (.tuple #[.pointer none, .int .i64 2, .int .i64 (p : Int)])
     | .ok x j => (j < s.size ∧ e = .returned (.tuple #[.pointer none, .int .i64 2, .int .i64 (j : Int)])) ∨
        (j = s.size ∧ ∃ o, FirstW (dfltsL x.1) o ∧ match o with
          | some a => e = .returned (.tuple #[.pointer none, .int .i64 3, .int .i64 (a : Int)])
          | none => ∃ g, e = .returned (.tuple #[.pointer (some ⟨g, 0, none⟩), .int .i64 0, .int .i64 0]) ∧ w'.cell? ⟨g, 3, none⟩ = some (.string (txt (formL s [32, 124, 32] x.1))))))

theorem RH.c5 {w : World} {Y : Nat → Prop} {b : Nat} {s : ByteArray} {st : St} (h : RH w Y b s st) : ∃ ao cp, w.cell? ⟨b, 5, none⟩ = some (.slice ao st.P.length cp) := by
  obtain ⟨pv, lv, xs, h⟩ := h
  obtain ⟨ao, cp, rfl⟩ := own_slice h.ownP
  exact ⟨ao, cp, by rw [cellOf h.blk]; rfl⟩

theorem K0.of_new {w w1 : World} {o : Obj} (h : Kp (fun k => k < w.heap.size) (w.alloc o) w1) : K0 w w1 := by
  have hs := h.size
  simp at hs
  refine ⟨h.os, h.tape, h.output, by omega, fun k hk _ => ?_⟩
  rw [h.block k (by simp; omega) hk, Below.heap_alloc _ _ _ hk]

set_option maxRecDepth 100000 in
set_option maxHeartbeats 1600000 in
theorem parse_long (s : ByteArray) (w : World) (hs : 120 < s.size) (hm : s.size ≤ maxLen) :
    Calls Try.prog 5 #[.string s] w fun e w' => ParsePost w s e w' := by
  unfold maxLen at hm
  have hsi : (120 : Int) < (s.size : Int) := by omega
  go_enter Try.func5, Try.ntmps5
  go_wp2
  go_ret3
  exact ⟨K0.refl _, Or.inl ⟨hs, rfl⟩⟩

set_option maxRecDepth 100000 in
set_option maxHeartbeats 3200000 in
theorem parse_short (s : ByteArray) (w : World) (hs : s.size ≤ 120) :
    Calls Try.prog 5 #[.string s] w fun e w' => ParsePost w s e w' := by
  have hsi : ¬ (120 : Int) < (s.size : Int) := by omega
  have h0 : RH (w.alloc (rblk s 0 false (-1) ⟨#[]⟩ (.slice none 0 0) (.slice none 0 0))) (fun k => k < w.heap.size) w.heap.size s ⟨0, false, -1, ⟨#[]⟩, [], []⟩ := by
    refine ⟨.slice none 0 0, .slice none 0 0, [], ?_⟩
    exact {
      blk := heap_alloc_new w _
      ownP := World.ownsRow_nil _ _ _ _
      ownL := World.ownsRow_nil _ _ _ _
      subs := fun j p hp => by simp at hp
      nb := Nat.lt_irrefl _
      np := fun k hk => by cases hk
      nl := fun k hk => by cases hk }
  have HL := hide (lensSaid s w.heap.size hs (s.size + 1) 0 (by omega) _ (fun k => k < w.heap.size) _ 100 (Nat.zero_le _) h0 rfl (Nat.zero_le _) (by refine ⟨?_, ?_, ?_⟩ <;> decide) (by omega) (fun k hk => by simp; omega) (by simp) (6 * s.size + 5) (by simp))
  clear h0
  go_enter Try.func5, Try.ntmps5
  go_wp2_with fail
  refine (unhide HL).mono ?_
  rintro e w1 ⟨hK1, hP1⟩
  replace hP1 : LsPost [32, 124, 32] _ w.heap.size s _ 100 18 e w1 (gRows s (6 * s.size + 5) 0) := hP1
  have hK := K0.of_new hK1
  cases hg : gRows s (6 * s.size + 5) 0 with
  | err p =>
    rw [hg] at hP1
    obtain ⟨⟨k, rfl⟩, hB, _⟩ := hP1
    have c1 := hB.c1
    have c2 := hB.c2
    have Hg := hide hg
    clear hg hK1
    go_wp2_with fail
    go_quiet (fail)
    go_wp2
    go_ret3
    refine ⟨hK.drewN _, Or.inr ⟨hs, ?_⟩⟩
    rw [unhide Hg]
    rfl
  | ok x j =>
    rw [hg] at hP1
    obtain ⟨_, hj2, k, st1, rfl, hkl, _, hR1, hi1, hb1, ho1, hw1, hw1a, hw1b, hd1⟩ := hP1
    have c1 : w1.cell? ⟨w.heap.size, 1, none⟩ = some (.int .i64 (j : Nat)) := by rw [hR1.c1, hi1]
    have c2 : w1.cell? ⟨w.heap.size, 2, none⟩ = some (.bool false) := by rw [hR1.c2, hb1]
    have c3 := hR1.c3
    have c4 : w1.cell? ⟨w.heap.size, 4, none⟩ = some (.string (txt (formL s [32, 124, 32] x.1))) := by
      rw [hR1.c4, ho1]
      congr 2
    have Hg := hide (And.intro hg (And.intro hw1 (And.intro hb1 (And.intro hi1 hd1))))
    clear hg hK1 hw1 hb1 hi1 hd1 ho1
    by_cases hjs : j < s.size
    · have q1 : decide ((j : Int) < (s.size : Int)) = true := by simp; omega
      go_wp2_with fail
      go_quiet (fail)
      go_wp2
      go_ret3
      refine ⟨hK.drewN _, Or.inr ⟨hs, ?_⟩⟩
      rw [(unhide Hg).1]
      exact Or.inl ⟨hjs, rfl⟩
    · have q1 : decide ((j : Int) < (s.size : Int)) = false := by simp; omega
      obtain rfl : j = s.size := by omega
      obtain ⟨_, o, ho, hwo⟩ := (unhide Hg).2.1.1 (by show (-1 : Int) < 0; decide)
      cases o with
      | some a =>
        have hwo' : st1.wn = (a : Int) := hwo
        rw [hwo'] at c3
        have Ho := hide ho
        have q2 : decide ((0 : Int) ≤ (a : Int)) = true := by simp
        clear ho hwo hwo' hw1a hw1b
        go_wp2_with fail
        go_quiet (fail)
        go_wp2
        go_ret3
        refine ⟨hK.drewN _, Or.inr ⟨hs, ?_⟩⟩
        rw [(unhide Hg).1]
        exact Or.inr ⟨rfl, some a, unhide Ho, rfl⟩
      | none =>
        have hwo' : st1.wn = -1 := hwo
        rw [hwo'] at c3
        have Ho := hide ho
        clear ho hwo hwo' hw1a hw1b
        obtain ⟨a5, p5, c5⟩ := hR1.c5
        obtain ⟨gl, cap2, c6, _, _⟩ := hR1.lensAt hkl
        have hbl := hR1.lt
        go_wp2_with fail
        go_region
        go_wp2
        go_ret3
        refine ⟨(K0.trans hK (Kp.alloc _ _ _)).drew, Or.inr ⟨hs, ?_⟩⟩
        rw [(unhide Hg).1]
        exact Or.inr ⟨rfl, none, unhide Ho, w1.heap.size, rfl, by simp⟩

end Go.Proofs.Ytlljggefbngkeaa
