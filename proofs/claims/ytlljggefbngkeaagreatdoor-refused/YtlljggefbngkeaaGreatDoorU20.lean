import Derived.Test.YtlljggefbngkeaaGreatDoorU19
import Derived.Test.YtlljggefbngkeaaGreatDoorU12
import Derived.BigRegion
namespace Go.Proofs.YtlljggefbngkeaaGreatDoor
open Go.RowKit

/-- a text in quotes -/
def QtPost (b : Nat) (s : ByteArray) (w : World) (a : Nat) (e : Ending) (w' : World) : Res (List UInt8) → Prop
  | .ok l j => j ≤ s.size ∧ w.grownBy w' (some b) ∧ w'.heap[b]? = some (sblk s j) ∧ e = .returned (.tuple #[.string (txt l), .int .i64 (a : Int), .bool true])
  | .err p => p ≤ s.size ∧ w.grownBy w' (some b) ∧ w'.heap[b]? = some (sblk s p) ∧ ∃ x y, e = .returned (.tuple #[.string x, .int .i64 y, .bool false])

theorem sset {w : World} {b : Nat} {s : ByteArray} {i : Nat} (h : w.heap[b]? = some (sblk s i)) (j : Nat) : (w.setCell ⟨b, 1, none⟩ (.int .i64 (j : Int))).heap[b]? = some (sblk s j) := by
  have := heap_set h 1 (.int .i64 (j : Int))
  simpa [sblk] using this

set_option maxRecDepth 100000 in
set_option maxHeartbeats 1600000 in
theorem squoted {w : World} {b : Nat} {s : ByteArray} {i : Nat} (h : w.heap[b]? = some (sblk s i)) (hs : s.size ≤ 120) (hi : i ≤ s.size) :
    Calls Tryz.prog 196 #[.pointer (some ⟨b, 0, none⟩)] w fun e w' => QtPost b s w (skipB s i) e w' (gQuoted s (skipB s i)) := by
  have hbd := (skipB_bd s i hi).2
  by_cases h34 : pk s (skipB s i) = 34
  · have hlt : skipB s i < s.size := pk_lt (by rw [h34]; decide)
    have HT := hide (stake_ok 34 (by decide) (by decide) h hs hi ((pe_eq (by decide)).2 h34))
    have HR : Hid (gQuoted s (skipB s i) = if pk s (signsE s (skipB s i + 1)) = 34 then .ok (sub s.data.toList (skipB s i + 1) (signsE s (skipB s i + 1))) (signsE s (skipB s i + 1) + 1) else .err (signsE s (skipB s i + 1))) := by
      show _ = _
      rw [gQuoted, if_pos h34]
    rw [unhide HR]
    clear HR h h34
    generalize skipB s i = a at *
    generalize hen : signsE s (a + 1) = en
    have Hen := hide hen
    clear hen
    generalize hrr : (if pk s en = 34 then Res.ok (sub s.data.toList (a + 1) en) (en + 1) else Res.err en) = rr
    have HRR := hide hrr
    clear hrr
    go_enter Tryz.func196, Tryz.ntmps196
    go_wp2_with fail
    refine (unhide HT).mono ?_
    rintro e w1 ⟨rfl, h1, g1⟩
    have c1 := cellOf h1 1
    simp at c1
    have HB := hide (And.intro h1 g1)
    clear h1 g1
    go_wp2_with fail
    go_loopg [14] (s.size - a) (fun k _ wv => ∃ j, a + 1 ≤ j ∧ j ≤ s.size ∧ s.size - j ≤ k ∧ signsE s j = en ∧ wv.heap[b]? = some (sblk s j) ∧ w.grownBy wv (some b))
    case atStart => exact ⟨a + 1, Nat.le_refl _, hlt, by omega, unhide Hen, (unhide HB).1, (unhide HB).2⟩
    case round =>
      obtain ⟨j, haj, hj, hk, hsk, hb, hg⟩ := hrel
      have HI := hide (And.intro hk (And.intro hsk (And.intro hb hg)))
      have c0 := cellOf hb 0
      have d1 := cellOf hb 1
      have fz := frozenOf hb 1
      clear hk hsk hb hg c1
      simp at c0 d1
      by_cases hlt2 : j < s.size
      · have hd : (j : Int) < (s.size : Int) := by omega
        have hpk : pk s j = (s[j].toNat : Int) := by simp [pk, hlt2]
        have hpb : 0 ≤ (s[j].toNat : Int) ∧ (s[j].toNat : Int) ≤ 255 := by rw [← hpk]; exact pk_bd s j
        have HC := hide (fun W : World => isSign_any (s[j].toNat : Int) hpb.1 hpb.2 W)
        cases hsg : signI (pk s j) with
        | true =>
          have HS : Hid (signI (s[j].toNat : Int) = true) := by rw [← hpk]; exact hsg
          rw [unhide HS] at HC
          have Hsg := hide hsg
          clear hpk hsg HS hpb
          go_wp2_with fail
          go_quiet (first | (go_at_call 201; refine Calls.quiet_of_same (unhide HC _)))
          go_wp2_with fail
          go_roundg (gk - 1)
          case measure => have := (unhide HI).1; omega
          case rel =>
            obtain ⟨hk, hsk, hb, hg⟩ := unhide HI
            refine ⟨j + 1, by omega, by omega, by omega, ?_, ?_, ?_⟩
            · rw [← hsk, signsE_step s j hlt2 (unhide Hsg)]
            · have h1 := sset (w := wr.drewN nq) hb (j + 1)
              simpa using h1
            · exact (hg.trans (grown_drewN' _ nq _)).trans (grown_set _ _ _ _)
        | false =>
          have HS : Hid (signI (s[j].toNat : Int) = false) := by rw [← hpk]; exact hsg
          rw [unhide HS] at HC
          have hen : en = j := by rw [← (unhide HI).2.1]; exact signsE_stop s j hsg
          clear hpk hsg HS hpb
          subst hen
          go_wp2_with fail
          go_quiet (first | (go_at_call 201; refine Calls.quiet_of_same (unhide HC _)))
          have hb1 : (a : Int) + 1 ≤ (en : Int) := by omega
          have hb2 : (en : Int) ≤ (s.size : Int) := by omega
          go_wp2_with fail
          go_quiet (fail)
          by_cases h34 : pk s en = 34
          · have hel : en < s.size := pk_lt (by rw [h34]; decide)
            have HCl := hide (fun n => sclose_ok (w := wr.drewN n) 34 (by decide) (unhide HI).2.2.1 hs hj ((pe_eq (by decide)).2 h34))
            have H34 := hide h34
            clear h34
            go_wp2_with fail
            refine (unhide HCl _).mono ?_
            rintro e w5 ⟨rfl, h5, g5⟩
            go_wp2
            go_ret3
            rw [← unhide HRR, if_pos (unhide H34)]
            refine ⟨hel, ((unhide HI).2.2.2.trans (grown_drewN' _ _ _)).trans g5, h5, ?_⟩
            rw [txt_sub]
            simp
          · have HCl := hide (fun n => sclose_no (w := wr.drewN n) 34 (unhide HI).2.2.1 hs hj (fun e => h34 ((pe_eq (by decide)).1 e)))
            have H34 := hide h34
            clear h34
            go_wp2_with fail
            refine (unhide HCl _).mono ?_
            rintro e w5 ⟨rfl, n5, rfl⟩
            go_wp2
            go_ret3
            rw [← unhide HRR, if_neg (unhide H34)]
            exact ⟨hj, (unhide HI).2.2.2.trans (grown_drewN' _ _ _), (unhide HI).2.2.1, _, _, rfl⟩
      · have hd : decide ((j : Int) < (s.size : Int)) = false := by simp; omega
        have hen : en = j := by rw [← (unhide HI).2.1]; exact signsE_stop s j (by simp [pk, hlt2]; rfl)
        subst hen
        go_wp2_with fail
        go_quiet (fail)
        have hb1 : (a : Int) + 1 ≤ (en : Int) := by omega
        have hb2 : (en : Int) ≤ (s.size : Int) := by omega
        go_wp2_with fail
        go_quiet (fail)
        by_cases h34 : pk s en = 34
        · have hel : en < s.size := pk_lt (by rw [h34]; decide)
          have HCl := hide (fun n => sclose_ok (w := wr.drewN n) 34 (by decide) (unhide HI).2.2.1 hs hj ((pe_eq (by decide)).2 h34))
          have H34 := hide h34
          clear h34
          go_wp2_with fail
          refine (unhide HCl _).mono ?_
          rintro e w5 ⟨rfl, h5, g5⟩
          go_wp2
          go_ret3
          rw [← unhide HRR, if_pos (unhide H34)]
          refine ⟨hel, ((unhide HI).2.2.2.trans (grown_drewN' _ _ _)).trans g5, h5, ?_⟩
          rw [txt_sub]
          simp
        · have HCl := hide (fun n => sclose_no (w := wr.drewN n) 34 (unhide HI).2.2.1 hs hj (fun e => h34 ((pe_eq (by decide)).1 e)))
          have H34 := hide h34
          clear h34
          go_wp2_with fail
          refine (unhide HCl _).mono ?_
          rintro e w5 ⟨rfl, n5, rfl⟩
          go_wp2
          go_ret3
          rw [← unhide HRR, if_neg (unhide H34)]
          exact ⟨hj, (unhide HI).2.2.2.trans (grown_drewN' _ _ _), (unhide HI).2.2.1, _, _, rfl⟩
  · have HT := hide (stake_no 34 (by decide) (by decide) h hs hi (fun e => h34 ((pe_eq (by decide)).1 e)))
    have HR : Hid (gQuoted s (skipB s i) = .err (skipB s i)) := by
      show _ = _
      rw [gQuoted, if_neg h34]
    clear h h34
    go_enter Tryz.func196, Tryz.ntmps196
    go_wp2_with fail
    refine (unhide HT).mono ?_
    rintro e w1 ⟨rfl, h1, g1⟩
    go_wp2
    go_ret3
    rw [unhide HR]
    exact ⟨hbd, g1, h1, _, _, rfl⟩

end Go.Proofs.YtlljggefbngkeaaGreatDoor

namespace Go.Proofs.YtlljggefbngkeaaGreatDoor
open Go.RowKit

/-- what stands behind a pattern that is seen as one text -/
def gFixed (s : ByteArray) (l : List PT) (i0 j0 i : Nat) : Res LT :=
  (gQuoted s (skipB s i)).bind fun v k => (gQuoted s (skipB s k)).bind fun d m => .ok (.fixed l i0 j0 v d (skipB s k)) m

theorem lblk_fixed {w : World} {g p : Nat} {wr vw df : ByteArray} {at_ : Nat} (h : w.heap[g]? = some (lblk 0 (.slice none 0 0) (.slice none 0 0) (.pointer (some ⟨p, 0, none⟩)) wr ⟨#[]⟩ ⟨#[]⟩ 0)) :
    ((((w.setCell ⟨g, 0, none⟩ (.int .i64 1)).setCell ⟨g, 5, none⟩ (.string vw)).setCell ⟨g, 6, none⟩ (.string df)).setCell ⟨g, 7, none⟩ (.int .i64 (at_ : Int))).heap[g]? = some (lblk 1 (.slice none 0 0) (.slice none 0 0) (.pointer (some ⟨p, 0, none⟩)) wr vw df at_) := by
  have h1 := heap_set h 0 (.int .i64 1)
  have h2 := heap_set h1 5 (.string vw)
  have h3 := heap_set h2 6 (.string df)
  have h4 := heap_set h3 7 (.int .i64 (at_ : Int))
  simpa [lblk] using h4

set_option maxRecDepth 100000 in
set_option maxHeartbeats 1600000 in
theorem sfixed {w0 w : World} {b g p : Nat} {s : ByteArray} {i i0 j0 : Nat} {l : List PT} (hg0 : w0.grownBy w (some b)) (hb0 : b < w0.heap.size) (hgp : w0.heap.size ≤ g) (h : w.heap[b]? = some (sblk s i)) (hs : s.size ≤ 120) (hi : i ≤ s.size)
    (hp : w.heap[g]? = some (lblk 0 (.slice none 0 0) (.slice none 0 0) (.pointer (some ⟨p, 0, none⟩)) (s.extract i0 j0) ⟨#[]⟩ ⟨#[]⟩ 0)) (hT : TR w (fun k => k < w0.heap.size ∨ k = g) (nf (.alt l)) p) :
    Calls Tryz.prog 189 #[.pointer (some ⟨b, 0, none⟩), .pointer (some ⟨g, 0, none⟩)] w fun e w' => SPost b s w0 e w' (gFixed s l i0 j0 i) := by
  have HQ := hide (squoted h hs hi)
  have HP := hide (And.intro hg0 (And.intro hp hT))
  generalize hrr : gFixed s l i0 j0 i = rr
  unfold gFixed at hrr
  clear h hg0 hp hT
  go_enter Tryz.func189, Tryz.ntmps189
  go_wp2_with fail
  refine (unhide HQ).mono ?_
  rintro e w1 hP1
  cases hq : gQuoted s (skipB s i) with
  | err p1 =>
    rw [hq] at hP1 hrr
    obtain ⟨h1, h2, h3, x, y, rfl⟩ := hP1
    have HR := hide hrr
    clear hrr hq HQ
    go_wp2
    go_ret
    rw [← unhide HR]
    exact ⟨h1, (unhide HP).1.trans h2, h3, rfl⟩
  | ok v k =>
    rw [hq] at hP1 hrr
    obtain ⟨h1, h2, h3, rfl⟩ := hP1
    simp only [Res.bind] at hrr
    have HQ2 := hide (squoted h3 hs h1)
    have HW1 := hide h2
    clear hq HQ h2 h3
    go_wp2_with fail
    refine (unhide HQ2).mono ?_
    rintro e w2 hP2
    cases hq : gQuoted s (skipB s k) with
    | err p1 =>
      rw [hq] at hP2 hrr
      obtain ⟨h1, h2, h3, x, y, rfl⟩ := hP2
      have HR := hide hrr
      clear hrr hq HQ2
      go_wp2
      go_ret
      rw [← unhide HR]
      exact ⟨h1, ((unhide HP).1.trans (unhide HW1)).trans h2, h3, rfl⟩
    | ok d m =>
      rw [hq] at hP2 hrr
      obtain ⟨h1, h2, h3, rfl⟩ := hP2
      simp only at hrr
      have hg12 := (unhide HW1).trans h2
      have hp2 : w2.heap[g]? = some (lblk 0 (.slice none 0 0) (.slice none 0 0) (.pointer (some ⟨p, 0, none⟩)) (s.extract i0 j0) ⟨#[]⟩ ⟨#[]⟩ 0) := (grown_heap hg12 g (heap_lt (unhide HP).2.1) (by omega)).trans (unhide HP).2.1
      have HR := hide hrr
      have HW2 := hide (And.intro h3 (And.intro hg12 hp2))
      have c0 := cellOf hp2 0
      have c5 := cellOf hp2 5
      have c6 := cellOf hp2 6
      have c7 := cellOf hp2 7
      simp at c0 c5 c6 c7
      have f0 := frozenOf hp2 0
      have f5 := frozenOf hp2 5
      have f6 := frozenOf hp2 6
      have f7 := frozenOf hp2 7
      clear hrr hq HQ2 h2 h3 hp2 hg12
      go_wp2
      go_ret
      rw [← unhide HR]
      obtain ⟨h3, hg12, hp2⟩ := unhide HW2
      obtain ⟨hg0, hp, hT⟩ := unhide HP
      have k1 := lblk_fixed (vw := txt v) (df := txt d) (at_ := skipB s k) hp2
      have hset : w2.grownBy ((((w2.setCell ⟨g, 0, none⟩ (.int .i64 1)).setCell ⟨g, 5, none⟩ (.string (txt v))).setCell ⟨g, 6, none⟩ (.string (txt d))).setCell ⟨g, 7, none⟩ (.int .i64 ((skipB s k : Nat) : Int))) (some g) :=
        (((grown_set _ _ _ _).trans (grown_set _ _ _ _)).trans (grown_set _ _ _ _)).trans (grown_set _ _ _ _)
      refine ⟨h1, (hg0.trans hg12).andThen hset (fun k e => Or.inl (by cases e; exact hgp)), (grown_heap hset b (heap_lt h3) (by omega)).trans h3, g, rfl, ?_⟩
      rw [LR]
      refine ⟨by omega, p, k1, ?_⟩
      refine TR.reY (fun k _ hk => Or.inl hk) (TR.kept (fun k hk hz => ?_) hT)
      rw [grown_heap hset k (Nat.lt_of_lt_of_le hk hg12.size) (fun e => hz (Or.inr e))]
      exact grown_heap hg12 k hk (fun e => hz (Or.inl (by omega)))

end Go.Proofs.YtlljggefbngkeaaGreatDoor

namespace Go.Proofs.YtlljggefbngkeaaGreatDoor
open Go.RowKit

theorem SPost.ptr {b : Nat} {s : ByteArray} {w w' : World} {e : Ending} {r : Res LT} (h : SPost b s w e w' r) : ∃ a, e = .returned (.pointer a) := by
  cases r with
  | ok t j => obtain ⟨_, _, _, g, he, _⟩ := h; exact ⟨_, he⟩
  | err p => exact ⟨_, h.2.2.2⟩

theorem gPlain_eq (s : ByteArray) (n i : Nat) : gPlain s n i = (gAlts s n (i + 1)).bind fun l j => if pk s j = 47 then (if pk s (skipB s (j + 1)) = 34 then gFixed s l i (j + 1) (j + 1) else .ok (.same l i (j + 1)) (skipB s (j + 1))) else .err j := rfl

set_option maxRecDepth 100000 in
set_option maxHeartbeats 3200000 in
theorem spattern {w : World} {b : Nat} {s : ByteArray} {i : Nat} (h : w.heap[b]? = some (sblk s (i + 1))) (hs : s.size ≤ 120) (hi : i + 1 ≤ s.size) :
    Calls Tryz.prog 175 #[.pointer (some ⟨b, 0, none⟩)] w fun e w' => SPost b s w e w' (gPlain s (4 * s.size + 4) i) := by
  have HR := hide (fun W : World => qread (w := W) hs hi (4 * s.size + 4) (by omega))
  have c0 := cellOf h 0
  have c1 := cellOf h 1
  have f1 := frozenOf h 1
  simp at c0 c1
  have hbl := heap_lt h
  have HB := hide h
  generalize hrr : gPlain s (4 * s.size + 4) i = rr
  rw [gPlain_eq] at hrr
  clear h
  cases hg : gAlts s (4 * s.size + 4) (i + 1) with
  | err p =>
    rw [hg] at HR hrr
    have HRR := hide hrr
    clear hg hrr
    go_enter Tryz.func175, Tryz.ntmps175
    go_wp2_with fail
    go_region_law (go_simp; go_at_call 187; refine (unhide HR _).mono ?_; rintro e w1 ⟨hp, hg1, rfl⟩; have hb1 := (hg1.block b hbl (by simp)).trans (unhide HB); have c11 := cellOf hb1 1; simp at c11; have f11 := frozenOf hb1 1)
    all_goals
      go_wp2
      go_ret
      rw [← unhide HRR]
      refine ⟨hp, ((grown_drew' w (some b)).andThen hg1 (fun k e => by cases e)).trans (grown_set _ _ _ _), sset hb1 p, rfl⟩
  | ok l j =>
    rw [hg] at HR hrr
    have hlt := (g_lt s _).2.2 _ _ _ hg
    simp only [Res.bind] at hrr
    clear hg
    go_enter Tryz.func175, Tryz.ntmps175
    go_wp2_with fail
    go_region_law (go_simp; go_at_call 187; refine (unhide HR _).mono ?_; rintro e w1 ⟨hj, hg1, p, rfl, hT1⟩; have hb1 := (hg1.block b hbl (by simp)).trans (unhide HB); have c11 := cellOf hb1 1; simp at c11; have f11 := frozenOf hb1 1)
    all_goals
      have hb2 := sset hb1 j
      have hg2 : w.grownBy (w1.setCell ⟨b, 1, none⟩ (.int .i64 (j : Int))) (some b) := ((grown_drew' w (some b)).andThen hg1 (fun k e => by cases e)).trans (grown_set _ _ _ _)
      have hT2 : TR (w1.setCell ⟨b, 1, none⟩ (.int .i64 (j : Int))) (fun k => k < w.heap.size) (nf (.alt l)) p := TR.kept (fun k hk hz => Below.heap_setCell _ _ _ _ (fun e => hz (by show k < w.heap.size; simp at e; omega))) hT1
      by_cases h47 : pk s j = 47
      · have hjl : j < s.size := pk_lt (by rw [h47]; decide)
        have HCl := hide (sclose_ok 47 (by decide) hb2 hs hj ((pe_eq (by decide)).2 h47))
        rw [if_pos h47] at hrr
        have HG := hide (And.intro hg2 hT2)
        clear h47 hb2 hg2 hT2 hT1 hg1 hb1
        go_wp2_with fail
        refine (unhide HCl).mono ?_
        rintro e w3 ⟨rfl, hb3, hg3⟩
        have d0 := cellOf hb3 0
        have d1 := cellOf hb3 1
        simp at d0 d1
        have HB3 := hide (And.intro hb3 hg3)
        clear hb3 hg3
        have hb1 : (i : Int) ≤ (j : Int) + 1 := by omega
        have hb2 : (j : Int) + 1 ≤ (s.size : Int) := by omega
        have hb4 : (w3.alloc (lblk 0 (.slice none 0 0) (.slice none 0 0) (.pointer (some ⟨p, 0, none⟩)) (s.extract i (j + 1)) ⟨#[]⟩ ⟨#[]⟩ 0)).drew.heap[b]? = some (sblk s (j + 1)) := heap_alloc_old _ (unhide HB3).1
        have hg4 : w.grownBy (w3.alloc (lblk 0 (.slice none 0 0) (.slice none 0 0) (.pointer (some ⟨p, 0, none⟩)) (s.extract i (j + 1)) ⟨#[]⟩ ⟨#[]⟩ 0)).drew (some b) := (((unhide HG).1.trans (unhide HB3).2).trans (World.grownBy_alloc _ _ _)).trans (grown_drew' _ _)
        have hT4 : TR (w3.alloc (lblk 0 (.slice none 0 0) (.slice none 0 0) (.pointer (some ⟨p, 0, none⟩)) (s.extract i (j + 1)) ⟨#[]⟩ ⟨#[]⟩ 0)).drew (fun k => k < w.heap.size ∨ k = w3.heap.size) (nf (.alt l)) p := by
          have hs3 := (unhide HB3).2.size
          refine TR.kept (fun k hk hz => ?_) (TR.reY (Z := fun k => k < w.heap.size ∨ k = w3.heap.size) (fun k hk hz => hz.elim id (fun e => by omega)) (unhide HG).2)
          exact (Below.heap_alloc w3 _ k (Nat.lt_of_lt_of_le hk hs3)).trans (grown_heap (unhide HB3).2 k hk (fun e => hz (Or.inl (by omega))))
        have hp4 : (w3.alloc (lblk 0 (.slice none 0 0) (.slice none 0 0) (.pointer (some ⟨p, 0, none⟩)) (s.extract i (j + 1)) ⟨#[]⟩ ⟨#[]⟩ 0)).drew.heap[w3.heap.size]? = some (lblk 0 (.slice none 0 0) (.slice none 0 0) (.pointer (some ⟨p, 0, none⟩)) (s.extract i (j + 1)) ⟨#[]⟩ ⟨#[]⟩ 0) := heap_alloc_new w3 _
        have hws : w.heap.size ≤ w3.heap.size := Nat.le_trans (unhide HG).1.size (unhide HB3).2.size
        have HPk := hide (speek hb4 hs hjl)
        have H4 := hide (And.intro hg4 (And.intro hT4 hp4))
        have hsk := (skipB_bd s (j + 1) hjl).2
        have Hid1 := hide (skipB_idem s (j + 1) hjl)
        clear hb4 hg4 hT4 hp4 HB3 HG HCl
        by_cases h34 : pk s (skipB s (j + 1)) = 34
        · have hq : (pe s (skipB s (j + 1)) == 34) = true := by rw [beq_iff_eq]; exact (pe_eq (by decide)).2 h34
          rw [if_pos h34] at hrr
          have HRR := hide hrr
          clear h34 hrr
          generalize pe s (skipB s (j + 1)) = a at *
          generalize hske : skipB s (j + 1) = sk at *
          have Hsk := hide hske
          clear hske
          go_wp2_with fail
          go_region
          all_goals
            go_wp2_with fail
            refine (unhide HPk).mono ?_
            rintro e w5 ⟨rfl, hb5, hg5⟩
            obtain ⟨hg4, hT4, hp4⟩ := unhide H4
            have HF := hide (sfixed (hg4.trans hg5) hbl hws hb5 hs hsk ((grown_heap hg5 _ (heap_lt hp4) (by omega)).trans hp4) (TR.kept (fun k hk hz => grown_heap hg5 k hk (fun e => hz (Or.inl (by omega)))) hT4))
            clear hg4 hT4 hp4 hb5 hg5
            go_wp2_with fail
            refine (unhide HF).mono ?_
            rintro e w6 hP6
            obtain ⟨a6, rfl⟩ := hP6.ptr
            have HP6 := hide hP6
            clear hP6
            go_wp2
            go_ret
            rw [← unhide HRR]
            have hx := unhide HP6
            unfold gFixed at hx ⊢
            rw [unhide Hid1] at hx
            rw [unhide Hsk]
            exact hx
        · have hq : (pe s (skipB s (j + 1)) == 34) = false := by rw [beq_eq_false_iff_ne]; exact fun e => h34 ((pe_eq (by decide)).1 e)
          rw [if_neg h34] at hrr
          have HRR := hide hrr
          clear h34 hrr
          generalize pe s (skipB s (j + 1)) = a at *
          generalize skipB s (j + 1) = sk at *
          go_wp2_with fail
          go_region
          all_goals
            go_wp2_with fail
            refine (unhide HPk).mono ?_
            rintro e w5 ⟨rfl, hb5, hg5⟩
            go_wp2
            go_ret
            rw [← unhide HRR]
            obtain ⟨hg4, hT4, hp4⟩ := unhide H4
            refine ⟨hsk, hg4.trans hg5, hb5, w3.heap.size, rfl, ?_⟩
            rw [LR]
            exact ⟨by omega, p, (grown_heap hg5 _ (heap_lt hp4) (by omega)).trans hp4, TR.reY (fun k _ hk => Or.inl hk) (TR.kept (fun k hk hz => grown_heap hg5 k hk (fun e => hz (Or.inl (by omega)))) hT4)⟩
      · have HCl := hide (sclose_no 47 hb2 hs hj (fun e => h47 ((pe_eq (by decide)).1 e)))
        rw [if_neg h47] at hrr
        have HG := hide (And.intro hb2 hg2)
        have HRR := hide hrr
        clear h47 hb2 hg2 hT2 hT1 hg1 hb1 hrr
        go_wp2_with fail
        refine (unhide HCl).mono ?_
        rintro e w3 ⟨rfl, n3, rfl⟩
        go_wp2
        go_ret
        rw [← unhide HRR]
        exact ⟨hj, (unhide HG).2.trans (grown_drewN' _ _ _), (unhide HG).1, rfl⟩

end Go.Proofs.YtlljggefbngkeaaGreatDoor

namespace Go.Proofs.YtlljggefbngkeaaGreatDoor
open Go.RowKit

def SLensSaid (s : ByteArray) (b i0 : Nat) : Prop :=
  ∀ (w : World) (i : Nat), i0 ≤ i → w.heap[b]? = some (sblk s i) → i ≤ s.size → ∀ n, 4 * (s.size - i) + 4 ≤ n →
    Calls Tryz.prog 80 #[.pointer (some ⟨b, 0, none⟩)] w fun e w' => SPost b s w e w' ((gRows s n i).map fun x => joinAlt x.1 x.2)

theorem gItem_skip (s : ByteArray) (hle : ∀ i t j, ∀ n, gPiece s n i = .ok t j → j ≤ s.size) (n i : Nat) (t : LT) (j : Nat) (h : gItem s n i = .ok t j) : skipB s j = j := by
  cases n with
  | zero => rw [gItem] at h; cases h
  | succ n =>
    rw [gItem] at h
    cases hp : gPiece s n i with
    | err p => rw [hp] at h; cases h
    | ok t' j' =>
      rw [hp] at h
      simp only [Res.bind] at h
      have hj' := hle _ _ _ _ hp
      have := skipB_bd s j' hj'
      split at h
      · rename_i h42
        have hlt : skipB s j' < s.size := pk_lt (by rw [h42]; decide)
        cases h
        exact skipB_idem s _ hlt
      · cases h
        exact skipB_idem s _ hj'

theorem gItems_skip (s : ByteArray) (hle : ∀ i t j, ∀ n, gPiece s n i = .ok t j → j ≤ s.size) : ∀ (n i : Nat) (x : List LT × List Nat) (j : Nat), gItems s n i = .ok x j → skipB s j = j
  | 0, i, x, j, h => by rw [gItems] at h; cases h
  | n + 1, i, x, j, h => by
    rw [gItems] at h
    cases hp : gItem s n i with
    | err p => rw [hp] at h; cases h
    | ok t j' =>
      rw [hp] at h
      simp only [Res.bind] at h
      split at h
      · cases hq : gItems s n j' with
        | err p => rw [hq] at h; cases h
        | ok y j'' =>
          rw [hq] at h
          cases h
          exact gItems_skip s hle n _ _ _ hq
      · cases h
        exact gItem_skip s hle n _ _ _ hp

theorem gRows_skip (s : ByteArray) (hle : ∀ i t j, ∀ n, gPiece s n i = .ok t j → j ≤ s.size) : ∀ (n i : Nat) (x : List LT × List Nat) (j : Nat), gRows s n i = .ok x j → skipB s j = j
  | 0, i, x, j, h => by rw [gRows] at h; cases h
  | n + 1, i, x, j, h => by
    rw [gRows] at h
    cases hp : gItems s n (skipB s i) with
    | err p => rw [hp] at h; cases h
    | ok t j' =>
      rw [hp] at h
      simp only [Res.bind] at h
      split at h
      · cases hq : gRows s n (j' + 1) with
        | err p => rw [hq] at h; cases h
        | ok y j'' =>
          rw [hq] at h
          cases h
          exact gRows_skip s hle n _ _ _ hq
      · cases h
        exact gItems_skip s hle n _ _ _ hp

theorem gQuoted_lt {s : ByteArray} {i j : Nat} {v : List UInt8} (h : gQuoted s i = .ok v j) : i < j ∧ j ≤ s.size := by
  unfold gQuoted at h
  split at h
  · rename_i h34
    have hl : i < s.size := pk_lt (by rw [h34]; decide)
    have := signsE_bd s (i + 1) hl
    split at h
    · rename_i h35
      have : signsE s (i + 1) < s.size := pk_lt (by rw [h35]; decide)
      cases h
      omega
    · cases h
  · cases h

theorem gPlain_lt {s : ByteArray} {n i : Nat} {t : LT} {j : Nat} (h : gPlain s n i = .ok t j) : i < j ∧ j ≤ s.size := by
  unfold gPlain at h
  cases hg : gAlts s n (i + 1) with
  | err p => rw [hg] at h; cases h
  | ok l k =>
    rw [hg] at h
    simp only [Res.bind] at h
    have h0 := (g_lt s n).2.2 _ _ _ hg
    split at h
    · rename_i h47
      have hk : k < s.size := pk_lt (by rw [h47]; decide)
      have hb := skipB_bd s (k + 1) hk
      split at h
      · cases hq : gQuoted s (skipB s (k + 1)) with
        | err p => rw [hq] at h; cases h
        | ok v k1 =>
          rw [hq] at h
          simp only at h
          have h1 := gQuoted_lt hq
          have hb1 := skipB_bd s k1 h1.2
          cases hq2 : gQuoted s (skipB s k1) with
          | err p => rw [hq2] at h; cases h
          | ok d m =>
            rw [hq2] at h
            have h2 := gQuoted_lt hq2
            cases h
            omega
      · cases h
        omega
    · cases h

theorem gPiece_lt {s : ByteArray} {n i : Nat} {t : LT} {j : Nat} (h : gPiece s n i = .ok t j) : j ≤ s.size := by
  cases n with
  | zero => rw [gPiece] at h; cases h
  | succ n =>
    rw [gPiece] at h
    split at h
    · exact (gPlain_lt h).2
    · split at h
      · split at h
        · cases hq : gRows s n (skipB s (i + 1) + 1) with
          | err p => rw [hq] at h; cases h
          | ok a j1 =>
            rw [hq] at h
            simp only [Res.bind] at h
            split at h
            · cases hq2 : gRows s n (j1 + 1) with
              | err p => rw [hq2] at h; cases h
              | ok b k =>
                rw [hq2] at h
                simp only at h
                split at h
                · rename_i h41
                  have : k < s.size := pk_lt (by rw [h41]; decide)
                  cases h
                  omega
                · cases h
            · cases h
        · cases h
      · split at h
        · cases hq : gRows s n (i + 1) with
          | err p => rw [hq] at h; cases h
          | ok a j1 =>
            rw [hq] at h
            simp only [Res.bind] at h
            split at h
            · rename_i h41
              have : j1 < s.size := pk_lt (by rw [h41]; decide)
              cases h
              omega
            · cases h
        · cases h

theorem gRows_stop {s : ByteArray} {n i : Nat} {x : List LT × List Nat} {j : Nat} (h : gRows s n i = .ok x j) : skipB s j = j := gRows_skip s (fun _ _ _ _ h => gPiece_lt h) n i x j h
theorem gItems_stop {s : ByteArray} {n i : Nat} {x : List LT × List Nat} {j : Nat} (h : gItems s n i = .ok x j) : skipB s j = j := gItems_skip s (fun _ _ _ _ h => gPiece_lt h) n i x j h
theorem gItem_stop {s : ByteArray} {n i : Nat} {x : LT} {j : Nat} (h : gItem s n i = .ok x j) : skipB s j = j := gItem_skip s (fun _ _ _ _ h => gPiece_lt h) n i x j h

theorem skipB_le (s : ByteArray) (i : Nat) : i ≤ skipB s i := (skipN_bd s (s.size - i) i).1

theorem gL_lt (s : ByteArray) : ∀ n, (∀ i t j, gPiece s n i = .ok t j → i < j) ∧ (∀ i t j, gItem s n i = .ok t j → i < j) ∧ (∀ i t j, gItems s n i = .ok t j → i < j) ∧ (∀ i t j, gRows s n i = .ok t j → i < j)
  | 0 => ⟨fun i t j h => (by rw [gPiece] at h; cases h), fun i l j h => (by rw [gItem] at h; cases h), fun i l j h => (by rw [gItems] at h; cases h), fun i l j h => (by rw [gRows] at h; cases h)⟩
  | n + 1 => by
    obtain ⟨k1, k2, k3, k4⟩ := gL_lt s n
    refine ⟨fun i t j h => ?_, fun i t j h => ?_, fun i t j h => ?_, fun i t j h => ?_⟩
    · rw [gPiece] at h
      split at h
      · exact (gPlain_lt h).1
      · split at h
        · split at h
          · cases hq : gRows s n (skipB s (i + 1) + 1) with
            | err p => rw [hq] at h; cases h
            | ok a j1 =>
              rw [hq] at h
              simp only [Res.bind] at h
              have h1 := k4 _ _ _ hq
              have h2 := skipB_le s (i + 1)
              split at h
              · cases hq2 : gRows s n (j1 + 1) with
                | err p => rw [hq2] at h; cases h
                | ok b k =>
                  rw [hq2] at h
                  simp only at h
                  have h3 := k4 _ _ _ hq2
                  split at h
                  · cases h
                    omega
                  · cases h
              · cases h
          · cases h
        · split at h
          · cases hq : gRows s n (i + 1) with
            | err p => rw [hq] at h; cases h
            | ok a j1 =>
              rw [hq] at h
              simp only [Res.bind] at h
              have h1 := k4 _ _ _ hq
              split at h
              · cases h
                omega
              · cases h
          · cases h
    · rw [gItem] at h
      cases hq : gPiece s n i with
      | err p => rw [hq] at h; cases h
      | ok a j1 =>
        rw [hq] at h
        simp only [Res.bind] at h
        have h1 := k1 _ _ _ hq
        have h2 := skipB_le s j1
        split at h
        · cases h
          have h3 := skipB_le s (skipB s j1 + 1)
          omega
        · cases h
          omega
    · rw [gItems] at h
      cases hq : gItem s n i with
      | err p => rw [hq] at h; cases h
      | ok a j1 =>
        rw [hq] at h
        simp only [Res.bind] at h
        have h1 := k2 _ _ _ hq
        split at h
        · cases hq2 : gItems s n j1 with
          | err p => rw [hq2] at h; cases h
          | ok b k =>
            rw [hq2] at h
            have h3 := k3 _ _ _ hq2
            cases h
            omega
        · cases h
          omega
    · rw [gRows] at h
      have h0 := skipB_le s i
      cases hq : gItems s n (skipB s i) with
      | err p => rw [hq] at h; cases h
      | ok a j1 =>
        rw [hq] at h
        simp only [Res.bind] at h
        have h1 := k3 _ _ _ hq
        split at h
        · cases hq2 : gRows s n (j1 + 1) with
          | err p => rw [hq2] at h; cases h
          | ok b k =>
            rw [hq2] at h
            have h3 := k4 _ _ _ hq2
            cases h
            omega
        · cases h
          omega

/-- a lens in brackets, behind the first of them -/
def gGroup (s : ByteArray) (n i : Nat) : Res LT := (gRows s n i).bind fun a j => if pk s j = 41 then .ok (.group (joinAlt a.1 a.2)) (j + 1) else .err j

set_option maxRecDepth 100000 in
set_option maxHeartbeats 3200000 in
theorem sgroup {w : World} {b : Nat} {s : ByteArray} {i n : Nat} (h : w.heap[b]? = some (sblk s i)) (hs : s.size ≤ 120) (hi : i ≤ s.size) (hlens : SLensSaid s b i) (hn : 4 * (s.size - i) + 4 ≤ n) :
    Calls Tryz.prog 177 #[.pointer (some ⟨b, 0, none⟩)] w fun e w' => SPost b s w e w' (gGroup s n i) := by
  have HL := hide (hlens w i (Nat.le_refl _) h hi n hn)
  have hbl := heap_lt h
  generalize hrr : gGroup s n i = rr
  unfold gGroup at hrr
  clear h hlens
  go_enter Tryz.func177, Tryz.ntmps177
  go_wp2_with fail
  refine (unhide HL).mono ?_
  rintro e w1 hP1
  cases hg : gRows s n i with
  | err p =>
    rw [hg] at hP1 hrr
    obtain ⟨hp, hg1, hq1, rfl⟩ := hP1
    have HR := hide hrr
    clear hg HL hrr
    go_wp2
    go_ret
    rw [← unhide HR]
    exact ⟨hp, hg1, hq1, rfl⟩
  | ok x j =>
    have hst := gRows_stop hg
    rw [hg] at hP1 hrr
    obtain ⟨hj, hg1, hq1, g, rfl, hT⟩ := hP1
    simp only [Res.bind] at hrr
    have HT := hide hT
    clear hg HL hT
    by_cases h41 : pk s j = 41
    · have hjs : j < s.size := pk_lt (by rw [h41]; decide)
      have HTk := hide (stake_ok 41 (by decide) (by decide) hq1 hs hj (by rw [hst]; exact (pe_eq (by decide)).2 h41))
      rw [hst] at HTk
      rw [if_pos h41] at hrr
      have HR := hide hrr
      clear h41 hrr hst
      go_wp2_with fail
      refine (unhide HTk).mono ?_
      rintro e w2 ⟨rfl, hq2, hg2⟩
      go_wp2
      go_ret
      rw [← unhide HR]
      have hga := (World.grownBy_alloc w2 (.cells #[.pointer (some ⟨g, 0, none⟩)] 54) (some b)).trans (World.grownBy_alloc _ (pblk2 3 (.slice (some ⟨w2.heap.size, 0, none⟩) 1 1) (.slice none 0 0)) _)
      have hs2 := Nat.le_trans hg1.size hg2.size
      refine ⟨hjs, (hg1.trans hg2).trans hga, heap_alloc_old _ (heap_alloc_old _ hq2), w2.heap.size + 1, rfl, ?_⟩
      rw [LR]
      refine ⟨by omega, .slice (some ⟨w2.heap.size, 0, none⟩) 1 1, g, ?_, ⟨?_, fun k e => ?_⟩, ?_⟩
      · exact alloc2_at w2 _ _
      · exact (World.ownsRow_lit (base := 0) (e := 54) (size := 1) w2 #[.pointer (some ⟨g, 0, none⟩)] 1 (by omega) (by unfold maxLen; omega) rfl).alloc _
      · simp [Value.ownBlock] at e
        omega
      · refine LR.kept (fun k hk hy => ?_) (unhide HT)
        exact (hga.block k (Nat.lt_of_lt_of_le hk hg2.size) (fun e => hy (by cases e; exact hbl))).trans (grown_heap hg2 k hk (fun e => hy (by show k < w.heap.size; omega)))
    · have HTk := hide (stake_no 41 (by decide) (by decide) hq1 hs hj (by rw [hst]; exact fun e => h41 ((pe_eq (by decide)).1 e)))
      rw [hst] at HTk
      rw [if_neg h41] at hrr
      have HR := hide hrr
      clear h41 hrr hst
      go_wp2_with fail
      refine (unhide HTk).mono ?_
      rintro e w2 ⟨rfl, hq2, hg2⟩
      go_wp2
      go_ret
      rw [← unhide HR]
      exact ⟨hj, hg1.trans hg2, hq2, rfl⟩

end Go.Proofs.YtlljggefbngkeaaGreatDoor
