import Derived.Test.YtlljggefbngkeaaGreatDoorV09
namespace Go.Proofs.YtlljggefbngkeaaGreatDoor
open Go.RowKit

def SLensSaid (s : ByteArray) (b i0 : Nat) : Prop :=
  ∀ (w : World) (i : Nat), i0 ≤ i → w.heap[b]? = some (sblk s i) → i ≤ s.size → ∀ n, 4 * (s.size - i) + 4 ≤ n →
    Calls Tryz.prog 80 #[.pointer (some ⟨b, 0, none⟩)] w fun e w' => SPost b s w e w' ((gRows s n i).map fun x => joinAlt x.1 x.2)

theorem gItem_skip (s : ByteArray) (hle : ∀ i t j, ∀ n, gPiece s n i = .ok t j → j ≤ s.size) (n i : Nat) (t : LT) (j : Nat) (h : gItem s n i = .ok t j) : skipB s j = j := by
  cases n with
  | zero => rw [gItem] at h; cases h
  | succ n =>
    rw [gItem] at h
    cases hp : gPiece s n i with
    | err p => rw [hp] at h; cases h
    | ok t' j' =>
      rw [hp] at h
      simp only [Res.bind] at h
      have hj' := hle _ _ _ _ hp
      have := skipB_bd s j' hj'
      split at h
      · rename_i h42
        have hlt : skipB s j' < s.size := pk_lt (by rw [h42]; decide)
        cases h
        exact skipB_idem s _ hlt
      · cases h
        exact skipB_idem s _ hj'

theorem gItems_skip (s : ByteArray) (hle : ∀ i t j, ∀ n, gPiece s n i = .ok t j → j ≤ s.size) : ∀ (n i : Nat) (x : List LT × List Nat) (j : Nat), gItems s n i = .ok x j → skipB s j = j
  | 0, i, x, j, h => by rw [gItems] at h; cases h
  | n + 1, i, x, j, h => by
    rw [gItems] at h
    cases hp : gItem s n i with
    | err p => rw [hp] at h; cases h
    | ok t j' =>
      rw [hp] at h
      simp only [Res.bind] at h
      split at h
      · cases hq : gItems s n j' with
        | err p => rw [hq] at h; cases h
        | ok y j'' =>
          rw [hq] at h
          cases h
          exact gItems_skip s hle n _ _ _ hq
      · cases h
        exact gItem_skip s hle n _ _ _ hp

theorem gRows_skip (s : ByteArray) (hle : ∀ i t j, ∀ n, gPiece s n i = .ok t j → j ≤ s.size) : ∀ (n i : Nat) (x : List LT × List Nat) (j : Nat), gRows s n i = .ok x j → skipB s j = j
  | 0, i, x, j, h => by rw [gRows] at h; cases h
  | n + 1, i, x, j, h => by
    rw [gRows] at h
    cases hp : gItems s n (skipB s i) with
    | err p => rw [hp] at h; cases h
    | ok t j' =>
      rw [hp] at h
      simp only [Res.bind] at h
      split at h
      · cases hq : gRows s n (j' + 1) with
        | err p => rw [hq] at h; cases h
        | ok y j'' =>
          rw [hq] at h
          cases h
          exact gRows_skip s hle n _ _ _ hq
      · cases h
        exact gItems_skip s hle n _ _ _ hp

theorem gQuoted_lt {s : ByteArray} {i j : Nat} {v : List UInt8} (h : gQuoted s i = .ok v j) : i < j ∧ j ≤ s.size := by
  unfold gQuoted at h
  split at h
  · rename_i h34
    have hl : i < s.size := pk_lt (by rw [h34]; decide)
    have := signsE_bd s (i + 1) hl
    split at h
    · rename_i h35
      have : signsE s (i + 1) < s.size := pk_lt (by rw [h35]; decide)
      cases h
      omega
    · cases h
  · cases h

theorem gPlain_lt {s : ByteArray} {n i : Nat} {t : LT} {j : Nat} (h : gPlain s n i = .ok t j) : i < j ∧ j ≤ s.size := by
  unfold gPlain at h
  cases hg : gAlts s n (i + 1) with
  | err p => rw [hg] at h; cases h
  | ok l k =>
    rw [hg] at h
    simp only [Res.bind] at h
    have h0 := (g_lt s n).2.2 _ _ _ hg
    split at h
    · rename_i h47
      have hk : k < s.size := pk_lt (by rw [h47]; decide)
      have hb := skipB_bd s (k + 1) hk
      split at h
      · cases hq : gQuoted s (skipB s (k + 1)) with
        | err p => rw [hq] at h; cases h
        | ok v k1 =>
          rw [hq] at h
          simp only at h
          have h1 := gQuoted_lt hq
          have hb1 := skipB_bd s k1 h1.2
          cases hq2 : gQuoted s (skipB s k1) with
          | err p => rw [hq2] at h; cases h
          | ok d m =>
            rw [hq2] at h
            have h2 := gQuoted_lt hq2
            cases h
            omega
      · cases h
        omega
    · cases h

theorem gPiece_lt {s : ByteArray} {n i : Nat} {t : LT} {j : Nat} (h : gPiece s n i = .ok t j) : j ≤ s.size := by
  cases n with
  | zero => rw [gPiece] at h; cases h
  | succ n =>
    rw [gPiece] at h
    split at h
    · exact (gPlain_lt h).2
    · split at h
      · split at h
        · cases hq : gRows s n (skipB s (i + 1) + 1) with
          | err p => rw [hq] at h; cases h
          | ok a j1 =>
            rw [hq] at h
            simp only [Res.bind] at h
            split at h
            · cases hq2 : gRows s n (j1 + 1) with
              | err p => rw [hq2] at h; cases h
              | ok b k =>
                rw [hq2] at h
                simp only at h
                split at h
                · rename_i h41
                  have : k < s.size := pk_lt (by rw [h41]; decide)
                  cases h
                  omega
                · cases h
            · cases h
        · cases h
      · split at h
        · cases hq : gRows s n (i + 1) with
          | err p => rw [hq] at h; cases h
          | ok a j1 =>
            rw [hq] at h
            simp only [Res.bind] at h
            split at h
            · rename_i h41
              have : j1 < s.size := pk_lt (by rw [h41]; decide)
              cases h
              omega
            · cases h
        · cases h

theorem gRows_stop {s : ByteArray} {n i : Nat} {x : List LT × List Nat} {j : Nat} (h : gRows s n i = .ok x j) : skipB s j = j := gRows_skip s (fun _ _ _ _ h => gPiece_lt h) n i x j h
theorem gItems_stop {s : ByteArray} {n i : Nat} {x : List LT × List Nat} {j : Nat} (h : gItems s n i = .ok x j) : skipB s j = j := gItems_skip s (fun _ _ _ _ h => gPiece_lt h) n i x j h
theorem gItem_stop {s : ByteArray} {n i : Nat} {x : LT} {j : Nat} (h : gItem s n i = .ok x j) : skipB s j = j := gItem_skip s (fun _ _ _ _ h => gPiece_lt h) n i x j h

theorem skipB_le (s : ByteArray) (i : Nat) : i ≤ skipB s i := (skipN_bd s (s.size - i) i).1

theorem gL_lt (s : ByteArray) : ∀ n, (∀ i t j, gPiece s n i = .ok t j → i < j) ∧ (∀ i t j, gItem s n i = .ok t j → i < j) ∧ (∀ i t j, gItems s n i = .ok t j → i < j) ∧ (∀ i t j, gRows s n i = .ok t j → i < j)
  | 0 => ⟨fun i t j h => (by rw [gPiece] at h; cases h), fun i l j h => (by rw [gItem] at h; cases h), fun i l j h => (by rw [gItems] at h; cases h), fun i l j h => (by rw [gRows] at h; cases h)⟩
  | n + 1 => by
    obtain ⟨k1, k2, k3, k4⟩ := gL_lt s n
    refine ⟨fun i t j h => ?_, fun i t j h => ?_, fun i t j h => ?_, fun i t j h => ?_⟩
    · rw [gPiece] at h
      split at h
      · exact (gPlain_lt h).1
      · split at h
        · split at h
          · cases hq : gRows s n (skipB s (i + 1) + 1) with
            | err p => rw [hq] at h; cases h
            | ok a j1 =>
              rw [hq] at h
              simp only [Res.bind] at h
              have h1 := k4 _ _ _ hq
              have h2 := skipB_le s (i + 1)
              split at h
              · cases hq2 : gRows s n (j1 + 1) with
                | err p => rw [hq2] at h; cases h
                | ok b k =>
                  rw [hq2] at h
                  simp only at h
                  have h3 := k4 _ _ _ hq2
                  split at h
                  · cases h
                    omega
                  · cases h
              · cases h
          · cases h
        · split at h
          · cases hq : gRows s n (i + 1) with
            | err p => rw [hq] at h; cases h
            | ok a j1 =>
              rw [hq] at h
              simp only [Res.bind] at h
              have h1 := k4 _ _ _ hq
              split at h
              · cases h
                omega
              · cases h
          · cases h
    · rw [gItem] at h
      cases hq : gPiece s n i with
      | err p => rw [hq] at h; cases h
      | ok a j1 =>
        rw [hq] at h
        simp only [Res.bind] at h
        have h1 := k1 _ _ _ hq
        have h2 := skipB_le s j1
        split at h
        · cases h
          have h3 := skipB_le s (skipB s j1 + 1)
          omega
        · cases h
          omega
    · rw [gItems] at h
      cases hq : gItem s n i with
      | err p => rw [hq] at h; cases h
      | ok a j1 =>
        rw [hq] at h
        simp only [Res.bind] at h
        have h1 := k2 _ _ _ hq
        split at h
        · cases hq2 : gItems s n j1 with
          | err p => rw [hq2] at h; cases h
          | ok b k =>
            rw [hq2] at h
            have h3 := k3 _ _ _ hq2
            cases h
            omega
        · cases h
          omega
    · rw [gRows] at h
      have h0 := skipB_le s i
      cases hq : gItems s n (skipB s i) with
      | err p => rw [hq] at h; cases h
      | ok a j1 =>
        rw [hq] at h
        simp only [Res.bind] at h
        have h1 := k3 _ _ _ hq
        split at h
        · cases hq2 : gRows s n (j1 + 1) with
          | err p => rw [hq2] at h; cases h
          | ok b k =>
            rw [hq2] at h
            have h3 := k4 _ _ _ hq2
            cases h
            omega
        · cases h
          omega

/-- a lens in brackets, behind the first of them -/
def gGroup (s : ByteArray) (n i : Nat) : Res LT := (gRows s n i).bind fun a j => if pk s j = 41 then .ok (.group (joinAlt a.1 a.2)) (j + 1) else .err j

set_option maxRecDepth 100000 in
set_option maxHeartbeats 3200000 in
theorem sgroup {w : World} {b : Nat} {s : ByteArray} {i n : Nat} (h : w.heap[b]? = some (sblk s i)) (hs : s.size ≤ 120) (hi : i ≤ s.size) (hlens : SLensSaid s b i) (hn : 4 * (s.size - i) + 4 ≤ n) :
    Calls Tryz.prog 177 #[.pointer (some ⟨b, 0, none⟩)] w fun e w' => SPost b s w e w' (gGroup s n i) := by
  have HL := hide (hlens w i (Nat.le_refl _) h hi n hn)
  have hbl := heap_lt h
  generalize hrr : gGroup s n i = rr
  unfold gGroup at hrr
  clear h hlens
  go_enter Tryz.func177, Tryz.ntmps177
  go_wp2_with fail
  refine (unhide HL).mono ?_
  rintro e w1 hP1
  cases hg : gRows s n i with
  | err p =>
    rw [hg] at hP1 hrr
    obtain ⟨hp, hg1, hq1, rfl⟩ := hP1
    have HR := hide hrr
    clear hg HL hrr
    go_wp2
    go_ret
    rw [← unhide HR]
    exact ⟨hp, hg1, hq1, rfl⟩
  | ok x j =>
    have hst := gRows_stop hg
    rw [hg] at hP1 hrr
    obtain ⟨hj, hg1, hq1, g, rfl, hT⟩ := hP1
    simp only [Res.bind] at hrr
    have HT := hide hT
    clear hg HL hT
    by_cases h41 : pk s j = 41
    · have hjs : j < s.size := pk_lt (by rw [h41]; decide)
      have HTk := hide (stake_ok 41 (by decide) (by decide) hq1 hs hj (by rw [hst]; exact (pe_eq (by decide)).2 h41))
      rw [hst] at HTk
      rw [if_pos h41] at hrr
      have HR := hide hrr
      clear h41 hrr hst
      go_wp2_with fail
      refine (unhide HTk).mono ?_
      rintro e w2 ⟨rfl, hq2, hg2⟩
      go_wp2
      go_ret
      rw [← unhide HR]
      have hga := (World.grownBy_alloc w2 (.cells #[.pointer (some ⟨g, 0, none⟩)] 54) (some b)).trans (World.grownBy_alloc _ (pblk2 3 (.slice (some ⟨w2.heap.size, 0, none⟩) 1 1) (.slice none 0 0)) _)
      have hs2 := Nat.le_trans hg1.size hg2.size
      refine ⟨hjs, (hg1.trans hg2).trans hga, heap_alloc_old _ (heap_alloc_old _ hq2), w2.heap.size + 1, rfl, ?_⟩
      rw [LR]
      refine ⟨by omega, .slice (some ⟨w2.heap.size, 0, none⟩) 1 1, g, ?_, ⟨?_, fun k e => ?_⟩, ?_⟩
      · exact alloc2_at w2 _ _
      · exact (World.ownsRow_lit (base := 0) (e := 54) (size := 1) w2 #[.pointer (some ⟨g, 0, none⟩)] 1 (by omega) (by unfold maxLen; omega) rfl).alloc _
      · simp [Value.ownBlock] at e
        omega
      · refine LR.kept (fun k hk hy => ?_) (unhide HT)
        exact (hga.block k (Nat.lt_of_lt_of_le hk hg2.size) (fun e => hy (by cases e; exact hbl))).trans (grown_heap hg2 k hk (fun e => hy (by show k < w.heap.size; omega)))
    · have HTk := hide (stake_no 41 (by decide) (by decide) hq1 hs hj (by rw [hst]; exact fun e => h41 ((pe_eq (by decide)).1 e)))
      rw [hst] at HTk
      rw [if_neg h41] at hrr
      have HR := hide hrr
      clear h41 hrr hst
      go_wp2_with fail
      refine (unhide HTk).mono ?_
      rintro e w2 ⟨rfl, hq2, hg2⟩
      go_wp2
      go_ret
      rw [← unhide HR]
      exact ⟨hj, hg1.trans hg2, hq2, rfl⟩

end Go.Proofs.YtlljggefbngkeaaGreatDoor

namespace Go.Proofs.YtlljggefbngkeaaGreatDoor
open Go.RowKit

/-- a ~, at its place -/
def gSwap (s : ByteArray) (n i : Nat) : Res LT :=
  if pk s (skipB s (i + 1)) = 40 then
    (gRows s n (skipB s (i + 1) + 1)).bind fun a j =>
      if pk s j = 44 then (gRows s n (j + 1)).bind fun b k => if pk s k = 41 then .ok (.swap i (joinAlt a.1 a.2) (joinAlt b.1 b.2)) (k + 1) else .err k
      else .err j
  else .err (skipB s (i + 1))

theorem alloc3_at (w : World) (A B C : Obj) : ((((w.alloc A).alloc B).alloc C).heap[w.heap.size + 2]? = some C) := by
  have := heap_alloc_new ((w.alloc A).alloc B) C
  simpa using this

set_option maxRecDepth 100000 in
set_option maxHeartbeats 3200000 in
theorem sswap {w : World} {b : Nat} {s : ByteArray} {i n : Nat} (h : w.heap[b]? = some (sblk s (i + 1))) (hs : s.size ≤ 120) (hi : i + 1 ≤ s.size) (hlens : SLensSaid s b (i + 1)) (hn : 4 * (s.size - (i + 1)) + 4 ≤ n) :
    Calls Tryz.prog 176 #[.pointer (some ⟨b, 0, none⟩)] w fun e w' => SPost b s w e w' (gSwap s n i) := by
  have hbl := heap_lt h
  have c1 := cellOf h 1
  simp at c1
  have hsb := skipB_bd s (i + 1) hi
  generalize hrr : gSwap s n i = rr
  unfold gSwap at hrr
  by_cases h40 : pk s (skipB s (i + 1)) = 40
  · have hsl : skipB s (i + 1) < s.size := pk_lt (by rw [h40]; decide)
    have HT1 := hide (stake_ok 40 (by decide) (by decide) h hs hi ((pe_eq (by decide)).2 h40))
    rw [if_pos h40] at hrr
    have HL1 := hide (fun (W : World) (hW : W.heap[b]? = some (sblk s (skipB s (i + 1) + 1))) => hlens W (skipB s (i + 1) + 1) (by omega) hW hsl n (by omega))
    have HL := hide hlens
    clear h40 h hlens
    generalize skipB s (i + 1) = a at *
    go_enter Tryz.func176, Tryz.ntmps176
    go_wp2_with fail
    refine (unhide HT1).mono ?_
    rintro e w1 ⟨rfl, h1, g1⟩
    go_wp2_with fail
    refine (unhide HL1 _ h1).mono ?_
    rintro e w2 hP2
    cases hg : gRows s n (a + 1) with
    | err p =>
      rw [hg] at hP2 hrr
      obtain ⟨hp, hg2, hq2, rfl⟩ := hP2
      have HR := hide hrr
      clear hg HL HL1 hrr
      go_wp2
      go_ret
      rw [← unhide HR]
      exact ⟨hp, g1.trans hg2, hq2, rfl⟩
    | ok x j =>
      have hst := gRows_stop hg
      have hlt := (gL_lt s n).2.2.2 _ _ _ hg
      rw [hg] at hP2 hrr
      obtain ⟨hj, hg2, hq2, ga, rfl, hTa⟩ := hP2
      simp only [Res.bind] at hrr
      have hTa' : LR s w2 (fun k => k < w.heap.size) (joinAlt x.1 x.2) ga := LR.reY (fun k _ hk => Nat.lt_of_lt_of_le hk g1.size) hTa
      have HTa := hide hTa'
      have hgw2 := g1.trans hg2
      clear hg HL1 hTa hTa' g1 hg2 HT1 h1
      by_cases h44 : pk s j = 44
      · have hjl : j < s.size := pk_lt (by rw [h44]; decide)
        have HTk := hide (stake_ok 44 (by decide) (by decide) hq2 hs hj (by rw [hst]; exact (pe_eq (by decide)).2 h44))
        rw [hst] at HTk
        rw [if_pos h44] at hrr
        have hij : i + 1 ≤ j + 1 := by omega
        have HL2 := hide (fun (W : World) (hW : W.heap[b]? = some (sblk s (j + 1))) => unhide HL W (j + 1) hij hW hjl n (by omega))
        clear h44 hst HL
        go_wp2_with fail
        refine (unhide HTk).mono ?_
        rintro e w3 ⟨rfl, h3, g3⟩
        go_wp2_with fail
        refine (unhide HL2 _ h3).mono ?_
        rintro e w4 hP4
        cases hg : gRows s n (j + 1) with
        | err p =>
          rw [hg] at hP4 hrr
          obtain ⟨hp, hg4, hq4, rfl⟩ := hP4
          have HR := hide hrr
          clear hg HL2 hrr
          go_wp2
          go_ret
          rw [← unhide HR]
          exact ⟨hp, (hgw2.trans g3).trans hg4, hq4, rfl⟩
        | ok y k =>
          have hst := gRows_stop hg
          rw [hg] at hP4 hrr
          obtain ⟨hk, hg4, hq4, gb, rfl, hTb⟩ := hP4
          simp only at hrr
          have hgw3 := hgw2.trans g3
          have hg34 := g3.trans hg4
          have HTab := hide (And.intro (LR.kept (w' := w4) (fun k hk hy => grown_heap hg34 k hk (fun e => hy (by show k < w.heap.size; omega))) (unhide HTa)) (LR.reY (Z := fun k => k < w.heap.size) (fun k _ hk => Nat.lt_of_lt_of_le hk hgw3.size) hTb))
          have hgw4 := hgw3.trans hg4
          clear hg HL2 hTb g3 hg4 hg34 HTk h3 hgw3 hgw2 HTa hq2
          by_cases h41 : pk s k = 41
          · have hkl : k < s.size := pk_lt (by rw [h41]; decide)
            have HTk := hide (stake_ok 41 (by decide) (by decide) hq4 hs hk (by rw [hst]; exact (pe_eq (by decide)).2 h41))
            rw [hst] at HTk
            rw [if_pos h41] at hrr
            have HR := hide hrr
            clear h41 hrr hst
            go_wp2_with fail
            refine (unhide HTk).mono ?_
            rintro e w5 ⟨rfl, hq5, hg5⟩
            go_wp2
            go_ret
            rw [← unhide HR]
            have hga := ((World.grownBy_alloc w5 (.cells #[.pointer (some ⟨ga, 0, none⟩), .pointer (some ⟨gb, 0, none⟩)] 54) (some b)).trans (World.grownBy_alloc _ (.cells #[.int .i64 (i : Int)] 3) _)).trans (World.grownBy_alloc _ (pblk2 2 (.slice (some ⟨w5.heap.size, 0, none⟩) 2 2) (.slice (some ⟨w5.heap.size + 1, 0, none⟩) 1 1)) _)
            have hs5 := Nat.le_trans hgw4.size hg5.size
            have old : ∀ k, k < w4.heap.size → ¬ k < w.heap.size → _ := fun k hk hy => (hga.block k (Nat.lt_of_lt_of_le hk hg5.size) (fun e => hy (by cases e; exact hbl))).trans (grown_heap hg5 k hk (fun e => hy (by omega)))
            refine ⟨hkl, (hgw4.trans hg5).trans hga, heap_alloc_old _ (heap_alloc_old _ (heap_alloc_old _ hq5)), w5.heap.size + 2, rfl, ?_⟩
            rw [LR]
            refine ⟨by omega, .slice (some ⟨w5.heap.size, 0, none⟩) 2 2, .slice (some ⟨w5.heap.size + 1, 0, none⟩) 1 1, ga, gb, alloc3_at w5 _ _ _, ⟨?_, fun k e => ?_⟩, ⟨?_, fun k e => ?_⟩, LR.kept old (unhide HTab).1, LR.kept old (unhide HTab).2⟩
            · exact ((World.ownsRow_lit (base := 0) (e := 54) (size := 1) w5 #[.pointer (some ⟨ga, 0, none⟩), .pointer (some ⟨gb, 0, none⟩)] 2 (by omega) (by unfold maxLen; omega) rfl).alloc _).alloc _
            · simp [Value.ownBlock] at e
              omega
            · have := (World.ownsRow_lit (base := 0) (e := 3) (size := 1) (w5.alloc (.cells #[.pointer (some ⟨ga, 0, none⟩), .pointer (some ⟨gb, 0, none⟩)] 54)) #[.int .i64 (i : Int)] 1 (by omega) (by unfold maxLen; omega) rfl).alloc (pblk2 2 (.slice (some ⟨w5.heap.size, 0, none⟩) 2 2) (.slice (some ⟨w5.heap.size + 1, 0, none⟩) 1 1))
              have hsz : ∀ o, (w5.alloc o).heap.size = w5.heap.size + 1 := fun o => by simp
              rw [hsz] at this
              exact this
            · simp [Value.ownBlock] at e
              omega
          · have HTk := hide (stake_no 41 (by decide) (by decide) hq4 hs hk (by rw [hst]; exact fun e => h41 ((pe_eq (by decide)).1 e)))
            rw [hst] at HTk
            rw [if_neg h41] at hrr
            have HR := hide hrr
            clear h41 hrr hst
            go_wp2_with fail
            refine (unhide HTk).mono ?_
            rintro e w5 ⟨rfl, hq5, hg5⟩
            go_wp2
            go_ret
            rw [← unhide HR]
            exact ⟨hk, hgw4.trans hg5, hq5, rfl⟩
      · have HTk := hide (stake_no 44 (by decide) (by decide) hq2 hs hj (by rw [hst]; exact fun e => h44 ((pe_eq (by decide)).1 e)))
        rw [hst] at HTk
        rw [if_neg h44] at hrr
        have HR := hide hrr
        clear h44 hrr hst HL
        go_wp2_with fail
        refine (unhide HTk).mono ?_
        rintro e w3 ⟨rfl, hq3, hg3⟩
        go_wp2
        go_ret
        rw [← unhide HR]
        exact ⟨hj, hgw2.trans hg3, hq3, rfl⟩
  · have HT1 := hide (stake_no 40 (by decide) (by decide) h hs hi (fun e => h40 ((pe_eq (by decide)).1 e)))
    rw [if_neg h40] at hrr
    have HR := hide hrr
    clear h40 h hlens hrr
    generalize skipB s (i + 1) = a at *
    go_enter Tryz.func176, Tryz.ntmps176
    go_wp2_with fail
    refine (unhide HT1).mono ?_
    rintro e w1 ⟨rfl, h1, g1⟩
    go_wp2
    go_ret
    rw [← unhide HR]
    exact ⟨hsb.2, g1, h1, rfl⟩

/-- what is asked of the readers of a piece and of an item -/
def SPieceSaid (s : ByteArray) (b i0 : Nat) : Prop :=
  ∀ (w : World) (i : Nat), i0 ≤ i → w.heap[b]? = some (sblk s i) → i ≤ s.size → ∀ n, 4 * (s.size - i) + 1 ≤ n →
    Calls Tryz.prog 164 #[.pointer (some ⟨b, 0, none⟩)] w fun e w' => SPost b s w e w' (gPiece s n (skipB s i))

set_option maxRecDepth 100000 in
set_option maxHeartbeats 3200000 in
theorem spiece_of {s : ByteArray} {b i0 : Nat} (hs : s.size ≤ 120) (hlens : SLensSaid s b (i0 + 1)) : SPieceSaid s b i0 := by
  intro w i h0 h hi n hn
  obtain ⟨n, rfl⟩ : ∃ m, n = m + 1 := ⟨n - 1, by omega⟩
  have hsb := skipB_bd s i hi
  have hid := skipB_idem s i hi
  have hbl := heap_lt h
  generalize hrr : gPiece s (n + 1) (skipB s i) = rr
  rw [gPiece] at hrr
  by_cases h47 : pk s (skipB s i) = 47
  · have hlt : skipB s i < s.size := pk_lt (by rw [h47]; decide)
    have HT := hide (stake_ok 47 (by decide) (by decide) h hs hi ((pe_eq (by decide)).2 h47))
    rw [if_pos h47] at hrr
    have HR := hide hrr
    clear h hrr h47 hlens hid
    generalize skipB s i = a at *
    go_enter Tryz.func164, Tryz.ntmps164
    go_wp2_with fail
    refine (unhide HT).mono ?_
    rintro e w1 ⟨rfl, h1, g1⟩
    go_wp2_with fail
    refine (spattern h1 hs hlt).mono ?_
    rintro e w2 hP2
    obtain ⟨a2, rfl⟩ := hP2.ptr
    have HP2 := hide hP2
    clear hP2
    go_wp2
    go_ret
    rw [← unhide HR]
    exact SPost.from_ g1 (unhide HP2)
  · rw [if_neg h47] at hrr
    have HN1 := hide (stake_no 47 (by decide) (by decide) h hs hi (fun e => h47 ((pe_eq (by decide)).1 e)))
    by_cases h126 : pk s (skipB s i) = 126
    · have hlt : skipB s i < s.size := pk_lt (by rw [h126]; decide)
      have HT := hide (fun (W : World) (hW : W.heap[b]? = some (sblk s (skipB s i))) => stake_ok 126 (by decide) (by decide) hW hs hsb.2 (by rw [hid]; exact (pe_eq (by decide)).2 h126))
      rw [hid] at HT
      rw [if_pos h126] at hrr
      have HR := hide hrr
      have HL := hide hlens
      clear h hrr h47 h126 hlens hid
      generalize skipB s i = a at *
      go_enter Tryz.func164, Tryz.ntmps164
      go_wp2_with fail
      refine (unhide HN1).mono ?_
      rintro e w0 ⟨rfl, hb0, g0⟩
      go_wp2_with fail
      refine (unhide HT _ hb0).mono ?_
      rintro e w1 ⟨rfl, h1, g1⟩
      go_wp2_with fail
      refine (sswap (n := n) h1 hs hlt (fun w i' hi' => unhide HL w i' (by omega)) (by omega)).mono ?_
      rintro e w2 hP2
      obtain ⟨a2, rfl⟩ := hP2.ptr
      have HP2 := hide hP2
      clear hP2
      go_wp2
      go_ret
      rw [← unhide HR]
      exact SPost.from_ (g0.trans g1) (unhide HP2)
    · rw [if_neg h126] at hrr
      have HN2 := hide (fun (W : World) (hW : W.heap[b]? = some (sblk s (skipB s i))) => stake_no 126 (by decide) (by decide) hW hs hsb.2 (by rw [hid]; exact fun e => h126 ((pe_eq (by decide)).1 e)))
      rw [hid] at HN2
      by_cases h40 : pk s (skipB s i) = 40
      · have hlt : skipB s i < s.size := pk_lt (by rw [h40]; decide)
        have HT := hide (fun (W : World) (hW : W.heap[b]? = some (sblk s (skipB s i))) => stake_ok 40 (by decide) (by decide) hW hs hsb.2 (by rw [hid]; exact (pe_eq (by decide)).2 h40))
        rw [hid] at HT
        rw [if_pos h40] at hrr
        have HR := hide hrr
        have HL := hide hlens
        clear h hrr h47 h126 h40 hlens hid
        generalize skipB s i = a at *
        go_enter Tryz.func164, Tryz.ntmps164
        go_wp2_with fail
        refine (unhide HN1).mono ?_
        rintro e w0 ⟨rfl, hb0, g0⟩
        go_wp2_with fail
        refine (unhide HN2 _ hb0).mono ?_
        rintro e w1 ⟨rfl, hb1, g1⟩
        go_wp2_with fail
        refine (unhide HT _ hb1).mono ?_
        rintro e w2 ⟨rfl, hb2, g2⟩
        go_wp2_with fail
        refine (sgroup (n := n) hb2 hs hlt (fun w i' hi' => unhide HL w i' (by omega)) (by omega)).mono ?_
        rintro e w3 hP3
        obtain ⟨a3, rfl⟩ := hP3.ptr
        have HP3 := hide hP3
        clear hP3
        go_wp2
        go_ret
        rw [← unhide HR]
        exact SPost.from_ ((g0.trans g1).trans g2) (unhide HP3)
      · rw [if_neg h40] at hrr
        have HN3 := hide (fun (W : World) (hW : W.heap[b]? = some (sblk s (skipB s i))) => stake_no 40 (by decide) (by decide) hW hs hsb.2 (by rw [hid]; exact fun e => h40 ((pe_eq (by decide)).1 e)))
        rw [hid] at HN3
        have HR := hide hrr
        clear h hrr h47 h126 h40 hlens hid
        generalize skipB s i = a at *
        go_enter Tryz.func164, Tryz.ntmps164
        go_wp2_with fail
        refine (unhide HN1).mono ?_
        rintro e w0 ⟨rfl, hb0, g0⟩
        go_wp2_with fail
        refine (unhide HN2 _ hb0).mono ?_
        rintro e w1 ⟨rfl, hb1, g1⟩
        go_wp2_with fail
        refine (unhide HN3 _ hb1).mono ?_
        rintro e w2 ⟨rfl, hb2, g2⟩
        go_wp2
        go_ret
        rw [← unhide HR]
        exact ⟨hsb.2, (g0.trans g1).trans g2, hb2, rfl⟩

end Go.Proofs.YtlljggefbngkeaaGreatDoor

namespace Go.Proofs.YtlljggefbngkeaaGreatDoor
open Go.RowKit

/-- what the reader of an item answers: its place may lie ahead of blanks -/
def IPost (b : Nat) (s : ByteArray) (w : World) (e : Ending) (w' : World) : Res LT → Prop
  | .ok t j => ∃ j', j' ≤ s.size ∧ skipB s j' = j ∧ w.grownBy w' (some b) ∧ w'.heap[b]? = some (sblk s j') ∧ ∃ g, e = .returned (.pointer (some ⟨g, 0, none⟩)) ∧ LR s w' (fun k => k < w.heap.size) t g
  | .err p => p ≤ s.size ∧ w.grownBy w' (some b) ∧ w'.heap[b]? = some (sblk s p) ∧ e = .returned (.pointer none)

def SItemSaid (s : ByteArray) (b i0 : Nat) : Prop :=
  ∀ (w : World) (i : Nat), i0 ≤ i → w.heap[b]? = some (sblk s i) → i ≤ s.size → ∀ n, 4 * (s.size - i) + 2 ≤ n →
    Calls Tryz.prog 149 #[.pointer (some ⟨b, 0, none⟩)] w fun e w' => IPost b s w e w' (gItem s n (skipB s i))

set_option maxRecDepth 100000 in
set_option maxHeartbeats 3200000 in
theorem sitem_of {s : ByteArray} {b i0 : Nat} (hs : s.size ≤ 120) (hpiece : SPieceSaid s b i0) : SItemSaid s b i0 := by
  intro w i h0 h hi n hn
  obtain ⟨n, rfl⟩ : ∃ m, n = m + 1 := ⟨n - 1, by omega⟩
  have HP := hide (hpiece w i h0 h hi n (by omega))
  have hbl := heap_lt h
  generalize hrr : gItem s (n + 1) (skipB s i) = rr
  rw [gItem] at hrr
  clear h hpiece
  go_enter Tryz.func149, Tryz.ntmps149
  go_wp2_with fail
  refine (unhide HP).mono ?_
  rintro e w1 hP1
  cases hg : gPiece s n (skipB s i) with
  | err p =>
    rw [hg] at hP1 hrr
    obtain ⟨hp, hg1, hq1, rfl⟩ := hP1
    have HR := hide hrr
    clear hg HP hrr
    go_wp2
    go_ret
    rw [← unhide HR]
    exact ⟨hp, hg1, hq1, rfl⟩
  | ok t j =>
    rw [hg] at hP1 hrr
    obtain ⟨hj, hg1, hq1, g, rfl, hT⟩ := hP1
    simp only [Res.bind] at hrr
    have hsb := skipB_bd s j hj
    have hid := skipB_idem s j hj
    have HT := hide hT
    clear hg HP hT
    by_cases h42 : pk s (skipB s j) = 42
    · have hjs : skipB s j < s.size := pk_lt (by rw [h42]; decide)
      have HTk := hide (stake_ok 42 (by decide) (by decide) hq1 hs hj ((pe_eq (by decide)).2 h42))
      rw [if_pos h42] at hrr
      have HR := hide hrr
      clear h42 hrr hid hq1
      generalize skipB s j = a at *
      go_wp2_with fail
      refine (unhide HTk).mono ?_
      rintro e w2 ⟨rfl, hq2, hg2⟩
      have c1 := cellOf hq2 1
      simp at c1
      have c2 : (w2.alloc (.cells #[.pointer (some ⟨g, 0, none⟩)] 54)).cell? ⟨b, 1, none⟩ = some (.int .i64 ((a : Int) + 1)) := by rw [World.cell?_alloc_past _ _ _ (heap_lt hq2)]; exact c1
      go_wp2
      go_ret
      rw [← unhide HR]
      have hga := ((World.grownBy_alloc w2 (.cells #[.pointer (some ⟨g, 0, none⟩)] 54) (some b)).trans (World.grownBy_alloc _ (.cells #[.int .i64 (a : Int)] 3) _)).trans (World.grownBy_alloc _ (pblk2 4 (.slice (some ⟨w2.heap.size, 0, none⟩) 1 1) (.slice (some ⟨w2.heap.size + 1, 0, none⟩) 1 1)) _)
      have hs2 := Nat.le_trans hg1.size hg2.size
      have old : ∀ k, k < w1.heap.size → ¬ k < w.heap.size → _ := fun k hk hy => (hga.block k (Nat.lt_of_lt_of_le hk hg2.size) (fun e => hy (by cases e; exact hbl))).trans (grown_heap hg2 k hk (fun e => hy (by omega)))
      refine ⟨a + 1, hjs, rfl, (hg1.trans hg2).trans hga, heap_alloc_old _ (heap_alloc_old _ (heap_alloc_old _ hq2)), w2.heap.size + 2, rfl, ?_⟩
      rw [LR]
      refine ⟨by omega, .slice (some ⟨w2.heap.size, 0, none⟩) 1 1, .slice (some ⟨w2.heap.size + 1, 0, none⟩) 1 1, g, alloc3_at w2 _ _ _, ⟨?_, fun k e => ?_⟩, ⟨?_, fun k e => ?_⟩, LR.kept old (unhide HT)⟩
      · exact ((World.ownsRow_lit (base := 0) (e := 54) (size := 1) w2 #[.pointer (some ⟨g, 0, none⟩)] 1 (by omega) (by unfold maxLen; omega) rfl).alloc _).alloc _
      · simp [Value.ownBlock] at e
        omega
      · have := (World.ownsRow_lit (base := 0) (e := 3) (size := 1) (w2.alloc (.cells #[.pointer (some ⟨g, 0, none⟩)] 54)) #[.int .i64 (a : Int)] 1 (by omega) (by unfold maxLen; omega) rfl).alloc (pblk2 4 (.slice (some ⟨w2.heap.size, 0, none⟩) 1 1) (.slice (some ⟨w2.heap.size + 1, 0, none⟩) 1 1))
        have hsz : ∀ o, (w2.alloc o).heap.size = w2.heap.size + 1 := fun o => by simp
        rw [hsz] at this
        exact this
      · simp [Value.ownBlock] at e
        omega
    · have HTk := hide (stake_no 42 (by decide) (by decide) hq1 hs hj (fun e => h42 ((pe_eq (by decide)).1 e)))
      rw [if_neg h42] at hrr
      have HR := hide hrr
      clear h42 hrr hq1
      go_wp2_with fail
      refine (unhide HTk).mono ?_
      rintro e w2 ⟨rfl, hq2, hg2⟩
      go_wp2
      go_ret
      rw [← unhide HR]
      exact ⟨skipB s j, hsb.2, hid, hg1.trans hg2, hq2, g, rfl, LR.kept (fun k hk hy => grown_heap hg2 k hk (fun e => hy (by show k < w.heap.size; omega))) (unhide HT)⟩

end Go.Proofs.YtlljggefbngkeaaGreatDoor

namespace Go.Proofs.YtlljggefbngkeaaGreatDoor
open Go.RowKit

theorem Tryz.infoLensP : (Tryz.prog.info? 54).map (fun i => (i.zero, i.size, i.bytes)) = some (some (.pointer none), 1, 8) := by kernel_rfl

theorem LR.loc (s : ByteArray) (t : LT) (g : Nat) : Loc (fun w Y => LR s w Y t g) := ⟨fun hk h => LR.kept hk h, fun hZ h => LR.reY hZ h⟩
theorem LRL.loc (s : ByteArray) (l : List LT) (gs : List Nat) : Loc (fun w Y => LRL s w Y l gs) := ⟨fun hk h => LRL.kept hk h, fun hZ h => LRL.reY hZ h⟩

/-- several lenses joined to one (5: a row; 6: a choice) -/
def lJoin (kind : Int) (l : List LT) (ps : List Nat) : LT := if kind = 5 then joinRow l ps else joinAlt l ps
theorem lJoin_one (kind : Int) (t : LT) (ps : List Nat) : lJoin kind [t] ps = t := by unfold lJoin; split <;> rfl
theorem lJoin_LR {kind : Int} (hh : kind = 5 ∨ kind = 6) {s : ByteArray} {l : List LT} {ps : List Nat} (hl : l.length ≠ 1) {w : World} {Y : Nat → Prop} {g : Nat} {v jv : Value} {gs : List Nat} (h0 : ¬ Y g) (h1 : w.heap[g]? = some (pblk2 kind v jv)) (h2 : LW w Y v gs) (h3 : JW w Y jv ps) (h4 : LRL s w Y l gs) : LR s w Y (lJoin kind l ps) g := by
  have e : lJoin kind l ps = if kind = 5 then .row l ps else .choice l ps := by
    match l, hl with
    | [], _ => rfl
    | [t], h => exact absurd rfl h
    | t :: u :: l, _ => rfl
  rw [e]
  rcases hh with rfl | rfl
  · rw [if_pos rfl, LR]; exact ⟨h0, v, jv, gs, h1, h2, h3, h4⟩
  · rw [if_neg (by decide), LR]; exact ⟨h0, v, jv, gs, h1, h2, h3, h4⟩

def SJPost (s : ByteArray) (w : World) (Y : Nat → Prop) (t : LT) (e : Ending) (w' : World) : Prop := ∃ g, e = .returned (.pointer (some ⟨g, 0, none⟩)) ∧ w.grownBy w' none ∧ LR s w' Y t g

set_option maxRecDepth 100000 in
set_option maxHeartbeats 1600000 in
theorem sjoined {s : ByteArray} {w : World} {Y : Nat → Prop} {v jv : Value} {gs : List Nat} {ps : List Nat} {l : List LT} (kind : Int) (hh : kind = 5 ∨ kind = 6) (hv : LW w Y v gs) (hj : JW w Y jv ps) (hT : LRL s w Y l gs) (hY : ∀ k, Y k → k < w.heap.size) (hl : gs.length ≤ 1000) :
    Calls Tryz.prog 125 #[.int .i64 kind, v, jv] w fun e w' => SJPost s w Y (lJoin kind l ps) e w' := by
  have hlen := hT.len
  by_cases h1 : gs.length = 1
  · obtain ⟨g, rfl⟩ := List.length_eq_one_iff.1 h1
    obtain ⟨t, rfl⟩ := List.length_eq_one_iff.1 (hlen.symm.trans h1)
    obtain ⟨k, cap, rfl, _, hlt⟩ := hv.1.form (by simp)
    have c0 := hv.1.cellAt 0 (by simp)
    simp [ptrs] at c0
    rw [LRL] at hT
    have HT := hide hT.1
    clear hT hv hlen hj
    simp only [List.length_singleton] at *
    go_enter Tryz.func125, Tryz.ntmps125
    go_wp2
    go_ret
    refine ⟨g, rfl, World.grownBy.refl _ _, ?_⟩
    rw [lJoin_one]
    exact unhide HT
  · obtain ⟨ao, cp, rfl⟩ := own_slice hv.1
    obtain ⟨aj, cj, rfl⟩ := own_slice hj.1
    have q1 : ((gs.length : Int) == 1) = false := by rw [beq_eq_false_iff_ne]; omega
    have HT := hide (And.intro hT (And.intro hv hj))
    have hl1 : l.length ≠ 1 := by omega
    clear hv hT h1 hlen hj
    go_enter Tryz.func125, Tryz.ntmps125
    go_wp2
    go_ret
    have hg := World.grownBy_alloc w (pblk2 kind (.slice ao gs.length cp) (.slice aj ps.length cj)) none
    refine ⟨w.heap.size, rfl, hg, ?_⟩
    obtain ⟨hT, hv, hj⟩ := unhide HT
    exact lJoin_LR hh hl1 (fun hy => by have := hY _ hy; omega) (heap_alloc_new w _) (hv.kept (fun k hk _ => hg.block k hk (by simp))) (hj.kept (fun k hk _ => hg.block k hk (by simp))) (LRL.kept (fun k hk _ => hg.block k hk (by simp)) hT)

end Go.Proofs.YtlljggefbngkeaaGreatDoor

namespace Go.Proofs.YtlljggefbngkeaaGreatDoor
open Go.RowKit

/-- a row that is being read: the parts v, the joints u -/
def RwRel (w : World) (b : Nat) (s : ByteArray) (i : Nat) (r : Res (List LT × List Nat)) (next : Nat → Nat → Res (List LT × List Nat)) (need : Nat) (gk : Nat) (v u : Value) (wv : World) : Prop :=
  ∃ gs ts ps j m, wv.ownsRow 0 54 1 v gs.length (ptrs gs) ∧ (∀ k, v.ownBlock = some k → ¬ k < w.heap.size) ∧ wv.ownsRow 0 3 1 u ps.length (nums ps) ∧ (∀ k, u.ownBlock = some k → ¬ k < w.heap.size) ∧ w.grownBy wv (some b) ∧
    wv.heap[b]? = some (sblk s j) ∧ LRL s wv (fun k => (k < w.heap.size ∨ u.ownBlock = some k) ∨ v.ownBlock = some k) ts gs ∧ r = (next m j).map (fun x => (ts ++ x.1, ps ++ x.2)) ∧ 4 * (s.size - j) + need ≤ m ∧ i ≤ j ∧ j ≤ s.size ∧ s.size - j < gk ∧ gs.length ≤ j ∧ ps.length ≤ j

/-- one more part -/
theorem push_part {w wr w3 w5 : World} {b g3 g5 cap j3 : Nat} {s : ByteArray} {v u : Value} {gs ps : List Nat} {ts : List LT} {t3 : LT} {o : Obj} (hbl : b < w.heap.size)
    (hown : wr.ownsRow 0 54 1 v gs.length (ptrs gs)) (hvn : ∀ k, v.ownBlock = some k → ¬ k < w.heap.size) (hu : wr.ownsRow 0 3 1 u ps.length (nums ps)) (hun : ∀ k, u.ownBlock = some k → ¬ k < w.heap.size)
    (hg : w.grownBy wr (some b)) (hTL : LRL s wr (fun k => (k < w.heap.size ∨ u.ownBlock = some k) ∨ v.ownBlock = some k) ts gs) (hg3 : wr.grownBy w3 (some b)) (hq3 : w3.heap[b]? = some (sblk s j3)) (hT3 : LR s w3 (fun k => k < wr.heap.size) t3 g3)
    (hown5 : w5.ownsRow 0 54 1 (.slice (some ⟨g5, 0, none⟩) (gs.length + 1) cap) (gs.length + 1) (ptrs gs ++ [.pointer (some ⟨g3, 0, none⟩)]))
    (hgrow5 : (w3.alloc o).grownBy w5 v.ownBlock) (hat5 : v.ownBlock = some g5 ∨ g5 = w3.heap.size + 1) :
    w5.ownsRow 0 54 1 (.slice (some ⟨g5, 0, none⟩) (gs.length + 1) cap) (gs ++ [g3]).length (ptrs (gs ++ [g3])) ∧ (∀ k, (Value.slice (some ⟨g5, 0, none⟩) (gs.length + 1) cap).ownBlock = some k → ¬ k < w.heap.size) ∧
    w5.ownsRow 0 3 1 u ps.length (nums ps) ∧ w.grownBy w5 (some b) ∧ w5.heap[b]? = some (sblk s j3) ∧
    LRL s w5 (fun k => (k < w.heap.size ∨ u.ownBlock = some k) ∨ (Value.slice (some ⟨g5, 0, none⟩) (gs.length + 1) cap).ownBlock = some k) (ts ++ [t3]) (gs ++ [g3]) := by
  obtain ⟨k1, k2, k3⟩ := push_keep (m := gs.length + 1) (cap := cap) (X := fun k => k < w.heap.size ∨ u.ownBlock = some k) (own_lt hown) (fun k hk => hk.elim (fun hk => Nat.lt_of_lt_of_le hk hg.size) (own_lt hu k)) (Or.inl hbl) hg3 hgrow5 hat5
  have hvb : v.ownBlock ≠ some b := fun e => hvn b e hbl
  refine ⟨by simpa [ptrs] using hown5, push_vn hvn hg hg3 hat5, own_same hu (fun k e => ?_), push_grown hvn hg hg3 hgrow5, (k3 b (heap_lt hq3) hvb).trans hq3, LRL.push (k2 (LR.loc s _ _) hT3) (k1 (LRL.loc s _ _) hTL)⟩
  have hk := own_lt hu k e
  exact (k3 k (Nat.lt_of_lt_of_le hk hg3.size) (own_ty hu hown (by decide) k e)).trans (grown_heap hg3 k hk (fun e' => hun k e (by omega)))

/-- one more joint -/
theorem push_joint {w w3 w5 : World} {b g5 cap j3 p : Nat} {s : ByteArray} {v u : Value} {gs ps : List Nat} {ts : List LT} {o : Obj} (hbl : b < w.heap.size)
    (hown : w3.ownsRow 0 54 1 v gs.length (ptrs gs)) (_hvn : ∀ k, v.ownBlock = some k → ¬ k < w.heap.size) (hu : w3.ownsRow 0 3 1 u ps.length (nums ps)) (hun : ∀ k, u.ownBlock = some k → ¬ k < w.heap.size)
    (hg : w.grownBy w3 (some b)) (hTL : LRL s w3 (fun k => (k < w.heap.size ∨ u.ownBlock = some k) ∨ v.ownBlock = some k) ts gs) (hq3 : w3.heap[b]? = some (sblk s j3))
    (hown5 : w5.ownsRow 0 3 1 (.slice (some ⟨g5, 0, none⟩) (ps.length + 1) cap) (ps.length + 1) (nums ps ++ [.int .i64 (p : Int)]))
    (hgrow5 : (w3.alloc o).grownBy w5 u.ownBlock) (hat5 : u.ownBlock = some g5 ∨ g5 = w3.heap.size + 1) :
    w5.ownsRow 0 54 1 v gs.length (ptrs gs) ∧ w5.ownsRow 0 3 1 (.slice (some ⟨g5, 0, none⟩) (ps.length + 1) cap) (ps ++ [p]).length (nums (ps ++ [p])) ∧ (∀ k, (Value.slice (some ⟨g5, 0, none⟩) (ps.length + 1) cap).ownBlock = some k → ¬ k < w.heap.size) ∧
    w.grownBy w5 (some b) ∧ w5.heap[b]? = some (sblk s j3) ∧
    LRL s w5 (fun k => (k < w.heap.size ∨ (Value.slice (some ⟨g5, 0, none⟩) (ps.length + 1) cap).ownBlock = some k) ∨ v.ownBlock = some k) ts gs := by
  obtain ⟨k1, k2, k3⟩ := push_keep (m := ps.length + 1) (cap := cap) (X := fun k => k < w.heap.size ∨ v.ownBlock = some k) (own_lt hu) (fun k hk => hk.elim (fun hk => Nat.lt_of_lt_of_le hk hg.size) (own_lt hown k)) (Or.inl hbl) (World.grownBy.refl w3 _) hgrow5 hat5
  have hvb : u.ownBlock ≠ some b := fun e => hun b e hbl
  refine ⟨own_same hown (fun k e => ?_), by simpa [nums] using hown5, push_vn hun hg (World.grownBy.refl w3 _) hat5, push_grown hun hg (World.grownBy.refl w3 _) hgrow5, (k3 b (heap_lt hq3) hvb).trans hq3, ?_⟩
  · exact k3 k (own_lt hown k e) (own_ty hown hu (by decide) k e)
  · refine LRL.reY (fun k _ h => ?_) (k1 (LRL.loc s _ _) (LRL.reY (fun k _ h => ?_) hTL))
    · rcases h with (h | h) | h
      · exact Or.inl (Or.inl h)
      · exact Or.inr h
      · exact Or.inl (Or.inr h)
    · rcases h with (h | h) | h
      · exact Or.inl (Or.inl h)
      · exact Or.inr h
      · exact Or.inl (Or.inr h)

theorem atPiece_pe (s : ByteArray) (j : Nat) : (decide (pe s j = 47) || decide (pe s j = 126) || decide (pe s j = 40)) = atPiece (pk s j) := by
  have h1 := pe_eq (s := s) (i := j) (c := 47) (by decide)
  have h2 := pe_eq (s := s) (i := j) (c := 126) (by decide)
  have h3 := pe_eq (s := s) (i := j) (c := 40) (by decide)
  rw [Bool.eq_iff_iff]
  simp only [Bool.or_eq_true, decide_eq_true_eq, h1, h2, h3, atPiece, hasL, List.any_cons, List.any_nil, beq_iff_eq]
  simp only [Bool.false_eq_true, or_false]
  constructor
  · rintro ((h | h) | h) <;> rw [h] <;> decide
  · rintro (h | h | h)
    · exact Or.inl (Or.inl h.symm)
    · exact Or.inl (Or.inr h.symm)
    · exact Or.inr h.symm

def SRowSaid (s : ByteArray) (b i0 : Nat) : Prop :=
  ∀ (w : World) (i : Nat), i0 ≤ i → w.heap[b]? = some (sblk s i) → i ≤ s.size → ∀ n, 4 * (s.size - i) + 3 ≤ n →
    Calls Tryz.prog 123 #[.pointer (some ⟨b, 0, none⟩)] w fun e w' => SPost b s w e w' ((gItems s n (skipB s i)).map fun x => joinRow x.1 x.2)

set_option maxRecDepth 100000 in
set_option maxHeartbeats 3200000 in
theorem srow_of {s : ByteArray} {b i0 : Nat} (hs : s.size ≤ 120) (hitem : SItemSaid s b i0) : SRowSaid s b i0 := by
  intro w i h0 h hi n hn
  obtain ⟨i1, hi1, hz0, hz1, hz2⟩ := info_parts Tryz.infoLensP
  obtain ⟨i2, hi2, hy0, hy1, hy2⟩ := info_parts Tryz.infoInt
  generalize hr : gItems s n (skipB s i) = r
  have hbl := heap_lt h
  have H0 : Hid (RwRel w b s i r (fun m j => gItems s m (skipB s j)) 3 (s.size - i + 1) (.slice none 0 0) (.slice none 0 0) w) := by
    refine ⟨[], [], [], i, n, World.ownsRow_nil _ _ _ _, (by intro k hk; cases hk), World.ownsRow_nil _ _ _ _, (by intro k hk; cases hk), World.grownBy.refl _ _, h, by rw [LRL]; trivial, ?_, hn, Nat.le_refl _, hi, by omega, by simp, by simp⟩
    show r = Res.map _ (gItems s n (skipB s i))
    rw [hr]; cases r <;> rfl
  have HD := hide hitem
  clear h hr hn hitem
  go_enter Tryz.func123, Tryz.ntmps123
  go_wp2_with fail
  go_loopg [3, 4] (s.size - i + 1) (fun gk vv uu wv => RwRel w b s i r (fun m j => gItems s m (skipB s j)) 3 gk vv uu wv)
  case atStart => exact unhide H0
  case round =>
    clear H0
    obtain ⟨gs, ts, ps, j, m, hown, hvn, hu, hun, hg, hqb, hTL, hr, hm, hij, hj, hgk, hgl, hpl⟩ := hrel
    obtain ⟨m, rfl⟩ : ∃ m', m = m' + 1 := ⟨m - 1, by omega⟩
    obtain ⟨ao, cp, rfl⟩ := own_slice hown
    obtain ⟨aj, cj, rfl⟩ := own_slice hu
    have HIt := hide (unhide HD wr j (by omega) hqb hj m (by omega))
    have HF := hide (And.intro hown (And.intro hvn (And.intro hu (And.intro hun (And.intro hg (And.intro hTL hr))))))
    clear hown hvn hu hun hg hqb hTL hr
    go_wp2_with fail
    refine (unhide HIt).mono ?_
    rintro e w2 hP2
    cases hg : gItem s m (skipB s j) with
    | err p =>
      rw [hg] at hP2
      obtain ⟨hp, hg2, hq2, rfl⟩ := hP2
      have HR : Hid (r = .err p) := by
        show r = _
        rw [(unhide HF).2.2.2.2.2.2, gItems, hg]
        rfl
      clear hg HIt
      go_wp2
      go_ret
      rw [unhide HR]
      exact ⟨hp, (unhide HF).2.2.2.2.1.trans hg2, hq2, rfl⟩
    | ok t j1 =>
      rw [hg] at hP2
      obtain ⟨j', hj', hsk, hg2, hq2, g, rfl, hT⟩ := hP2
      have hjj := (gL_lt s m).2.1 _ _ _ hg
      have hjj0 := skipB_le s j
      have hst := gItem_stop hg
      have hj1 : j1 ≤ s.size := by rw [← hsk]; exact (skipB_bd s j' hj').2
      have HR : Hid (r = if atPiece (pk s j1) = true then (gItems s m j1).map (fun x => (ts ++ t :: x.1, ps ++ j1 :: x.2)) else .ok (ts ++ [t], ps) j1) := by
        show r = _
        rw [(unhide HF).2.2.2.2.2.2, gItems, hg]
        simp only [Res.bind]
        split
        · rw [Res.map_map]
        · simp [Res.map]
      obtain ⟨hown, hvn, hu, hun, hgw, hTL, _⟩ := unhide HF
      have hvb : (Value.slice ao gs.length cp).ownBlock ≠ some b := fun e => hvn b e hbl
      have hown2 : w2.ownsRow 0 54 1 (.slice ao gs.length cp) gs.length (ptrs gs) := own_same hown (fun k e => grown_heap hg2 k (own_lt hown k e) (fun e' => hvb (by rw [e, e'])))
      have hglen : gs.length + 1 ≤ 1000 := by omega
      have hplen : ps.length + 1 ≤ 1000 := by omega
      have HK := hide (And.intro hg2 (And.intro hT hq2))
      clear hg HIt hT hq2 hown hTL hgw hg2 hvn hu hun
      go_wp2_with (at_builtin; refine wpList_append_lies _ rfl (.tmp 10) (.tmp 12) 115 rfl 0 54 i1 _ 1 8 Tryz.underlying115 hi1 hz0 hz1 hz2 rfl (by decide) (.slice ao gs.length cp) gs.length (ptrs gs) rfl (hown2.alloc _) ⟨w2.heap.size, 0, none⟩ 1 1 [.pointer (some ⟨g, 0, none⟩)] rfl rfl (World.news_of_block (cs := #[.pointer (some ⟨g, 0, none⟩)]) (heap_alloc_new w2 _)) (by simp [Value.oneCell']) (by omega) (by unfold maxLen; omega) (by omega) (by omega) (w2.heap.size + 1) (by simp) ?_)
      intro g5 cap w5 hown5 hgrow5 hat5 hlt5
      have HP := hide (push_part hbl (unhide HF).1 (unhide HF).2.1 (unhide HF).2.2.1 (unhide HF).2.2.2.1 (unhide HF).2.2.2.2.1 (unhide HF).2.2.2.2.2.1 (unhide HK).1 (unhide HK).2.2 (unhide HK).2.1 hown5 hgrow5 hat5)
      have HU := hide (unhide HF).2.2.2.1
      have HA := hide (satPiece (unhide HP).2.2.2.2.1 hs hj')
      rw [hsk, atPiece_pe] at HA
      clear hown5 hgrow5 hat5 hown2 HF HK
      cases hat : atPiece (pk s j1) with
      | true =>
        rw [hat] at HA
        rw [if_pos hat] at HR
        clear hat
        go_wp2_with fail
        refine (unhide HA).mono ?_
        rintro e w6 ⟨rfl, h6, g6⟩
        have c1 := cellOf h6 1
        simp at c1
        obtain ⟨k1, k2, k3, k4, k5, k6⟩ := unhide HP
        have old : ∀ k, k < w5.heap.size → ¬ k < w.heap.size → w6.heap[k]? = w5.heap[k]? := fun k hk hy => grown_heap g6 k hk (fun e => hy (by omega))
        have hu6 : w6.ownsRow 0 3 1 (.slice aj ps.length cj) ps.length (nums ps) := own_same k3 (fun k e => old k (own_lt k3 k e) (unhide HU k e))
        have HP6 := hide (And.intro (own_same k1 (fun k e => old k (own_lt k1 k e) (k2 k e))) (And.intro k2 (And.intro (k4.trans g6) (And.intro (LRL.kept (fun k hk hy => old k hk (fun h => hy (Or.inl (Or.inl h)))) k6) h6))))
        clear h6 g6 k1 k2 k3 k4 k5 k6 old HP
        go_wp2_with (at_builtin; refine wpList_append_lies _ rfl (.tmp 20) (.tmp 25) 80 rfl 0 3 i2 _ 1 8 Tryz.underlying80 hi2 hy0 hy1 hy2 rfl (by decide) (.slice aj ps.length cj) ps.length (nums ps) rfl (hu6.alloc _) ⟨w6.heap.size, 0, none⟩ 1 1 [.int .i64 (j1 : Int)] rfl rfl (World.news_of_block (cs := #[.int .i64 (j1 : Int)]) (heap_alloc_new w6 _)) (by simp [Value.oneCell']) (by omega) (by unfold maxLen; omega) (by omega) (by omega) (w6.heap.size + 1) (by simp) ?_)
        intro g7 cap7 w7 hown7 hgrow7 hat7 hlt7
        go_wp2_with fail
        go_roundg (s.size - j)
        case measure => exact hgk
        case rel =>
          obtain ⟨q1, q2, q3, q4, q5⟩ := unhide HP6
          obtain ⟨r1, r2, r3, r4, r5, r6⟩ := push_joint (gs := gs ++ [g]) hbl q1 q2 hu6 (unhide HU) q3 q4 q5 hown7 hgrow7 hat7
          refine ⟨gs ++ [g], ts ++ [t], ps ++ [j1], j1, m, r1, q2, r2, r3, r4, r5, r6, ?_, by omega, by omega, hj1, by omega, by simp; omega, by simp; omega⟩
          rw [unhide HR]
          simp [hst]
      | false =>
        rw [hat] at HA
        rw [if_neg (by rw [hat]; decide)] at HR
        clear hat
        go_wp2_with fail
        refine (unhide HA).mono ?_
        rintro e w6 ⟨rfl, h6, g6⟩
        obtain ⟨k1, k2, k3, k4, k5, k6⟩ := unhide HP
        have old : ∀ k, k < w5.heap.size → ¬ k < w.heap.size → w6.heap[k]? = w5.heap[k]? := fun k hk hy => grown_heap g6 k hk (fun e => hy (by omega))
        have HJ := hide (sjoined (s := s) (w := w6) (Y := fun k => k < w.heap.size) (l := ts ++ [t]) 5 (Or.inl rfl) ⟨own_same k1 (fun k e => old k (own_lt k1 k e) (k2 k e)), k2⟩ ⟨own_same k3 (fun k e => old k (own_lt k3 k e) (unhide HU k e)), unhide HU⟩ (LRL.kept old (LRL.reY (fun k _ hk => Or.inl (Or.inl hk)) k6)) (fun k hk => Nat.lt_of_lt_of_le hk (k4.trans g6).size) (by simp; omega))
        have H6 := hide (And.intro (k4.trans g6) h6)
        clear k1 k2 k3 k4 k5 k6 old h6 g6
        go_wp2_with fail
        refine (unhide HJ).mono ?_
        rintro e w7 ⟨g7, rfl, hg7, hT7⟩
        go_wp2
        go_ret
        rw [unhide HR]
        exact ⟨hj1, (unhide H6).1.andThen hg7 (fun k e => by cases e), (hg7.block b (heap_lt (unhide H6).2) (by simp)).trans (unhide H6).2, g7, rfl, hT7⟩

end Go.Proofs.YtlljggefbngkeaaGreatDoor

namespace Go.Proofs.YtlljggefbngkeaaGreatDoor
open Go.RowKit

set_option maxRecDepth 100000 in
set_option maxHeartbeats 3200000 in
theorem slens_of {s : ByteArray} {b i0 : Nat} (hs : s.size ≤ 120) (hrow : SRowSaid s b i0) : SLensSaid s b i0 := by
  intro w i h0 h hi n hn
  obtain ⟨i1, hi1, hz0, hz1, hz2⟩ := info_parts Tryz.infoLensP
  obtain ⟨i2, hi2, hy0, hy1, hy2⟩ := info_parts Tryz.infoInt
  generalize hr : gRows s n i = r
  have hbl := heap_lt h
  have H0 : Hid (RwRel w b s i r (gRows s) 4 (s.size - i + 1) (.slice none 0 0) (.slice none 0 0) w) := by
    refine ⟨[], [], [], i, n, World.ownsRow_nil _ _ _ _, (by intro k hk; cases hk), World.ownsRow_nil _ _ _ _, (by intro k hk; cases hk), World.grownBy.refl _ _, h, by rw [LRL]; trivial, ?_, hn, Nat.le_refl _, hi, by omega, by simp, by simp⟩
    rw [hr]; cases r <;> rfl
  have HD := hide hrow
  clear h hr hn hrow
  go_enter Tryz.func80, Tryz.ntmps80
  go_wp2_with fail
  go_loopg [3, 4] (s.size - i + 1) (fun gk vv uu wv => RwRel w b s i r (gRows s) 4 gk vv uu wv)
  case atStart => exact unhide H0
  case round =>
    clear H0
    obtain ⟨gs, ts, ps, j, m, hown, hvn, hu, hun, hg, hqb, hTL, hr, hm, hij, hj, hgk, hgl, hpl⟩ := hrel
    obtain ⟨m, rfl⟩ : ∃ m', m = m' + 1 := ⟨m - 1, by omega⟩
    obtain ⟨ao, cp, rfl⟩ := own_slice hown
    obtain ⟨aj, cj, rfl⟩ := own_slice hu
    have HIt := hide (unhide HD wr j (by omega) hqb hj m (by omega))
    have HF := hide (And.intro hown (And.intro hvn (And.intro hu (And.intro hun (And.intro hg (And.intro hTL hr))))))
    clear hown hvn hu hun hg hqb hTL hr
    go_wp2_with fail
    refine (unhide HIt).mono ?_
    rintro e w2 hP2
    cases hg : gItems s m (skipB s j) with
    | err p =>
      rw [hg] at hP2
      obtain ⟨hp, hg2, hq2, rfl⟩ := hP2
      have HR : Hid (r = .err p) := by
        show r = _
        rw [(unhide HF).2.2.2.2.2.2, gRows, hg]
        rfl
      clear hg HIt
      go_wp2
      go_ret
      rw [unhide HR]
      exact ⟨hp, (unhide HF).2.2.2.2.1.trans hg2, hq2, rfl⟩
    | ok x j1 =>
      rw [hg] at hP2
      obtain ⟨hj1, hg2, hq2, g, rfl, hT⟩ := hP2
      have hjj := (gL_lt s m).2.2.1 _ _ _ hg
      have hjj0 := skipB_le s j
      have hst := gItems_stop hg
      have HR : Hid (r = if pk s j1 = 124 then (gRows s m (j1 + 1)).map (fun y => (ts ++ joinRow x.1 x.2 :: y.1, ps ++ j1 :: y.2)) else .ok (ts ++ [joinRow x.1 x.2], ps) j1) := by
        show r = _
        rw [(unhide HF).2.2.2.2.2.2, gRows, hg]
        simp only [Res.bind]
        split
        · rw [Res.map_map]
        · simp [Res.map]
      have hT' : LR s w2 (fun k => k < wr.heap.size) (joinRow x.1 x.2) g := hT
      generalize joinRow x.1 x.2 = t at *
      obtain ⟨hown, hvn, hu, hun, hgw, hTL, _⟩ := unhide HF
      have hvb : (Value.slice ao gs.length cp).ownBlock ≠ some b := fun e => hvn b e hbl
      have hown2 : w2.ownsRow 0 54 1 (.slice ao gs.length cp) gs.length (ptrs gs) := own_same hown (fun k e => grown_heap hg2 k (own_lt hown k e) (fun e' => hvb (by rw [e, e'])))
      have hglen : gs.length + 1 ≤ 1000 := by omega
      have hplen : ps.length + 1 ≤ 1000 := by omega
      have HK := hide (And.intro hg2 (And.intro hT' hq2))
      clear hg HIt hT hT' hq2 hown hTL hgw hg2 hvn hu hun
      go_wp2_with (at_builtin; refine wpList_append_lies _ rfl (.tmp 10) (.tmp 12) 115 rfl 0 54 i1 _ 1 8 Tryz.underlying115 hi1 hz0 hz1 hz2 rfl (by decide) (.slice ao gs.length cp) gs.length (ptrs gs) rfl (hown2.alloc _) ⟨w2.heap.size, 0, none⟩ 1 1 [.pointer (some ⟨g, 0, none⟩)] rfl rfl (World.news_of_block (cs := #[.pointer (some ⟨g, 0, none⟩)]) (heap_alloc_new w2 _)) (by simp [Value.oneCell']) (by omega) (by unfold maxLen; omega) (by omega) (by omega) (w2.heap.size + 1) (by simp) ?_)
      intro g5 cap w5 hown5 hgrow5 hat5 hlt5
      have HP := hide (push_part hbl (unhide HF).1 (unhide HF).2.1 (unhide HF).2.2.1 (unhide HF).2.2.2.1 (unhide HF).2.2.2.2.1 (unhide HF).2.2.2.2.2.1 (unhide HK).1 (unhide HK).2.2 (unhide HK).2.1 hown5 hgrow5 hat5)
      have HU := hide (unhide HF).2.2.2.1
      clear hown5 hgrow5 hat5 hown2 HF HK
      by_cases h124 : pk s j1 = 124
      · have hnl : j1 < s.size := pk_lt (by rw [h124]; decide)
        have HA := hide (stake_ok 124 (by decide) (by decide) (unhide HP).2.2.2.2.1 hs hj1 (by rw [hst]; exact (pe_eq (by decide)).2 h124))
        rw [hst] at HA
        rw [if_pos h124] at HR
        clear h124
        go_wp2_with fail
        refine (unhide HA).mono ?_
        rintro e w6 ⟨rfl, h6, g6⟩
        have c1 := cellOf h6 1
        simp at c1
        obtain ⟨k1, k2, k3, k4, k5, k6⟩ := unhide HP
        have old : ∀ k, k < w5.heap.size → ¬ k < w.heap.size → w6.heap[k]? = w5.heap[k]? := fun k hk hy => grown_heap g6 k hk (fun e => hy (by omega))
        have hu6 : w6.ownsRow 0 3 1 (.slice aj ps.length cj) ps.length (nums ps) := own_same k3 (fun k e => old k (own_lt k3 k e) (unhide HU k e))
        have HP6 := hide (And.intro (own_same k1 (fun k e => old k (own_lt k1 k e) (k2 k e))) (And.intro k2 (And.intro (k4.trans g6) (And.intro (LRL.kept (fun k hk hy => old k hk (fun h => hy (Or.inl (Or.inl h)))) k6) h6))))
        clear h6 g6 k1 k2 k3 k4 k5 k6 old HP
        go_wp2_with (at_builtin; refine wpList_append_lies _ rfl (.tmp 20) (.tmp 26) 80 rfl 0 3 i2 _ 1 8 Tryz.underlying80 hi2 hy0 hy1 hy2 rfl (by decide) (.slice aj ps.length cj) ps.length (nums ps) rfl (hu6.alloc _) ⟨w6.heap.size, 0, none⟩ 1 1 [.int .i64 (j1 : Int)] rfl rfl (World.news_of_block (cs := #[.int .i64 (j1 : Int)]) (heap_alloc_new w6 _)) (by simp [Value.oneCell']) (by omega) (by unfold maxLen; omega) (by omega) (by omega) (w6.heap.size + 1) (by simp) ?_)
        intro g7 cap7 w7 hown7 hgrow7 hat7 hlt7
        go_wp2_with fail
        go_roundg (s.size - j)
        case measure => exact hgk
        case rel =>
          obtain ⟨q1, q2, q3, q4, q5⟩ := unhide HP6
          obtain ⟨r1, r2, r3, r4, r5, r6⟩ := push_joint (gs := gs ++ [g]) hbl q1 q2 hu6 (unhide HU) q3 q4 q5 hown7 hgrow7 hat7
          refine ⟨gs ++ [g], ts ++ [t], ps ++ [j1], j1 + 1, m, r1, q2, r2, r3, r4, r5, r6, ?_, by omega, by omega, hnl, by omega, by simp; omega, by simp; omega⟩
          rw [unhide HR]
          simp
      · have HA := hide (stake_no 124 (by decide) (by decide) (unhide HP).2.2.2.2.1 hs hj1 (by rw [hst]; exact fun e => h124 ((pe_eq (by decide)).1 e)))
        rw [hst] at HA
        rw [if_neg h124] at HR
        clear h124
        go_wp2_with fail
        refine (unhide HA).mono ?_
        rintro e w6 ⟨rfl, h6, g6⟩
        obtain ⟨k1, k2, k3, k4, k5, k6⟩ := unhide HP
        have old : ∀ k, k < w5.heap.size → ¬ k < w.heap.size → w6.heap[k]? = w5.heap[k]? := fun k hk hy => grown_heap g6 k hk (fun e => hy (by omega))
        have HJ := hide (sjoined (s := s) (w := w6) (Y := fun k => k < w.heap.size) (l := ts ++ [t]) 6 (Or.inr rfl) ⟨own_same k1 (fun k e => old k (own_lt k1 k e) (k2 k e)), k2⟩ ⟨own_same k3 (fun k e => old k (own_lt k3 k e) (unhide HU k e)), unhide HU⟩ (LRL.kept old (LRL.reY (fun k _ hk => Or.inl (Or.inl hk)) k6)) (fun k hk => Nat.lt_of_lt_of_le hk (k4.trans g6).size) (by simp; omega))
        have H6 := hide (And.intro (k4.trans g6) h6)
        clear k1 k2 k3 k4 k5 k6 old h6 g6
        go_wp2_with fail
        refine (unhide HJ).mono ?_
        rintro e w7 ⟨g7, rfl, hg7, hT7⟩
        go_wp2
        go_ret
        rw [unhide HR]
        exact ⟨hj1, (unhide H6).1.andThen hg7 (fun k e => by cases e), (hg7.block b (heap_lt (unhide H6).2) (by simp)).trans (unhide H6).2, g7, rfl, hT7⟩

theorem slens_all {s : ByteArray} {b : Nat} (hs : s.size ≤ 120) : ∀ d i0, s.size + 1 - i0 ≤ d → SLensSaid s b i0
  | 0, i0, hd => fun w i h0 _ hi => by omega
  | d + 1, i0, hd => slens_of hs (srow_of hs (sitem_of hs (spiece_of hs (slens_all hs d (i0 + 1) (by omega)))))

theorem slens {s : ByteArray} {b : Nat} (hs : s.size ≤ 120) : SLensSaid s b 0 := slens_all hs (s.size + 1) 0 (by omega)

/-- what the program's reader of lenses answers -/
def SReadPost (s : ByteArray) (w : World) (e : Ending) (w' : World) (r : Res (List LT × List Nat)) : Prop :=
  w.grownBy w' none ∧ match r with
    | .err p => e = .returned (.tuple #[.pointer none, .int .i64 (p : Int)])
    | .ok x j => (j < s.size ∧ e = .returned (.tuple #[.pointer none, .int .i64 (j : Int)])) ∨
      (j = s.size ∧ ∃ g, e = .returned (.tuple #[.pointer (some ⟨g, 0, none⟩), .int .i64 0]) ∧ LR s w' (fun k => k < w.heap.size) (joinAlt x.1 x.2) g)

set_option maxRecDepth 100000 in
set_option maxHeartbeats 1600000 in
theorem sread {w : World} {s : ByteArray} (hs : s.size ≤ 120) : Calls Tryz.prog 52 #[.string s] w fun e w' => SReadPost s w e w' (gRows s (6 * s.size + 5) 0) := by
  have HL := hide (slens (b := w.heap.size) hs (w.alloc (sblk s 0)) 0 (Nat.zero_le _) (heap_alloc_new w _) (Nat.zero_le _) (6 * s.size + 5) (by omega))
  have hst : ∀ x j, gRows s (6 * s.size + 5) 0 = .ok x j → skipB s j = j := fun x j h => gRows_stop h
  generalize gRows s (6 * s.size + 5) 0 = r at *
  go_enter Tryz.func52, Tryz.ntmps52
  go_wp2_with fail
  refine (unhide HL).mono ?_
  rintro e w1 hP1
  have hg0 : ∀ W, (w.alloc (sblk s 0)).grownBy W (some w.heap.size) → w.grownBy W none := fun W h => (World.grownBy_alloc w _ none).andThen h (fun k e => Or.inl (by cases e; exact Nat.le_refl _))
  cases r with
  | err p =>
    obtain ⟨hp, hg, hq, rfl⟩ := hP1
    have c1 := cellOf hq 1
    simp at c1
    have HG := hide (hg0 _ hg)
    clear hq hg HL hst hg0
    go_wp2_with fail
    go_region
    all_goals
      go_wp2
      go_ret2
      exact ⟨(unhide HG).trans (grown_drew' _ _), rfl⟩
  | ok x j =>
    obtain ⟨hj, hg, hq, g, rfl, hT⟩ := hP1
    have hsk := hst x j rfl
    have HPk := hide (speek hq hs hj)
    rw [hsk] at HPk
    have HT := hide (And.intro hg hT)
    have Hg0 := hide hg0
    clear hg hT hst hsk HL hq hg0
    by_cases hlt : j < s.size
    · have hpe : (pe s j != -1) = true := by rw [bne_iff_ne]; simp only [pe, hlt, if_pos]; have := (pk_bd s j).1; omega
      generalize pe s j = a at *
      go_wp2_with fail
      refine (unhide HPk).mono ?_
      rintro e w2 ⟨rfl, h2, g2⟩
      have c1 := cellOf h2 1
      simp at c1
      go_wp2_with fail
      go_region
      all_goals
        go_wp2
        go_ret2
        exact ⟨(unhide Hg0 _ ((unhide HT).1.trans g2)).trans (grown_drew' _ _), Or.inl ⟨hlt, rfl⟩⟩
    · have hpe : pe s j = -1 := by simp [pe, hlt]
      rw [hpe] at HPk
      go_wp2_with fail
      refine (unhide HPk).mono ?_
      rintro e w2 ⟨rfl, h2, g2⟩
      go_wp2
      go_ret2
      obtain ⟨hg, hT⟩ := unhide HT
      refine ⟨unhide Hg0 _ (hg.trans g2), Or.inr ⟨by omega, g, rfl, ?_⟩⟩
      have hT' := LR.reY (Z := fun k => k < w.heap.size ∨ k = w.heap.size) (fun k _ hk => by simp; omega) hT
      exact LR.reY (fun k _ hk => Or.inl hk) (LR.kept (fun k hk hz => grown_heap g2 k hk (fun e => hz (Or.inr e))) hT')

end Go.Proofs.YtlljggefbngkeaaGreatDoor
