import Derived.Test.YtlljggefbngkeaaGreatDoorU15
namespace Go.Proofs.YtlljggefbngkeaaGreatDoor
open Go.RowKit

/-- a row of n numbers -/
def NR (w : World) (g n c : Nat) (f : Nat → Nat) : Prop := w.ownsRow 0 3 1 (.slice (some ⟨g, 0, none⟩) n c) n ((List.range n).map fun j => .int .i64 (f j : Int))

theorem NR.cell {w : World} {g n c : Nat} {f : Nat → Nat} (h : NR w g n c f) (k : Nat) (hk : k < n) : w.cell? ⟨g, k, none⟩ = some (.int .i64 (f k : Int)) := by
  rw [World.ownsRow.cellAt h k (by omega)]
  simp [hk]
theorem NR.fz {w : World} {g n c : Nat} {f : Nat → Nat} (h : NR w g n c f) (k : Nat) : w.frozen? ⟨g, k, none⟩ = false := World.ownsRow.frozenAt h k
theorem NR.lt {w : World} {g n c : Nat} {f : Nat → Nat} (h : NR w g n c f) : g < w.heap.size := own_lt h g rfl
theorem NR.kept {w w' : World} {g n c : Nat} {f : Nat → Nat} (h : NR w g n c f) (hk : w'.heap[g]? = w.heap[g]?) : NR w' g n c f := own_same h (fun k e => by
  have : g = k := by simpa [Value.ownBlock] using e
  subst this; exact hk)
theorem NR.k0 {w w' : World} {g n c : Nat} {f : Nat → Nat} (h : NR w g n c f) (hk : K0 w w') : NR w' g n c f := h.kept (hk.heap h.lt)

def updN (f : Nat → Nat) (k x j : Nat) : Nat := if j = k then x else f j

theorem NR.congr {w : World} {g n c : Nat} {f f' : Nat → Nat} (h : NR w g n c f) (he : ∀ j, j < n → f j = f' j) : NR w g n c f' := by
  unfold NR at *
  rw [List.map_congr_left (g := fun j => Value.int .i64 (f' j : Int)) (fun j hj => by rw [he j (by simpa using hj)])] at h
  exact h
theorem NR.set {w : World} {g n c : Nat} {f : Nat → Nat} (h : NR w g n c f) (k x : Nat) : NR (w.setCell ⟨g, k, none⟩ (.int .i64 (x : Int))) g n c (updN f k x) := by
  have := World.ownsRow.stored h k (.int .i64 (x : Int))
  unfold NR
  have e : ((List.range n).map fun j => Value.int .i64 (f j : Int)).set k (.int .i64 (x : Int)) = (List.range n).map fun j => Value.int .i64 (updN f k x j : Int) := by
    apply List.ext_getElem?
    intro j
    simp only [List.getElem?_set, List.getElem?_map]
    by_cases hj : j < n
    · by_cases hk : k = j
      · subst hk; simp [hj, updN]
      · simp [hj, hk, updN, Ne.symm hk]
    · by_cases hk : k = j
      · subst hk; simp [hj]
      · simp [hj, hk]
  rw [e] at this
  exact this.1
theorem NR.made {w : World} {g n c : Nat} (h : w.ownsRow 0 3 1 (.slice (some ⟨g, 0, none⟩) n c) n (madeCells #[Value.int .i64 0] n).toList) : NR w g n c fun _ => 0 := by
  unfold NR
  rw [toList_madeCells_one] at h
  rw [show (List.range n).map (fun _ => Value.int .i64 ((0 : Nat) : Int)) = List.replicate n (Value.int .i64 0) from by rw [List.map_const']; simp]
  exact h

/-- the table of ways, within the round of place m: the places below k are done -/
def wmid (E : Nat → Nat → Bool) (m k j : Nat) : Nat := if j < k then wtab E (m + 1) j else wtab E m j

theorem wmid_start (E : Nat → Nat → Bool) (m j : Nat) : wmid E m (m + 1) j = wtab E m j := by
  unfold wmid
  split
  · rename_i h
    rw [wtab, if_neg (fun hh => by omega)]
  · rfl
theorem wmid_end (E : Nat → Nat → Bool) (m k j : Nat) (h : j < k) : wmid E m k j = wtab E (m + 1) j := by
  unfold wmid
  rw [if_pos h]
theorem wmid_self (E : Nat → Nat → Bool) (m k : Nat) (h : m < k) : wmid E m k m = wtab E m m := by
  rw [wmid_end E m k m h, wtab, if_neg (fun hh => by omega)]
theorem wmid_yes (E : Nat → Nat → Bool) (m k j : Nat) (hm : m < k) (hE : E m k = true) : updN (wmid E m k) k (min 2 (wtab E m k + wtab E m m)) j = wmid E m (k + 1) j := by
  unfold updN wmid
  by_cases h : j = k
  · subst h
    rw [if_pos rfl, if_pos (Nat.lt_succ_self _), wtab, if_pos ⟨hm, hE⟩]
  · rw [if_neg h]
    by_cases h2 : j < k
    · rw [if_pos h2, if_pos (by omega)]
    · rw [if_neg h2, if_neg (by omega)]
theorem wmid_no (E : Nat → Nat → Bool) (m k j : Nat) (hE : E m k = false) : wmid E m k j = wmid E m (k + 1) j := by
  unfold wmid
  by_cases h : j = k
  · subst h
    rw [if_neg (Nat.lt_irrefl _), if_pos (Nat.lt_succ_self _), wtab, if_neg (fun hh => by rw [hE] at hh; cases hh.2)]
  · by_cases h2 : j < k
    · rw [if_pos h2, if_pos (by omega)]
    · rw [if_neg h2, if_neg (by omega)]
/-- a place that is not come to turns nothing -/
theorem wtab_skip (E : Nat → Nat → Bool) (m j : Nat) (h : wtab E m m = 0) : wtab E (m + 1) j = wtab E m j := by
  have := wtab_le E m j
  rw [wtab, h]
  split <;> omega

end Go.Proofs.YtlljggefbngkeaaGreatDoor

namespace Go.Proofs.YtlljggefbngkeaaGreatDoor
open Go.RowKit

/-- the table that ways reckons by -/
def Steps2 (t : PT) (d : List UInt8) (E : Nat → Nat → Bool) : Prop := ∀ i j, E i j = true ↔ M t (sub d i j)
theorem steps2_ex (t : PT) (d : List UInt8) : ∃ E, Steps2 t d E := by
  classical
  exact ⟨fun i j => decide (M t (sub d i j)), fun i j => by simp⟩

set_option maxRecDepth 100000 in
set_option maxHeartbeats 3200000 in
theorem gways {w : World} {gg gp cap : Nat} {P : List Pat} {xs : List Value} {k : Nat} {t : PT} {d : ByteArray} {E : Nat → Nat → Bool} (hE : Steps2 t d.data.toList E) (hg : w.cell? ⟨gg, 0, none⟩ = some (.slice (some ⟨gp, 0, none⟩) P.length cap)) (hPM : PM w gp cap P xs) (hPl : P.length ≤ 100000)
    (hr : PRep P t k) (hwf : wf t = true) (hd : d.size ≤ 200000000) :
    Calls Tryz.prog 31 #[.pointer (some ⟨gg, 0, none⟩), .int .i64 k, .string d] w fun e w' => e = .returned (.int .i64 (wtab E d.size d.size : Int)) ∧ K0 w w' := by
  obtain ⟨i0, hi0, hz0, hz1, hz2⟩ := info_parts Tryz.infoBool
  obtain ⟨i1, hi1, hy0, hy1, hy2⟩ := info_parts Tryz.infoInt
  have hgl : gg < w.heap.size := World.block_lt_of_cell? w ⟨gg, 0, none⟩ hg
  have HB := hide (And.intro hPM (And.intro hr (And.intro (ends_all t hwf) (And.intro hE hg))))
  have hds : (d.size : Int) < (d.size : Int) + 1 := by omega
  clear hPM hr hwf hE hg
  go_enter Tryz.func31, Tryz.ntmps31
  go_wp2_with (at_make; refine wpList_make_full _ rfl _ _ 80 rfl 0 3 i1 (.int .i64 0) 1 Tryz.underlying80 hi1 hy0 hy1 _ _ _ _ (d.size + 1) rfl rfl (by simp) (by simp) (by rw [hy2]; omega) (by unfold maxLen; omega) (by omega) ?_)
  intro w1 hown hgrow
  have hR1 := NR.made hown
  have hK1 : K0 w w1 := Kp.of_grown hgrow (fun _ e => by cases e)
  have hc0 := hR1.cell 0 (by omega)
  have hf0 := hR1.fz 0
  have HR2 := hide (And.intro (hR1.set 0 1) (hK1.set (Nat.le_refl _) 0 (.int .i64 1)))
  clear hR1 hK1 hown hgrow
  go_wp2_with fail
  go_loopg [8] (d.size + 1) (fun gk iv wv => ∃ m : Nat, iv = .int .i64 (m : Int) ∧ m ≤ d.size ∧ d.size - m < gk ∧ K0 w wv ∧ NR wv w.heap.size (d.size + 1) (d.size + 1) (wtab E m))
  case atStart => exact ⟨0, rfl, Nat.zero_le _, by omega, (unhide HR2).2, (unhide HR2).1.congr (fun j _ => by unfold updN; rw [wtab])⟩
  case round =>
    obtain ⟨m, rfl, hm, hgk, hK, hR⟩ := hrel
    clear HR2 hc0 hf0
    have hw1 : IntKind.i64.wrap ((m : Int) + 1) = (m : Int) + 1 := IntWalk.i64_in _ (by omega)
    by_cases hlt : m < d.size
    · have hd1 : (m : Int) < (d.size : Int) := by omega
      have hm2 : (m : Int) < (d.size : Int) + 1 := by omega
      have cl := hR.cell m (by omega)
      have HRK := hide (And.intro hK hR)
      clear hK hR
      by_cases hz : wtab E m m = 0
      · rw [hz] at cl
        go_wp2_with fail
        go_roundg (gk - 1)
        case measure => omega
        case rel => exact ⟨m + 1, by go_num, by omega, by omega, (unhide HRK).1, (unhide HRK).2.congr (fun j _ => (wtab_skip E m j hz).symm)⟩
      · have hpos : (0 : Int) < (wtab E m m : Int) := by omega
        go_wp2_with (at_make; refine wpList_make_full _ rfl _ _ 77 rfl 0 4 i0 (.bool false) 1 Tryz.underlying77 hi0 hz0 hz1 _ _ _ _ (d.size + 1) rfl rfl (by simp) (by simp) (by rw [hz2]; omega) (by unfold maxLen; omega) (by omega) ?_)
        intro w2 hown hgrow
        have hwr : w.heap.size < wr.heap.size := (unhide HRK).2.lt
        have hB2 := BR.made hown
        have hK2 : K0 wr w2 := Kp.of_grown hgrow (fun _ e => by cases e)
        have b0 := hB2.cell m (by omega)
        have bf := hB2.fz m
        have hB3 := hB2.set m true
        have hK3 := hK2.set (b := wr.heap.size) (Nat.le_refl _) m (.bool true)
        have hKw := (unhide HRK).1.trans hK3
        have hg3 : (w2.setCell ⟨wr.heap.size, m, none⟩ (.bool true)).cell? ⟨gg, 0, none⟩ = some (.slice (some ⟨gp, 0, none⟩) P.length cap) := by
          rw [World.cell?_of_block (w := w) (hKw.heap hgl)]
          exact (unhide HB).2.2.2.2
        have HE := hide ((unhide HB).2.2.1 _ gp cap P xs k d _ _ _ ((unhide HB).1.k0 hKw) hPl (unhide HB).2.1 hB3 (by omega))
        have HK3 := hide (And.intro hKw ((unhide HRK).2.k0 hK3))
        have hsz2 : wr.heap.size < (w2.setCell ⟨wr.heap.size, m, none⟩ (.bool true)).heap.size := hB3.lt
        clear hB2 hK2 hB3 hK3 hKw hown hgrow cl
        go_wp2_with fail
        refine (unhide HE).mono ?_
        rintro e w4 ⟨g4, c4, f4, rfl, hR4, hV4, hK4, hat4, _⟩
        have hg4 : w.heap.size < g4 := by omega
        have HI4 := hide (And.intro ((unhide HK3).1.trans hK4) (And.intro hR4 ((unhide HK3).2.k0 hK4)))
        have hfE : ∀ j, m < j → j ≤ d.size → f4 j = E m j := by
          intro j h1 h2
          rw [Bool.eq_iff_iff, hV4 j (by simpa using h2), (unhide HB).2.2.2.1 m j]
          constructor
          · rintro ⟨i, hi, hu, hmm⟩
            have : i = m := by
              unfold upd at hu
              by_cases h : i = m
              · exact h
              · rw [if_neg h] at hu; cases hu
            subst this
            exact hmm
          · intro hmm
            exact ⟨m, by omega, by unfold upd; rw [if_pos rfl], hmm⟩
        have HfE := hide hfE
        clear hR4 hV4 hK4 hat4 hfE HE HK3 b0 bf hg3 hsz2
        go_wp2_with fail
        obtain ⟨G, hG⟩ : ∃ G, G = gk := ⟨_, rfl⟩
        rename World => wo
        go_loopg [11] (d.size + 2) (fun gk2 jv wv => ∃ j : Nat, jv = .int .i64 (j : Int) ∧ m + 1 ≤ j ∧ j ≤ d.size + 1 ∧ d.size + 1 - j < gk2 ∧ K0 w wv ∧ BR wv g4 (d.size + 1) c4 f4 ∧ NR wv w.heap.size (d.size + 1) (d.size + 1) (wmid E m j))
        case atStart => exact ⟨m + 1, by go_num, Nat.le_refl _, by omega, by omega, (unhide HI4).1, (unhide HI4).2.1, (unhide HI4).2.2.congr (fun j _ => (wmid_start E m j).symm)⟩
        case round =>
          obtain ⟨j, rfl, hj1, hj2, hgk2, hKj, hBj, hNj⟩ := hrel
          have hw2 : IntKind.i64.wrap ((j : Int) + 1) = (j : Int) + 1 := IntWalk.i64_in _ (by omega)
          by_cases hlt2 : j ≤ d.size
          · have hd2 : (j : Int) ≤ (d.size : Int) := by omega
            have hd3 : (j : Int) < (d.size : Int) + 1 := by omega
            have ce := hBj.cell j (by omega)
            have cm := hNj.cell m (by omega)
            have cj := hNj.cell j (by omega)
            have fj := hNj.fz j
            rw [wmid_self E m j (by omega)] at cm
            rw [show wmid E m j j = wtab E m j by unfold wmid; rw [if_neg (Nat.lt_irrefl _)]] at cj
            have le1 := wtab_le E m m
            have le2 := wtab_le E m j
            have HJ := hide (And.intro hKj (And.intro hBj hNj))
            have hfj := unhide HfE j (by omega) hlt2
            clear hKj hBj hNj
            cases hf : f4 j with
            | true =>
              rw [hf] at ce hfj
              have Hf := hide hfj
              clear hf hfj
              generalize ha : wtab E m j = x at *
              generalize hb : wtab E m m = y at *
              have hw3 : IntKind.i64.wrap ((x : Int) + (y : Int)) = (x : Int) + (y : Int) := IntWalk.i64_in _ (by omega)
              by_cases hmin : x + y < 2
              · have hmi : (x : Int) + (y : Int) < 2 := by omega
                have hmi2 : ¬ (2 : Int) < (x : Int) + (y : Int) := by omega
                have hmi3 : ¬ (2 : Int) ≤ (x : Int) + (y : Int) := by omega
                have hmn : min 2 (x + y) = x + y := by omega
                have HNN := hide hmn
                clear hmn
                go_wp2_with fail
                go_region
                go_wp2
                go_roundg (gk - 1)
                case measure => omega
                case rel =>
                  obtain ⟨hKj, hBj, hNj⟩ := unhide HJ
                  refine ⟨j + 1, by go_num, by omega, by omega, by omega, K0.drew (hKj.set (b := w.heap.size) (Nat.le_refl _) _ _), (hBj.kept (Below.heap_setCell _ _ _ _ (by show g4 ≠ w.heap.size; omega))).drew, ?_⟩
                  have h1 : NR (wr.setCell ⟨w.heap.size, j, none⟩ (.int .i64 ((x + y : Nat) : Int))).drew w.heap.size (d.size + 1) (d.size + 1) (updN (wmid E m j) j (x + y)) := hNj.set j (x + y)
                  have h2 := h1.congr (f' := wmid E m (j + 1)) (fun i _ => by
                    have := wmid_yes E m j i (by omega) (unhide Hf).symm
                    rw [ha, hb, unhide HNN] at this
                    exact this)
                  simpa using h2
              · have hmi : ¬ (x : Int) + (y : Int) < 2 := by omega
                have hmi2 : (2 : Int) ≤ (x : Int) + (y : Int) := by omega
                have hmn : min 2 (x + y) = 2 := by omega
                have HNN := hide hmn
                clear hmn
                go_wp2_with fail
                go_region
                all_goals
                  go_wp2
                  go_roundg (gk - 1)
                  case measure => omega
                  case rel =>
                    obtain ⟨hKj, hBj, hNj⟩ := unhide HJ
                    refine ⟨j + 1, by go_num, by omega, by omega, by omega, K0.drew (hKj.set (b := w.heap.size) (Nat.le_refl _) _ _), (hBj.kept (Below.heap_setCell _ _ _ _ (by show g4 ≠ w.heap.size; omega))).drew, ?_⟩
                    have h1 : NR (wr.setCell ⟨w.heap.size, j, none⟩ (.int .i64 ((2 : Nat) : Int))).drew w.heap.size (d.size + 1) (d.size + 1) (updN (wmid E m j) j 2) := hNj.set j 2
                    have h2 := h1.congr (f' := wmid E m (j + 1)) (fun i _ => by
                      have := wmid_yes E m j i (by omega) (unhide Hf).symm
                      rw [ha, hb, unhide HNN] at this
                      exact this)
                    first | exact h2 | (simpa using h2) | (rw [show (x : Int) + (y : Int) = ((2 : Nat) : Int) by omega]; exact h2)
            | false =>
              rw [hf] at ce hfj
              have Hf := hide hfj
              clear hf hfj
              go_wp2_with fail
              go_roundg (gk - 1)
              case measure => omega
              case rel => exact ⟨j + 1, by go_num, by omega, by omega, by omega, (unhide HJ).1, (unhide HJ).2.1, (unhide HJ).2.2.congr (fun i _ => wmid_no E m j i (unhide Hf).symm)⟩
          · obtain rfl : j = d.size + 1 := by omega
            have HJ := hide (And.intro hKj hNj)
            clear hKj hBj hNj
            have hd2 : ¬ ((d.size : Int) + 1 ≤ (d.size : Int)) := by omega
            go_wp2_with fail
            go_roundg (G - 1)
            case measure => omega
            case rel => exact ⟨m + 1, by go_num, by omega, by omega, (unhide HJ).1, (unhide HJ).2.congr (fun i hi => wmid_end E m (d.size + 1) i hi)⟩
    · obtain rfl : m = d.size := by omega
      have cl := hR.cell d.size (by omega)
      have HKf := hide hK
      clear hK hR
      go_wp2
      go_ret
      exact ⟨rfl, unhide HKf⟩

end Go.Proofs.YtlljggefbngkeaaGreatDoor

namespace Go.Proofs.YtlljggefbngkeaaGreatDoor
open Go.RowKit

theorem cnt_one (q : Nat → Bool) : ∀ n, 1 ≤ cnt q n ↔ ∃ i, i < n ∧ q i = true
  | 0 => ⟨fun h => by rw [cnt] at h; omega, fun ⟨i, h, _⟩ => by omega⟩
  | n + 1 => by
    have ih := cnt_one q n
    rw [cnt]
    cases hq : q n with
    | true => exact ⟨fun _ => ⟨n, Nat.lt_succ_self _, hq⟩, fun _ => by simp⟩
    | false =>
      simp only [Bool.false_eq_true, if_false, Nat.add_zero]
      rw [ih]
      constructor
      · rintro ⟨i, h1, h2⟩
        exact ⟨i, by omega, h2⟩
      · rintro ⟨i, h1, h2⟩
        have : i ≠ n := fun e => by rw [e, hq] at h2; cases h2
        exact ⟨i, by omega, h2⟩

/-- two or more: two places -/
theorem cnt_two (q : Nat → Bool) : ∀ n, 2 ≤ cnt q n ↔ ∃ i j, i < j ∧ j < n ∧ q i = true ∧ q j = true
  | 0 => ⟨fun h => by rw [cnt] at h; omega, fun ⟨i, j, h1, h2, _⟩ => by omega⟩
  | n + 1 => by
    have ih := cnt_two q n
    have i1 := cnt_one q n
    rw [cnt]
    cases hq : q n with
    | true =>
      simp only [if_true]
      constructor
      · intro h
        obtain ⟨i, h1, h2⟩ := i1.1 (by omega)
        exact ⟨i, n, h1, Nat.lt_succ_self _, h2, hq⟩
      · rintro ⟨i, j, h1, h2, h3, h4⟩
        have := i1.2 ⟨i, by omega, h3⟩
        omega
    | false =>
      simp only [Bool.false_eq_true, if_false, Nat.add_zero]
      rw [ih]
      constructor
      · rintro ⟨i, j, h1, h2, h3, h4⟩
        exact ⟨i, j, h1, by omega, h3, h4⟩
      · rintro ⟨i, j, h1, h2, h3, h4⟩
        have : j ≠ n := fun e => by rw [e, hq] at h4; cases h4
        exact ⟨i, j, h1, by omega, h3, h4⟩

end Go.Proofs.YtlljggefbngkeaaGreatDoor
