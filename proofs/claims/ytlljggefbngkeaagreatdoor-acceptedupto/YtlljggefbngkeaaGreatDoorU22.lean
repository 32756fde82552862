import Derived.Test.YtlljggefbngkeaaGreatDoorU21
namespace Go.Proofs.YtlljggefbngkeaaGreatDoor
open Go.RowKit

set_option maxRecDepth 100000 in
set_option maxHeartbeats 3200000 in
theorem slens_of {s : ByteArray} {b i0 : Nat} (hs : s.size ≤ 120) (hrow : SRowSaid s b i0) : SLensSaid s b i0 := by
  intro w i h0 h hi n hn
  obtain ⟨i1, hi1, hz0, hz1, hz2⟩ := info_parts Tryz.infoLensP
  obtain ⟨i2, hi2, hy0, hy1, hy2⟩ := info_parts Tryz.infoInt
  generalize hr : gRows s n i = r
  have hbl := heap_lt h
  have H0 : Hid (RwRel w b s i r (gRows s) 4 (s.size - i + 1) (.slice none 0 0) (.slice none 0 0) w) := by
    refine ⟨[], [], [], i, n, World.ownsRow_nil _ _ _ _, (by intro k hk; cases hk), World.ownsRow_nil _ _ _ _, (by intro k hk; cases hk), World.grownBy.refl _ _, h, by rw [LRL]; trivial, ?_, hn, Nat.le_refl _, hi, by omega, by simp, by simp⟩
    rw [hr]; cases r <;> rfl
  have HD := hide hrow
  clear h hr hn hrow
  go_enter Tryz.func80, Tryz.ntmps80
  go_wp2_with fail
  go_loopg [3, 4] (s.size - i + 1) (fun gk vv uu wv => RwRel w b s i r (gRows s) 4 gk vv uu wv)
  case atStart => exact unhide H0
  case round =>
    clear H0
    obtain ⟨gs, ts, ps, j, m, hown, hvn, hu, hun, hg, hqb, hTL, hr, hm, hij, hj, hgk, hgl, hpl⟩ := hrel
    obtain ⟨m, rfl⟩ : ∃ m', m = m' + 1 := ⟨m - 1, by omega⟩
    obtain ⟨ao, cp, rfl⟩ := own_slice hown
    obtain ⟨aj, cj, rfl⟩ := own_slice hu
    have HIt := hide (unhide HD wr j (by omega) hqb hj m (by omega))
    have HF := hide (And.intro hown (And.intro hvn (And.intro hu (And.intro hun (And.intro hg (And.intro hTL hr))))))
    clear hown hvn hu hun hg hqb hTL hr
    go_wp2_with fail
    refine (unhide HIt).mono ?_
    rintro e w2 hP2
    cases hg : gItems s m (skipB s j) with
    | err p =>
      rw [hg] at hP2
      obtain ⟨hp, hg2, hq2, rfl⟩ := hP2
      have HR : Hid (r = .err p) := by
        show r = _
        rw [(unhide HF).2.2.2.2.2.2, gRows, hg]
        rfl
      clear hg HIt
      go_wp2
      go_ret
      rw [unhide HR]
      exact ⟨hp, (unhide HF).2.2.2.2.1.trans hg2, hq2, rfl⟩
    | ok x j1 =>
      rw [hg] at hP2
      obtain ⟨hj1, hg2, hq2, g, rfl, hT⟩ := hP2
      have hjj := (gL_lt s m).2.2.1 _ _ _ hg
      have hjj0 := skipB_le s j
      have hst := gItems_stop hg
      have HR : Hid (r = if pk s j1 = 124 then (gRows s m (j1 + 1)).map (fun y => (ts ++ joinRow x.1 x.2 :: y.1, ps ++ j1 :: y.2)) else .ok (ts ++ [joinRow x.1 x.2], ps) j1) := by
        show r = _
        rw [(unhide HF).2.2.2.2.2.2, gRows, hg]
        simp only [Res.bind]
        split
        · rw [Res.map_map]
        · simp [Res.map]
      have hT' : LR s w2 (fun k => k < wr.heap.size) (joinRow x.1 x.2) g := hT
      generalize joinRow x.1 x.2 = t at *
      obtain ⟨hown, hvn, hu, hun, hgw, hTL, _⟩ := unhide HF
      have hvb : (Value.slice ao gs.length cp).ownBlock ≠ some b := fun e => hvn b e hbl
      have hown2 : w2.ownsRow 0 54 1 (.slice ao gs.length cp) gs.length (ptrs gs) := own_same hown (fun k e => grown_heap hg2 k (own_lt hown k e) (fun e' => hvb (by rw [e, e'])))
      have hglen : gs.length + 1 ≤ 1000 := by omega
      have hplen : ps.length + 1 ≤ 1000 := by omega
      have HK := hide (And.intro hg2 (And.intro hT' hq2))
      clear hg HIt hT hT' hq2 hown hTL hgw hg2 hvn hu hun
      go_wp2_with (at_builtin; refine wpList_append_lies _ rfl (.tmp 10) (.tmp 12) 115 rfl 0 54 i1 _ 1 8 Tryz.underlying115 hi1 hz0 hz1 hz2 rfl (by decide) (.slice ao gs.length cp) gs.length (ptrs gs) rfl (hown2.alloc _) ⟨w2.heap.size, 0, none⟩ 1 1 [.pointer (some ⟨g, 0, none⟩)] rfl rfl (World.news_of_block (cs := #[.pointer (some ⟨g, 0, none⟩)]) (heap_alloc_new w2 _)) (by simp [Value.oneCell']) (by omega) (by unfold maxLen; omega) (by omega) (by omega) (w2.heap.size + 1) (by simp) ?_)
      intro g5 cap w5 hown5 hgrow5 hat5 hlt5
      have HP := hide (push_part hbl (unhide HF).1 (unhide HF).2.1 (unhide HF).2.2.1 (unhide HF).2.2.2.1 (unhide HF).2.2.2.2.1 (unhide HF).2.2.2.2.2.1 (unhide HK).1 (unhide HK).2.2 (unhide HK).2.1 hown5 hgrow5 hat5)
      have HU := hide (unhide HF).2.2.2.1
      clear hown5 hgrow5 hat5 hown2 HF HK
      by_cases h124 : pk s j1 = 124
      · have hnl : j1 < s.size := pk_lt (by rw [h124]; decide)
        have HA := hide (stake_ok 124 (by decide) (by decide) (unhide HP).2.2.2.2.1 hs hj1 (by rw [hst]; exact (pe_eq (by decide)).2 h124))
        rw [hst] at HA
        rw [if_pos h124] at HR
        clear h124
        go_wp2_with fail
        refine (unhide HA).mono ?_
        rintro e w6 ⟨rfl, h6, g6⟩
        have c1 := cellOf h6 1
        simp at c1
        obtain ⟨k1, k2, k3, k4, k5, k6⟩ := unhide HP
        have old : ∀ k, k < w5.heap.size → ¬ k < w.heap.size → w6.heap[k]? = w5.heap[k]? := fun k hk hy => grown_heap g6 k hk (fun e => hy (by omega))
        have hu6 : w6.ownsRow 0 3 1 (.slice aj ps.length cj) ps.length (nums ps) := own_same k3 (fun k e => old k (own_lt k3 k e) (unhide HU k e))
        have HP6 := hide (And.intro (own_same k1 (fun k e => old k (own_lt k1 k e) (k2 k e))) (And.intro k2 (And.intro (k4.trans g6) (And.intro (LRL.kept (fun k hk hy => old k hk (fun h => hy (Or.inl (Or.inl h)))) k6) h6))))
        clear h6 g6 k1 k2 k3 k4 k5 k6 old HP
        go_wp2_with (at_builtin; refine wpList_append_lies _ rfl (.tmp 20) (.tmp 26) 80 rfl 0 3 i2 _ 1 8 Tryz.underlying80 hi2 hy0 hy1 hy2 rfl (by decide) (.slice aj ps.length cj) ps.length (nums ps) rfl (hu6.alloc _) ⟨w6.heap.size, 0, none⟩ 1 1 [.int .i64 (j1 : Int)] rfl rfl (World.news_of_block (cs := #[.int .i64 (j1 : Int)]) (heap_alloc_new w6 _)) (by simp [Value.oneCell']) (by omega) (by unfold maxLen; omega) (by omega) (by omega) (w6.heap.size + 1) (by simp) ?_)
        intro g7 cap7 w7 hown7 hgrow7 hat7 hlt7
        go_wp2_with fail
        go_roundg (s.size - j)
        case measure => exact hgk
        case rel =>
          obtain ⟨q1, q2, q3, q4, q5⟩ := unhide HP6
          obtain ⟨r1, r2, r3, r4, r5, r6⟩ := push_joint (gs := gs ++ [g]) hbl q1 q2 hu6 (unhide HU) q3 q4 q5 hown7 hgrow7 hat7
          refine ⟨gs ++ [g], ts ++ [t], ps ++ [j1], j1 + 1, m, r1, q2, r2, r3, r4, r5, r6, ?_, by omega, by omega, hnl, by omega, by simp; omega, by simp; omega⟩
          rw [unhide HR]
          simp
      · have HA := hide (stake_no 124 (by decide) (by decide) (unhide HP).2.2.2.2.1 hs hj1 (by rw [hst]; exact fun e => h124 ((pe_eq (by decide)).1 e)))
        rw [hst] at HA
        rw [if_neg h124] at HR
        clear h124
        go_wp2_with fail
        refine (unhide HA).mono ?_
        rintro e w6 ⟨rfl, h6, g6⟩
        obtain ⟨k1, k2, k3, k4, k5, k6⟩ := unhide HP
        have old : ∀ k, k < w5.heap.size → ¬ k < w.heap.size → w6.heap[k]? = w5.heap[k]? := fun k hk hy => grown_heap g6 k hk (fun e => hy (by omega))
        have HJ := hide (sjoined (s := s) (w := w6) (Y := fun k => k < w.heap.size) (l := ts ++ [t]) 6 (Or.inr rfl) ⟨own_same k1 (fun k e => old k (own_lt k1 k e) (k2 k e)), k2⟩ ⟨own_same k3 (fun k e => old k (own_lt k3 k e) (unhide HU k e)), unhide HU⟩ (LRL.kept old (LRL.reY (fun k _ hk => Or.inl (Or.inl hk)) k6)) (fun k hk => Nat.lt_of_lt_of_le hk (k4.trans g6).size) (by simp; omega))
        have H6 := hide (And.intro (k4.trans g6) h6)
        clear k1 k2 k3 k4 k5 k6 old h6 g6
        go_wp2_with fail
        refine (unhide HJ).mono ?_
        rintro e w7 ⟨g7, rfl, hg7, hT7⟩
        go_wp2
        go_ret
        rw [unhide HR]
        exact ⟨hj1, (unhide H6).1.andThen hg7 (fun k e => by cases e), (hg7.block b (heap_lt (unhide H6).2) (by simp)).trans (unhide H6).2, g7, rfl, hT7⟩

theorem slens_all {s : ByteArray} {b : Nat} (hs : s.size ≤ 120) : ∀ d i0, s.size + 1 - i0 ≤ d → SLensSaid s b i0
  | 0, i0, hd => fun w i h0 _ hi => by omega
  | d + 1, i0, hd => slens_of hs (srow_of hs (sitem_of hs (spiece_of hs (slens_all hs d (i0 + 1) (by omega)))))

theorem slens {s : ByteArray} {b : Nat} (hs : s.size ≤ 120) : SLensSaid s b 0 := slens_all hs (s.size + 1) 0 (by omega)

/-- what the program's reader of lenses answers -/
def SReadPost (s : ByteArray) (w : World) (e : Ending) (w' : World) (r : Res (List LT × List Nat)) : Prop :=
  w.grownBy w' none ∧ match r with
    | .err p => e = .returned (.tuple #[.pointer none, .int .i64 (p : Int)])
    | .ok x j => (j < s.size ∧ e = .returned (.tuple #[.pointer none, .int .i64 (j : Int)])) ∨
      (j = s.size ∧ ∃ g, e = .returned (.tuple #[.pointer (some ⟨g, 0, none⟩), .int .i64 0]) ∧ LR s w' (fun k => k < w.heap.size) (joinAlt x.1 x.2) g)

set_option maxRecDepth 100000 in
set_option maxHeartbeats 1600000 in
theorem sread {w : World} {s : ByteArray} (hs : s.size ≤ 120) : Calls Tryz.prog 52 #[.string s] w fun e w' => SReadPost s w e w' (gRows s (6 * s.size + 5) 0) := by
  have HL := hide (slens (b := w.heap.size) hs (w.alloc (sblk s 0)) 0 (Nat.zero_le _) (heap_alloc_new w _) (Nat.zero_le _) (6 * s.size + 5) (by omega))
  have hst : ∀ x j, gRows s (6 * s.size + 5) 0 = .ok x j → skipB s j = j := fun x j h => gRows_stop h
  generalize gRows s (6 * s.size + 5) 0 = r at *
  go_enter Tryz.func52, Tryz.ntmps52
  go_wp2_with fail
  refine (unhide HL).mono ?_
  rintro e w1 hP1
  have hg0 : ∀ W, (w.alloc (sblk s 0)).grownBy W (some w.heap.size) → w.grownBy W none := fun W h => (World.grownBy_alloc w _ none).andThen h (fun k e => Or.inl (by cases e; exact Nat.le_refl _))
  cases r with
  | err p =>
    obtain ⟨hp, hg, hq, rfl⟩ := hP1
    have c1 := cellOf hq 1
    simp at c1
    have HG := hide (hg0 _ hg)
    clear hq hg HL hst hg0
    go_wp2_with fail
    go_region
    all_goals
      go_wp2
      go_ret2
      exact ⟨(unhide HG).trans (grown_drew' _ _), rfl⟩
  | ok x j =>
    obtain ⟨hj, hg, hq, g, rfl, hT⟩ := hP1
    have hsk := hst x j rfl
    have HPk := hide (speek hq hs hj)
    rw [hsk] at HPk
    have HT := hide (And.intro hg hT)
    have Hg0 := hide hg0
    clear hg hT hst hsk HL hq hg0
    by_cases hlt : j < s.size
    · have hpe : (pe s j != -1) = true := by rw [bne_iff_ne]; simp only [pe, hlt, if_pos]; have := (pk_bd s j).1; omega
      generalize pe s j = a at *
      go_wp2_with fail
      refine (unhide HPk).mono ?_
      rintro e w2 ⟨rfl, h2, g2⟩
      have c1 := cellOf h2 1
      simp at c1
      go_wp2_with fail
      go_region
      all_goals
        go_wp2
        go_ret2
        exact ⟨(unhide Hg0 _ ((unhide HT).1.trans g2)).trans (grown_drew' _ _), Or.inl ⟨hlt, rfl⟩⟩
    · have hpe : pe s j = -1 := by simp [pe, hlt]
      rw [hpe] at HPk
      go_wp2_with fail
      refine (unhide HPk).mono ?_
      rintro e w2 ⟨rfl, h2, g2⟩
      go_wp2
      go_ret2
      obtain ⟨hg, hT⟩ := unhide HT
      refine ⟨unhide Hg0 _ (hg.trans g2), Or.inr ⟨by omega, g, rfl, ?_⟩⟩
      have hT' := LR.reY (Z := fun k => k < w.heap.size ∨ k = w.heap.size) (fun k _ hk => by simp; omega) hT
      exact LR.reY (fun k _ hk => Or.inl hk) (LR.kept (fun k hk hz => grown_heap g2 k hk (fun e => hz (Or.inr e))) hT')

end Go.Proofs.YtlljggefbngkeaaGreatDoor
