import Derived.Test.YtlljggefbngkeaaGreatDoorU44
namespace Go.Proofs.YtlljggefbngkeaaGreatDoor
open Go.RowKit Go.Shelf

theorem signsN_all (s : ByteArray) : ∀ n i, i + n ≤ s.size → ∀ c, c ∈ sub s.data.toList i (signsN s n i) → signI (c.toNat : Int) = true
  | 0, i, _, c, h => by rw [signsN, sub_self] at h; cases h
  | n + 1, i, hi, c, h => by
    rw [signsN] at h
    split at h
    · rename_i hs
      have hb := signsN_bd s n (i + 1)
      have hlt : i < s.data.toList.length := by have : s.data.toList.length = s.size := rfl; omega
      rw [← sub_app _ i (i + 1) _ (by omega) hb.1, List.mem_append] at h
      rcases h with h | h
      · rw [sub_at _ i _ (List.getElem?_eq_getElem hlt), List.mem_singleton] at h
        subst h
        rw [pk, dif_pos (by omega)] at hs
        exact hs
      · exact signsN_all s n (i + 1) (by omega) c h
    · rw [sub_self] at h; cases h

mutual
theorem subs_trans : ∀ (t u x : LT), x ∈ subs u → u ∈ subs t → x ∈ subs t
  | .same l i j, u, x, hx, h => by rw [subs, List.mem_singleton] at h; subst h; exact hx
  | .fixed l i j v d a, u, x, hx, h => by rw [subs, List.mem_singleton] at h; subst h; exact hx
  | .swap at_ a b, u, x, hx, h => by
    rw [subs, List.mem_cons, List.mem_append] at h
    rcases h with rfl | h | h
    · exact hx
    · rw [subs]; exact List.mem_cons_of_mem _ (List.mem_append_left _ (subs_trans a u x hx h))
    · rw [subs]; exact List.mem_cons_of_mem _ (List.mem_append_right _ (subs_trans b u x hx h))
  | .group a, u, x, hx, h => by
    rw [subs, List.mem_cons] at h
    rcases h with rfl | h
    · exact hx
    · rw [subs]; exact List.mem_cons_of_mem _ (subs_trans a u x hx h)
  | .many at_ a, u, x, hx, h => by
    rw [subs, List.mem_cons] at h
    rcases h with rfl | h
    · exact hx
    · rw [subs]; exact List.mem_cons_of_mem _ (subs_trans a u x hx h)
  | .row l ps, u, x, hx, h => by
    rw [subs, List.mem_cons] at h
    rcases h with rfl | h
    · exact hx
    · rw [subs]; exact List.mem_cons_of_mem _ (subsL_trans l u x hx h)
  | .choice l ps, u, x, hx, h => by
    rw [subs, List.mem_cons] at h
    rcases h with rfl | h
    · exact hx
    · rw [subs]; exact List.mem_cons_of_mem _ (subsL_trans l u x hx h)
theorem subsL_trans : ∀ (l : List LT) (u x : LT), x ∈ subs u → u ∈ subsL l → x ∈ subsL l
  | [], u, x, hx, h => by rw [subsL] at h; cases h
  | t :: l, u, x, hx, h => by
    rw [subsL, List.mem_append] at h
    rw [subsL, List.mem_append]
    rcases h with h | h
    · exact .inl (subs_trans t u x hx h)
    · exact .inr (subsL_trans l u x hx h)
end

/-- what is asked of each lens -/
def nOk : LT → Prop
  | .same l _ _ => okRepL l
  | .fixed l _ _ v _ _ => okRepL l ∧ ∀ c, c ∈ v → signI (c.toNat : Int) = true
  | .row l ps => ps.length + 1 = l.length
  | .choice l ps => ps.length + 1 = l.length
  | _ => True
def NOk (t : LT) : Prop := ∀ u, u ∈ subs t → nOk u
theorem NOk.part {t u : LT} (h : NOk t) (hu : u ∈ parts t) : NOk u := fun x hx => h x (by rw [subs_eq]; exact List.mem_cons_of_mem _ (subsL_mem _ u x hu hx))
theorem NOk.self {t : LT} (h : NOk t) : nOk t := h t (by rw [subs_eq]; exact List.mem_cons_self)
theorem NOk.of {t : LT} (h0 : nOk t) (h : ∀ u, u ∈ parts t → NOk u) : NOk t := fun x hx => by
  rw [subs_eq] at hx
  rcases List.mem_cons.1 hx with rfl | hx
  · exact h0
  · obtain ⟨u, h1, h2⟩ := subsL_of _ _ hx
    exact h u h1 x h2
theorem NOk.joinRow {l : List LT} {ps : List Nat} (h : ∀ u, u ∈ l → NOk u) (hl : ps.length + 1 = l.length) : NOk (joinRow l ps) := by
  match l, h with
  | [], h => cases hl
  | [t], h => exact h t List.mem_cons_self
  | t :: u :: l, h => exact NOk.of hl (fun u hu => h u hu)
theorem NOk.joinAlt {l : List LT} {ps : List Nat} (h : ∀ u, u ∈ l → NOk u) (hl : ps.length + 1 = l.length) : NOk (joinAlt l ps) := by
  match l, h with
  | [], h => cases hl
  | [t], h => exact h t List.mem_cons_self
  | t :: u :: l, h => exact NOk.of hl (fun u hu => h u hu)

mutual
/-- how large a lens is -/
def lsz : LT → Nat
  | .same l _ _ => stSizeL l + 1
  | .fixed l _ _ v _ _ => stSizeL l + v.length + 1
  | .swap _ a b => lsz a + lsz b + 1
  | .group a => lsz a + 1
  | .many _ a => lsz a + 1
  | .row l _ => lszL l + 1
  | .choice l _ => lszL l + 1
def lszL : List LT → Nat
  | [] => 0
  | t :: l => lsz t + lszL l
end
theorem lsz_joinRow (l : List LT) (ps : List Nat) : lsz (joinRow l ps) ≤ lszL l + 1 := by
  match l with
  | [] => rw [joinRow, lsz]; exact Nat.le_refl _; intro t h; cases h
  | [t] => rw [joinRow, lszL, lszL]; omega
  | t :: u :: l => rw [joinRow, lsz]; exact Nat.le_refl _; intro t h; cases h
theorem lsz_joinAlt (l : List LT) (ps : List Nat) : lsz (joinAlt l ps) ≤ lszL l + 1 := by
  match l with
  | [] => rw [joinAlt, lsz]; exact Nat.le_refl _; intro t h; cases h
  | [t] => rw [joinAlt, lszL, lszL]; omega
  | t :: u :: l => rw [joinAlt, lsz]; exact Nat.le_refl _; intro t h; cases h
theorem lsz_parts (t : LT) : lszL (parts t) + 1 ≤ lsz t := by
  cases t <;> simp only [parts, lsz, lszL] <;> omega
theorem lszL_mem : ∀ (l : List LT) (t : LT), t ∈ l → lsz t ≤ lszL l
  | x :: l, t, h => by
    rw [lszL]
    rcases List.mem_cons.1 h with rfl | h
    · omega
    · have := lszL_mem l t h; omega
mutual
theorem lsz_subs : ∀ (t u : LT), u ∈ subs t → lsz u ≤ lsz t
  | .same l i j, u, h => by rw [subs, List.mem_singleton] at h; subst h; exact Nat.le_refl _
  | .fixed l i j v d a, u, h => by rw [subs, List.mem_singleton] at h; subst h; exact Nat.le_refl _
  | .swap at_ a b, u, h => by
    rw [subs, List.mem_cons, List.mem_append] at h
    rcases h with rfl | h | h
    · exact Nat.le_refl _
    · have := lsz_subs a u h; rw [lsz]; omega
    · have := lsz_subs b u h; rw [lsz]; omega
  | .group a, u, h => by
    rw [subs, List.mem_cons] at h
    rcases h with rfl | h
    · exact Nat.le_refl _
    · have := lsz_subs a u h; rw [lsz]; omega
  | .many at_ a, u, h => by
    rw [subs, List.mem_cons] at h
    rcases h with rfl | h
    · exact Nat.le_refl _
    · have := lsz_subs a u h; rw [lsz]; omega
  | .row l ps, u, h => by
    rw [subs, List.mem_cons] at h
    rcases h with rfl | h
    · exact Nat.le_refl _
    · have := lszL_subs l u h; rw [lsz]; omega
  | .choice l ps, u, h => by
    rw [subs, List.mem_cons] at h
    rcases h with rfl | h
    · exact Nat.le_refl _
    · have := lszL_subs l u h; rw [lsz]; omega
theorem lszL_subs : ∀ (l : List LT) (u : LT), u ∈ subsL l → lsz u ≤ lszL l
  | [], u, h => by rw [subsL] at h; cases h
  | t :: l, u, h => by
    rw [subsL, List.mem_append] at h
    rw [lszL]
    rcases h with h | h
    · have := lsz_subs t u h; omega
    · have := lszL_subs l u h; omega
end
theorem lsz_pos (t : LT) : 1 ≤ lsz t := by cases t <;> rw [lsz] <;> omega
theorem lszL_len : ∀ l : List LT, l.length ≤ lszL l
  | [] => by simp
  | t :: l => by rw [lszL, List.length_cons]; have := lsz_pos t; have := lszL_len l; omega

theorem stSizeL_chrs : ∀ v : List UInt8, stSizeL (v.map fun c => PT.chr [c]) = v.length
  | [] => by rw [List.map_nil, stSizeL]; rfl
  | c :: v => by rw [List.map_cons, stSizeL, stSize, stSizeL_chrs v, List.length_cons]; omega
mutual
theorem sideT_size (v : Bool) : ∀ t, stSize (sideT v t) ≤ lsz t
  | .same l i j => by rw [sideT, lsz]; have := nf_size (.alt l); rw [stSize] at this; exact this
  | .fixed l i j vw d a => by
    rw [sideT, lsz]
    split
    · have := pSeq_size (vw.map fun c => PT.chr [c]); rw [stSizeL_chrs] at this; omega
    · have := nf_size (.alt l); rw [stSize] at this; omega
  | .swap at_ a b => by
    rw [sideT, lsz]
    have h1 := sideT_size v a
    have h2 := sideT_size v b
    split
    · have := pSeq_size [sideT v b, sideT v a]; simp only [stSizeL] at this; omega
    · have := pSeq_size [sideT v a, sideT v b]; simp only [stSizeL] at this; omega
  | .group a => by rw [sideT, lsz]; have := sideT_size v a; omega
  | .many at_ a => by rw [sideT, lsz, stSize]; have := sideT_size v a; omega
  | .row l ps => by rw [sideT, lsz]; have := pSeq_size (sideTL v l); have := sideTL_size v l; omega
  | .choice l ps => by rw [sideT, lsz]; have := pAlt_size (sideTL v l); have := sideTL_size v l; omega
theorem sideTL_size (v : Bool) : ∀ l, stSizeL (sideTL v l) ≤ lszL l
  | [] => by rw [sideTL, stSizeL]; omega
  | t :: l => by rw [sideTL, stSizeL, lszL]; have := sideT_size v t; have := sideTL_size v l; omega
end

theorem okRepL_chrs : ∀ v : List UInt8, okRepL (v.map fun c => PT.chr [c])
  | [] => by rw [List.map_nil, okRepL]; trivial
  | c :: v => by rw [List.map_cons, okRepL, okRep]; exact ⟨trivial, okRepL_chrs v⟩
mutual
theorem sideT_ok (v : Bool) : ∀ t, NOk t → okRep (sideT v t)
  | .same l i j, h => by rw [sideT]; exact nf_ok _ (by rw [okRep]; exact h.self)
  | .fixed l i j vw d a, h => by
    rw [sideT]
    split
    · exact pSeq_ok (okRepL_chrs vw)
    · exact nf_ok _ (by rw [okRep]; exact h.self.1)
  | .swap at_ a b, h => by
    rw [sideT]
    have h1 := sideT_ok v a (h.part (by simp [parts]))
    have h2 := sideT_ok v b (h.part (by simp [parts]))
    split
    · exact pSeq_ok (by simp only [okRepL]; exact ⟨h2, h1, trivial⟩)
    · exact pSeq_ok (by simp only [okRepL]; exact ⟨h1, h2, trivial⟩)
  | .group a, h => by rw [sideT]; exact sideT_ok v a (h.part (by simp [parts]))
  | .many at_ a, h => by rw [sideT, okRep]; exact ⟨.inl rfl, sideT_ok v a (h.part (by simp [parts]))⟩
  | .row l ps, h => by rw [sideT]; exact pSeq_ok (sideTL_ok v l (fun u hu => h.part hu))
  | .choice l ps, h => by rw [sideT]; exact pAlt_ok (sideTL_ok v l (fun u hu => h.part hu))
theorem sideTL_ok (v : Bool) : ∀ l, (∀ u, u ∈ l → NOk u) → okRepL (sideTL v l)
  | [], _ => by rw [sideTL, okRepL]; trivial
  | t :: l, h => by rw [sideTL, okRepL]; exact ⟨sideT_ok v t (h t List.mem_cons_self), sideTL_ok v l (fun u hu => h u (List.mem_cons_of_mem _ hu))⟩
end

theorem sideP_size (v : Bool) (t : LT) : stSizeL (sideP v t) ≤ lszL (parts t) := by
  unfold sideP
  split
  · rename_i a b
    have h1 := sideT_size v a
    have h2 := sideT_size v b
    split <;> simp only [stSizeL, parts, lszL] <;> omega
  · exact sideTL_size v _
theorem sideP_ok (v : Bool) (t : LT) (h : NOk t) : okRepL (sideP v t) := by
  unfold sideP
  split
  · rename_i a b
    have h1 := sideT_ok v a (h.part (by simp [parts]))
    have h2 := sideT_ok v b (h.part (by simp [parts]))
    split <;> simp only [okRepL] <;> simp [h1, h2]
  · exact sideTL_ok v _ (fun u hu => h.part hu)
theorem stSizeL_at : ∀ (l : List PT) (n : Nat) (t : PT), l[n]? = some t → stSize t ≤ stSizeL l
  | x :: l, 0, t, h => by simp at h; subst h; rw [stSizeL]; omega
  | x :: l, n + 1, t, h => by rw [stSizeL]; have := stSizeL_at l n t (by simpa using h); omega
theorem okRepL_take : ∀ (l : List PT) (n : Nat), okRepL l → okRepL (l.take n)
  | [], n, h => by simpa using h
  | t :: l, 0, h => by rw [List.take_zero, okRepL]; trivial
  | t :: l, n + 1, h => by rw [okRepL] at h; rw [List.take_succ_cons, okRepL]; exact ⟨h.1, okRepL_take l n h.2⟩
theorem okRepL_at : ∀ (l : List PT) (n : Nat) (t : PT), okRepL l → l[n]? = some t → okRep t
  | x :: l, 0, t, h, e => by simp at e; subst e; rw [okRepL] at h; exact h.1
  | x :: l, n + 1, t, h, e => by rw [okRepL] at h; exact okRepL_at l n t h.2 (by simpa using e)

theorem twB_ok {v : Bool} {t : LT} {n : Nat} (h : NOk t) (hz : lsz t ≤ 400) : okRep (twB v t n) ∧ stSize (twB v t n) ≤ 1000 := by
  unfold twB
  have h1 := sideP_size v t
  have h2 := lsz_parts t
  cases e : (sideP v t)[n + 1]? with
  | none => refine ⟨?_, ?_⟩ <;> simp [okRep, okRepL, stSize, stSizeL]
  | some x => exact ⟨okRepL_at _ _ _ (sideP_ok v t h) e, by have := stSizeL_at _ _ _ e; simp only [Option.getD_some]; omega⟩

theorem jok_of {t : LT} {n : Nat} (h : NOk t) (hz : lsz t ≤ 400) (hn : nbOf t n) : JOk t n ∧ n < (placesOf t).length := by
  have h1 := fun v => sideP_size v t
  have h2 := lsz_parts t
  refine ⟨⟨?_, fun v => ?_, ?_⟩, ?_⟩
  · cases t <;> exact hn
  · have ha : okRep (twA v t n) := pSeq_ok (okRepL_take _ _ (sideP_ok v t h))
    have hb := twB_ok (v := v) (n := n) h hz
    have hc : stSize (twA v t n) ≤ 1000 := by
      have := pSeq_size ((sideP v t).take (n + 1))
      have := stSizeL_take (sideP v t) (n + 1)
      have := h1 v
      show stSize (pSeq _) ≤ 1000
      omega
    cases t with
    | many at_ a =>
      refine ⟨sideT_ok v a (h.part (by simp [parts])), ?_⟩
      have := sideT_size v a
      rw [lsz] at hz
      omega
    | _ => exact ⟨ha, hb.1, hc, hb.2⟩
  · refine ⟨pAlt_ok (okRepL_take _ _ (sideP_ok false t h)), ?_⟩
    have := pAlt_size ((sideP false t).take (n + 1))
    have := stSizeL_take (sideP false t) (n + 1)
    have := h1 false
    show stSize (pAlt _) ≤ 1000
    omega
  · have h3 := h.self
    cases t with
    | same l i j => simp [nbOf, parts] at hn
    | fixed l i j v d a => simp [nbOf, parts] at hn
    | swap at_ a b => simp [nbOf, parts] at hn; simp [placesOf]; omega
    | group a => simp [nbOf, parts] at hn
    | many at_ a => simp [nbOf] at hn; simp [placesOf, hn]
    | row l ps => simp only [nbOf, parts] at hn; simp only [nOk] at h3; simp only [placesOf]; omega
    | choice l ps => simp only [nbOf, parts] at hn; simp only [nOk] at h3; simp only [placesOf]; omega

theorem FG.of {t : LT} (h : NOk t) (hz : lsz t ≤ 400) : FG t := by
  refine ⟨fun u hu => ?_, fun u hu n hn => jok_of (fun x hx => ?_) (Nat.le_trans (lsz_subs t u hu) hz) hn⟩
  · have h1 := h u hu
    have h2 := lsz_subs t u hu
    have h3 := lsz_parts u
    have h4 := lszL_len (parts u)
    cases u with
    | fixed l i j v d a => rw [lsz] at h2; exact ⟨h1.2, by omega⟩
    | _ => simp only [vOk]; omega
  · exact h x (subs_trans t u x hx hu)

theorem skipB_le2 (s : ByteArray) (i : Nat) : i ≤ skipB s i := (skipN_bd s _ i).1

theorem gQuoted_wf {s : ByteArray} {i : Nat} {v : List UInt8} {j : Nat} (h : gQuoted s i = .ok v j) : (∀ c, c ∈ v → signI (c.toNat : Int) = true) ∧ i + v.length + 2 = j ∧ j ≤ s.size := by
  unfold gQuoted at h
  split at h
  · rename_i h1
    split at h
    · rename_i h2
      cases h
      have a1 := pk_lt (s := s) (i := i) (by rw [h1]; decide)
      have a2 := pk_lt (s := s) (i := signsE s (i + 1)) (by rw [h2]; decide)
      have a3 := signsE_bd s (i + 1) a1
      have hl : s.data.toList.length = s.size := rfl
      refine ⟨fun c hc => signsN_all s (s.size - (i + 1)) (i + 1) (by omega) c hc, ?_, by omega⟩
      rw [sub_len _ _ _ (by omega)]
      omega
    · cases h
  · cases h

theorem gPlain_wf {s : ByteArray} (hs : s.size ≤ 120) {n i : Nat} {t : LT} {j : Nat} (h : gPlain s n i = .ok t j) : NOk t ∧ lsz t + 3 * i ≤ 3 * j := by
  unfold gPlain at h
  cases hg : gAlts s n (i + 1) with
  | err p => rw [hg] at h; cases h
  | ok l k =>
    rw [hg] at h
    simp only [Res.bind] at h
    split at h
    · have hsz := (g_size s n).2.2 _ _ _ hg
      have hok := (gAlts_wf s hs n _ _ _ hg).2
      split at h
      · cases hq : gQuoted s (skipB s (k + 1)) with
        | err p => rw [hq] at h; cases h
        | ok v k1 =>
          rw [hq] at h
          simp only at h
          cases hq2 : gQuoted s (skipB s k1) with
          | err p => rw [hq2] at h; cases h
          | ok d m =>
            rw [hq2] at h
            cases h
            have q1 := gQuoted_wf hq
            have q2 := gQuoted_wf hq2
            have q3 := skipB_le2 s (k + 1)
            have q4 := skipB_le2 s k1
            exact ⟨NOk.of ⟨hok, q1.1⟩ (fun u hu => absurd hu (List.not_mem_nil)), by rw [lsz]; omega⟩
      · cases h
        have q3 := skipB_le2 s (k + 1)
        exact ⟨NOk.of hok (fun u hu => absurd hu (List.not_mem_nil)), by rw [lsz]; omega⟩
    · cases h

theorem gL_wf (s : ByteArray) (hs : s.size ≤ 120) : ∀ n, (∀ i t j, gPiece s n i = .ok t j → NOk t ∧ lsz t + 3 * i ≤ 3 * j) ∧ (∀ i t j, gItem s n i = .ok t j → NOk t ∧ lsz t + 3 * i ≤ 3 * j) ∧
    (∀ i x j, gItems s n i = .ok x j → (∀ u, u ∈ x.1 → NOk u) ∧ x.2.length + 1 = x.1.length ∧ lszL x.1 + 3 * i ≤ 3 * j) ∧ (∀ i x j, gRows s n i = .ok x j → (∀ u, u ∈ x.1 → NOk u) ∧ x.2.length + 1 = x.1.length ∧ lszL x.1 + 3 * i ≤ 3 * j + 1)
  | 0 => ⟨fun i t j h => (by rw [gPiece] at h; cases h), fun i l j h => (by rw [gItem] at h; cases h), fun i l j h => (by rw [gItems] at h; cases h), fun i l j h => (by rw [gRows] at h; cases h)⟩
  | n + 1 => by
    obtain ⟨k1, k2, k3, k4⟩ := gL_wf s hs n
    refine ⟨fun i t j h => ?_, fun i t j h => ?_, fun i t j h => ?_, fun i t j h => ?_⟩
    · rw [gPiece] at h
      split at h
      · exact gPlain_wf hs h
      · split at h
        · split at h
          · cases hq : gRows s n (skipB s (i + 1) + 1) with
            | err p => rw [hq] at h; cases h
            | ok a j1 =>
              rw [hq] at h
              simp only [Res.bind] at h
              have h1 := k4 _ _ _ hq
              split at h
              · cases hq2 : gRows s n (j1 + 1) with
                | err p => rw [hq2] at h; cases h
                | ok b k =>
                  rw [hq2] at h
                  simp only at h
                  have h3 := k4 _ _ _ hq2
                  split at h
                  · cases h
                    refine ⟨NOk.of trivial (fun u hu => ?_), ?_⟩
                    · rw [parts] at hu
                      rcases List.mem_cons.1 hu with rfl | hu
                      · exact NOk.joinAlt h1.1 h1.2.1
                      · rw [List.mem_singleton] at hu
                        subst hu
                        exact NOk.joinAlt h3.1 h3.2.1
                    · have := lsz_joinAlt a.1 a.2
                      have := lsz_joinAlt b.1 b.2
                      have := skipB_le2 s (i + 1)
                      rw [lsz]
                      omega
                  · cases h
              · cases h
          · cases h
        · split at h
          · cases hq : gRows s n (i + 1) with
            | err p => rw [hq] at h; cases h
            | ok a j1 =>
              rw [hq] at h
              simp only [Res.bind] at h
              have h1 := k4 _ _ _ hq
              split at h
              · cases h
                refine ⟨NOk.of trivial (fun u hu => ?_), ?_⟩
                · rw [parts, List.mem_singleton] at hu
                  subst hu
                  exact NOk.joinAlt h1.1 h1.2.1
                · have := lsz_joinAlt a.1 a.2
                  rw [lsz]
                  omega
              · cases h
          · cases h
    · rw [gItem] at h
      cases hq : gPiece s n i with
      | err p => rw [hq] at h; cases h
      | ok a j1 =>
        rw [hq] at h
        simp only [Res.bind] at h
        have h1 := k1 _ _ _ hq
        have h2 := skipB_le2 s j1
        split at h
        · cases h
          refine ⟨NOk.of trivial (fun u hu => ?_), ?_⟩
          · rw [parts, List.mem_singleton] at hu
            subst hu
            exact h1.1
          · have := skipB_le2 s (skipB s j1 + 1)
            rw [lsz]
            omega
        · cases h
          exact ⟨h1.1, by omega⟩
    · rw [gItems] at h
      cases hq : gItem s n i with
      | err p => rw [hq] at h; cases h
      | ok a j1 =>
        rw [hq] at h
        simp only [Res.bind] at h
        have h1 := k2 _ _ _ hq
        split at h
        · cases hq2 : gItems s n j1 with
          | err p => rw [hq2] at h; cases h
          | ok b k =>
            rw [hq2] at h
            have h3 := k3 _ _ _ hq2
            cases h
            refine ⟨fun u hu => ?_, by simp only [List.length_cons]; omega, by simp only [lszL]; omega⟩
            rcases List.mem_cons.1 hu with rfl | hu
            · exact h1.1
            · exact h3.1 u hu
        · cases h
          refine ⟨fun u hu => ?_, rfl, by simp only [lszL]; omega⟩
          rw [List.mem_singleton] at hu
          subst hu
          exact h1.1
    · rw [gRows] at h
      cases hq : gItems s n (skipB s i) with
      | err p => rw [hq] at h; cases h
      | ok a j1 =>
        rw [hq] at h
        simp only [Res.bind] at h
        have h1 := k3 _ _ _ hq
        have h0 := skipB_le2 s i
        have hj := lsz_joinRow a.1 a.2
        split at h
        · cases hq2 : gRows s n (j1 + 1) with
          | err p => rw [hq2] at h; cases h
          | ok b k =>
            rw [hq2] at h
            have h3 := k4 _ _ _ hq2
            cases h
            refine ⟨fun u hu => ?_, by simp only [List.length_cons]; omega, by simp only [lszL]; omega⟩
            rcases List.mem_cons.1 hu with rfl | hu
            · exact NOk.joinRow h1.1 h1.2.1
            · exact h3.1 u hu
        · cases h
          refine ⟨fun u hu => ?_, rfl, by simp only [lszL]; omega⟩
          rw [List.mem_singleton] at hu
          subst hu
          exact NOk.joinRow h1.1 h1.2.1

theorem tree_wf {s : ByteArray} {t : LT} (h : TreeOf s t) : NOk t ∧ lsz t ≤ 400 := by
  obtain ⟨hs, x, hg, _, rfl⟩ := h
  obtain ⟨h1, h2, h3⟩ := (gL_wf s hs _).2.2.2 _ _ _ hg
  exact ⟨NOk.joinAlt h1 h2, by have := lsz_joinAlt x.1 x.2; omega⟩
theorem tree_fg (s : ByteArray) (t : LT) (h : TreeOf s t) : FG t := FG.of (tree_wf h).1 (tree_wf h).2

theorem check_said (s : ByteArray) (w : World) (hm : s.size ≤ maxLen) (hTab : Tab w) :
    Calls Tryz.prog 14 #[.string s] w fun e w' => ChPost s w e w' := gcheck holds_said tree_fg s w hm hTab
theorem examine_said (s : ByteArray) (w : World) (hm : s.size ≤ maxLen) (hTab : Tab w) :
    Calls Tryz.prog 32 #[.string s] w fun e w' => ExPost s w e w' := gexamine holds_said tree_fg s w hm hTab

end Go.Proofs.YtlljggefbngkeaaGreatDoor
