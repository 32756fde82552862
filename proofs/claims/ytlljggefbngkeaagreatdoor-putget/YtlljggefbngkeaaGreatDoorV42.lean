import Derived.Test.YtlljggefbngkeaaGreatDoorV41
import Derived.Test.YtlljggefbngkeaaGreatDoorV37
namespace Go.Proofs.YtlljggefbngkeaaGreatDoor
open Go.RowKit Go.Shelf

/-- what is asked of a lens that is compiled -/
structure NB (t : LT) : Prop where
  ok : NOk t
  sz : lsz t ≤ 400
  ne : bNE (toB t)
  bz : bsz (toB t) ≤ 800
theorem NB.v {t : LT} (h : NB t) : VOk t := (FG.of h.ok h.sz).1
theorem okRepL_mem : ∀ {l : List PT}, okRepL l → ∀ x, x ∈ l → okRep x
  | [], _, x, h => by cases h
  | y :: l, h, x, hx => by
    rw [okRepL] at h
    rcases List.mem_cons.1 hx with rfl | hx
    · exact h.1
    · exact okRepL_mem h.2 x hx
theorem stSizeL_mem : ∀ {l : List PT} {x : PT}, x ∈ l → stSize x ≤ stSizeL l
  | [], x, h => by cases h
  | y :: l, x, hx => by
    rw [stSizeL]
    rcases List.mem_cons.1 hx with rfl | hx
    · omega
    · have := stSizeL_mem hx; omega
theorem NB.parts {t : LT} (h : NB t) (v : Bool) : (∀ x, x ∈ sideP v t → okRep x ∧ stSize x ≤ 1000) ∧ ∀ i, okRep (pSeq ((sideP v t).take (i + 1))) ∧ stSize (pSeq ((sideP v t).take (i + 1))) ≤ 1000 := by
  have h1 := sideP_size v t
  have h2 := lsz_parts t
  have h3 := h.sz
  have h4 := sideP_ok v t h.ok
  refine ⟨fun x hx => ⟨okRepL_mem h4 x hx, ?_⟩, fun i => ⟨pSeq_ok (okRepL_take _ _ h4), ?_⟩⟩
  · have := stSizeL_mem hx; omega
  · have := pSeq_size ((sideP v t).take (i + 1))
    have := stSizeL_take (sideP v t) (i + 1)
    omega

theorem texts_at {s : ByteArray} {v : Bool} {t : LT} {w W : World} {Y : Nat → Prop} {g : Nat} (hL : LR s w Y t g) (hN : NB t) (hY : ∀ k, Y k → k < w.heap.size) (hk : K0 w W) :
    Calls Tryz.prog 69 #[.int .i64 (sdV v), .pointer (some ⟨g, 0, none⟩)] W fun e w' => (∃ b, e = .returned (.agg #[.int .i64 (misV v), .pointer (some ⟨b, 0, none⟩)]) ∧ MachO w' Y (sideT v t) b) ∧ K0 W w' := by
  have hz := hk.size
  refine (textsOf_said (LR.kept (fun k hk' _ => hk.heap hk') hL) hN.v (fun k h => by have := hY k h; omega) hN.ok hN.sz).mono ?_
  rintro e w' ⟨⟨b, h1, h2⟩, h3⟩
  exact ⟨⟨b, h1, h2.reY (fun k _ hy => by have := hY k hy; omega)⟩, h3⟩
theorem partings_at {s : ByteArray} {v : Bool} {t : LT} {w W : World} {Y : Nat → Prop} {g : Nat} (hL : LR s w Y t g) (hN : NB t) (hY : ∀ k, Y k → k < w.heap.size) (hp : 0 < (parts t).length) (hk : K0 w W) :
    Calls Tryz.prog 72 #[.int .i64 (sdV v), .pointer (some ⟨g, 0, none⟩)] W fun e w' => (∃ sl ps, e = .returned sl ∧ PgO Y w' (misV v) sl ps (partAB (sideP v t) ((parts t).length - 1))) ∧ K0 W w' := by
  have hz := hk.size
  refine (partings_said (LR.kept (fun k hk' _ => hk.heap hk') hL) hN.v (fun k h => by have := hY k h; omega) (hN.parts v).1 (hN.parts v).2 hp).mono ?_
  rintro e w' ⟨sl, ps, h1, h2, h3⟩
  exact ⟨⟨sl, ps, h1, h2.reY (fun k _ hy => by have := hY k hy; omega)⟩, h3⟩
theorem rows_at {s : ByteArray} {v : Bool} {t : LT} {w W : World} {Y : Nat → Prop} {g : Nat} (hL : LR s w Y t g) (hN : NB t) (hY : ∀ k, Y k → k < w.heap.size) (hk : K0 w W) :
    Calls Tryz.prog 77 #[.int .i64 (sdV v), .pointer (some ⟨g, 0, none⟩)] W fun e w' => (∃ sl bs, e = .returned (.agg #[.int .i64 (misV v), sl]) ∧ MsO Y w' sl bs (sideP v t)) ∧ K0 W w' := by
  have hz := hk.size
  refine (rowsOf_said (LR.kept (fun k hk' _ => hk.heap hk') hL) hN.v (fun k h => by have := hY k h; omega) (hN.parts v).1).mono ?_
  rintro e w' ⟨sl, bs, h1, h2, h3⟩
  exact ⟨⟨sl, bs, h1, h2.reY (fun k _ hy => by have := hY k hy; omega)⟩, h3⟩

set_option maxRecDepth 100000 in
set_option maxHeartbeats 3200000 in
theorem new_same {s : ByteArray} {l : List PT} {i j : Nat} (hN : NB (.same l i j)) (ih : ∀ u, u ∈ parts (.same l i j) → NewOf s u) : NewOf s (.same l i j) := by
  intro w Y g hL hY
  obtain ⟨hng, pv, jv, pat, wr0, vw, df, a0, gs, hb, hpo, hpn, hLL⟩ := lr_node hL
  obtain ⟨ao, cp, rfl⟩ := own_slice hpo
  obtain ⟨hlen, hat⟩ := lrl_at hLL
  have hfew : gs.length ≤ 1000 := by have := hN.v.len; omega
  have c1 : w.cell? ⟨g, 1, none⟩ = some (.slice ao gs.length cp) := by rw [cellOf hb 1]; rfl
  have HE := hide (eachL_said hY hpo hlen (fun i p t h1 h2 => hat i t p h1 h2) ih hfew)
  have HB := hide hb
  have HL := hide (And.intro hL (And.intro hN (And.intro hY hng)))
  have HLEN := hide hlen
  clear hL hN hY hng hb hpo hpn hLL hat hlen ih hfew
  go_enter Tryz.func47, Tryz.ntmps47
  go_wp2_with fail
  refine (unhide HE).mono ?_
  rintro e w1 ⟨sl, bs, rfl, hCs, hk1⟩
  obtain ⟨ao1, cp1, rfl⟩ := own_slice hCs.own
  have c0 : w1.cell? ⟨g, 0, none⟩ = some (.int .i64 0) := by rw [cellOf ((hk1.heap (heap_lt (unhide HB))).trans (unhide HB)) 0]; rfl
  have HC := hide hCs
  clear hCs HE c1
  have HT0 := hide (fun (W : World) (hk : K0 w W) => texts_at (v := false) (unhide HL).1 (unhide HL).2.1 (unhide HL).2.2.1 hk)
  have HT1 := hide (fun (W : World) (hk : K0 w W) => texts_at (v := true) (unhide HL).1 (unhide HL).2.1 (unhide HL).2.2.1 hk)
  rw [show sdV false = 0 from rfl, show misV false = 1 from rfl] at HT0
  rw [show sdV true = 1 from rfl, show misV true = 2 from rfl] at HT1
  go_wp2_with fail
  refine (unhide HT0 _ hk1).mono ?_
  rintro e w2 ⟨⟨b1, rfl, hM1⟩, hk2⟩
  have hk12 := hk1.trans hk2
  have HM1 := hide hM1
  clear hM1
  go_wp2_with fail
  refine (unhide HT1 _ hk12).mono ?_
  rintro e w3 ⟨⟨b2, rfl, hM2⟩, hk3⟩
  have hk13 := hk12.trans hk3
  have HM2 := hide hM2
  clear hM2
  have HF := hide (same_said (t := .alt l) (fun k h => by have := (unhide HL).2.2.1 k h; have := hk13.size; omega) ((unhide HM1).ky (hk3.ky Y)) (unhide HM2) (fun u => (side_eq false (.same l i j) (unhide HL).2.1.ok u).symm) (fun u => (side_eq true (.same l i j) (unhide HL).2.1.ok u).symm))
  go_wp2_with fail
  refine (unhide HF).mono ?_
  rintro e w4 ⟨b, rfl, hCL, hk4⟩
  have H4 := hide hCL
  clear hCL
  go_wp2
  go_ret
  rw [toB]
  exact ⟨b, rfl, unhide H4, hk13.trans hk4⟩

set_option maxRecDepth 100000 in
set_option maxHeartbeats 3200000 in
theorem new_fixed {s : ByteArray} {l : List PT} {i j : Nat} {vv dd : List UInt8} {aa : Nat} (hN : NB (.fixed l i j vv dd aa)) (ih : ∀ u, u ∈ parts (.fixed l i j vv dd aa) → NewOf s u) : NewOf s (.fixed l i j vv dd aa) := by
  intro w Y g hL hY
  obtain ⟨hng, pv, jv, pat, wr0, vw, df, a0, gs, hb, hpo, hpn, hLL⟩ := lr_node hL
  obtain ⟨ao, cp, rfl⟩ := own_slice hpo
  obtain ⟨hlen, hat⟩ := lrl_at hLL
  have hfew : gs.length ≤ 1000 := by have := hN.v.len; omega
  have c1 : w.cell? ⟨g, 1, none⟩ = some (.slice ao gs.length cp) := by rw [cellOf hb 1]; rfl
  have HE := hide (eachL_said hY hpo hlen (fun i p t h1 h2 => hat i t p h1 h2) ih hfew)
  have HB := hide hb
  have HL := hide (And.intro hL (And.intro hN (And.intro hY hng)))
  have HLEN := hide hlen
  clear hL hN hY hng hb hpo hpn hLL hat hlen ih hfew
  go_enter Tryz.func47, Tryz.ntmps47
  go_wp2_with fail
  refine (unhide HE).mono ?_
  rintro e w1 ⟨sl, bs, rfl, hCs, hk1⟩
  obtain ⟨ao1, cp1, rfl⟩ := own_slice hCs.own
  have c0 : w1.cell? ⟨g, 0, none⟩ = some (.int .i64 1) := by rw [cellOf ((hk1.heap (heap_lt (unhide HB))).trans (unhide HB)) 0]; rfl
  have HC := hide hCs
  clear hCs HE c1
  have HT0 := hide (fun (W : World) (hk : K0 w W) => texts_at (v := false) (unhide HL).1 (unhide HL).2.1 (unhide HL).2.2.1 hk)
  have HT1 := hide (fun (W : World) (hk : K0 w W) => texts_at (v := true) (unhide HL).1 (unhide HL).2.1 (unhide HL).2.2.1 hk)
  rw [show sdV false = 0 from rfl, show misV false = 1 from rfl] at HT0
  rw [show sdV true = 1 from rfl, show misV true = 2 from rfl] at HT1
  go_wp2_with fail
  refine (unhide HT0 _ hk1).mono ?_
  rintro e w2 ⟨⟨b1, rfl, hM1⟩, hk2⟩
  have hk12 := hk1.trans hk2
  have HM1 := hide hM1
  clear hM1
  go_wp2_with fail
  refine (unhide HT1 _ hk12).mono ?_
  rintro e w3 ⟨⟨b2, rfl, hM2⟩, hk3⟩
  have hk13 := hk12.trans hk3
  have HM2 := hide hM2
  clear hM2
  have hlb : ∃ p, w.heap[g]? = some (lblk 1 (.slice none 0 0) (.slice none 0 0) (.pointer (some ⟨p, 0, none⟩)) (s.extract i j) (txt vv) (txt dd) aa) := by
    have h := (unhide HL).1
    rw [LR] at h
    exact ⟨h.2.choose, h.2.choose_spec.1⟩
  obtain ⟨pp, hlb⟩ := hlb
  have HF := hide (fixed_said (t := .alt l) (v := vv) (d := dd) (fun k h => by have := (unhide HL).2.2.1 k h; have := hk13.size; omega) (unhide HL).2.2.2 ((hk13.heap (heap_lt hlb)).trans hlb) ((unhide HM1).ky (hk3.ky Y)) (unhide HM2) (fun u => (side_eq false (.fixed l i j vv dd aa) (unhide HL).2.1.ok u).symm) (fun u => (side_eq true (.fixed l i j vv dd aa) (unhide HL).2.1.ok u).symm))
  clear hlb
  go_wp2_with fail
  refine (unhide HF).mono ?_
  rintro e w4 ⟨b, rfl, hCL, hk4⟩
  have H4 := hide hCL
  clear hCL
  go_wp2
  go_ret
  rw [toB]
  exact ⟨b, rfl, unhide H4, hk13.trans hk4⟩

set_option maxRecDepth 100000 in
set_option maxHeartbeats 3200000 in
theorem new_group {s : ByteArray} {a : LT} (hN : NB (.group a)) (ih : ∀ u, u ∈ parts (.group a) → NewOf s u) : NewOf s (.group a) := by
  intro w Y g hL hY
  obtain ⟨hng, pv, jv, pat, wr0, vw, df, a0, gs, hb, hpo, hpn, hLL⟩ := lr_node hL
  obtain ⟨ao, cp, rfl⟩ := own_slice hpo
  obtain ⟨hlen, hat⟩ := lrl_at hLL
  have hfew : gs.length ≤ 1000 := by have := hN.v.len; omega
  have c1 : w.cell? ⟨g, 1, none⟩ = some (.slice ao gs.length cp) := by rw [cellOf hb 1]; rfl
  have HE := hide (eachL_said hY hpo hlen (fun i p t h1 h2 => hat i t p h1 h2) ih hfew)
  have HB := hide hb
  have HL := hide (And.intro hL (And.intro hN (And.intro hY hng)))
  have HLEN := hide hlen
  clear hL hN hY hng hb hpo hpn hLL hat hlen ih hfew
  go_enter Tryz.func47, Tryz.ntmps47
  go_wp2_with fail
  refine (unhide HE).mono ?_
  rintro e w1 ⟨sl, bs, rfl, hCs, hk1⟩
  obtain ⟨ao1, cp1, rfl⟩ := own_slice hCs.own
  have c0 : w1.cell? ⟨g, 0, none⟩ = some (.int .i64 3) := by rw [cellOf ((hk1.heap (heap_lt (unhide HB))).trans (unhide HB)) 0]; rfl
  have HC := hide hCs
  clear hCs HE c1
  have hl1 : bs.length = 1 := by have := (unhide HC).len; rw [this, List.length_map]; rfl
  obtain ⟨vb, cap, hveq, _, hvl⟩ := (unhide HC).own.form (by omega)
  injection hveq with hao hn hcp
  subst hao hcp
  obtain ⟨g0, hg0⟩ : ∃ g0, bs[0]? = some g0 := ⟨_, List.getElem?_eq_getElem (by omega)⟩
  have d0 : w1.cell? ⟨vb, 0, none⟩ = some (.pointer (some ⟨g0, 0, none⟩)) := by
    rw [(unhide HC).own.cellAt 0 (by omega)]
    simp [ptrs, hg0]
  have hCL := (unhide HC).at_ 0 g0 (toB a) hg0 rfl
  have H4 := hide hCL
  clear hCL hg0
  rw [hl1]
  go_wp2
  go_ret
  rw [toB]
  exact ⟨g0, rfl, unhide H4, hk1⟩

set_option maxRecDepth 100000 in
set_option maxHeartbeats 1600000 in
/-- a row of one: that one -/
theorem row_one {Y : Nat → Prop} {w : World} {l : List LT} {ps : List Nat} {sl sls slv : Value} {gs : List Nat} (hC : CsO Y w sl gs (l.map toB)) (hl : l.length = 1) :
    Calls Tryz.prog 75 #[sl, sls, slv] w fun e w' => ClPost Y w (rowB 114 l ps) e w' := by
  have hgl : gs.length = 1 := by rw [hC.len, List.length_map, hl]
  obtain ⟨vb, cap, rfl, _, hvbl⟩ := hC.own.form (by omega)
  have hcap : gs.length ≤ cap ∧ cap ≤ 9223372036854775807 := by
    rcases hC.own.2 with ⟨h', _⟩ | ⟨g', cap', cur, h', _, _, hnc, hcm, _⟩
    · simp at h'
    · injection h' with _ _ hc
      unfold maxLen at hcm
      omega
  obtain ⟨g0, hg0⟩ : ∃ g0, gs[0]? = some g0 := ⟨_, List.getElem?_eq_getElem (by omega)⟩
  obtain ⟨t0, rfl⟩ := List.length_eq_one_iff.1 hl
  have c0 : w.cell? ⟨vb, 0, none⟩ = some (.pointer (some ⟨g0, 0, none⟩)) := by
    rw [hC.own.cellAt 0 (by omega)]
    simp [ptrs, hg0]
  have hst : CL Y w g0 (rowB 114 [t0] ps) := by
    have := hC.at_ 0 g0 (toB t0) hg0 rfl
    rw [rowB_one]
    exact this
  rw [hgl] at hcap ⊢
  have HST := hide hst
  have hd3 : (1 : Int) ≤ (cap : Int) := by omega
  clear hC hst hg0 hgl
  by_cases h1 : cap = 1
  · subst h1
    go_enter Tryz.func75, Tryz.ntmps75
    go_wp2_with fail
    refine wp_loop_rounds 1 ?_
    rw [rounds_succ]
    go_wp2
    go_ret
    exact ⟨g0, rfl, unhide HST, K0.refl _⟩
  · have h2 : ¬ (cap - 1 = 0) := by omega
    go_enter Tryz.func75, Tryz.ntmps75
    go_wp2_with fail
    refine wp_loop_rounds 1 ?_
    rw [rounds_succ]
    go_wp2
    go_ret
    exact ⟨g0, rfl, unhide HST, K0.refl _⟩

set_option maxRecDepth 100000 in
set_option maxHeartbeats 3200000 in
theorem new_row {s : ByteArray} {l : List LT} {ps : List Nat} (hN : NB (.row l ps)) (ih : ∀ u, u ∈ parts (.row l ps) → NewOf s u) : NewOf s (.row l ps) := by
  intro w Y g hL hY
  obtain ⟨hng, pv, jv, pat, wr0, vw, df, a0, gs, hb, hpo, hpn, hLL⟩ := lr_node hL
  obtain ⟨ao, cp, rfl⟩ := own_slice hpo
  obtain ⟨hlen, hat⟩ := lrl_at hLL
  have hfew : gs.length ≤ 1000 := by have := hN.v.len; omega
  have c1 : w.cell? ⟨g, 1, none⟩ = some (.slice ao gs.length cp) := by rw [cellOf hb 1]; rfl
  have HE := hide (eachL_said hY hpo hlen (fun i p t h1 h2 => hat i t p h1 h2) ih hfew)
  have HB := hide hb
  have HL := hide (And.intro hL (And.intro hN (And.intro hY hng)))
  have HLEN := hide hlen
  clear hL hN hY hng hb hpo hpn hLL hat hlen ih hfew
  go_enter Tryz.func47, Tryz.ntmps47
  go_wp2_with fail
  refine (unhide HE).mono ?_
  rintro e w1 ⟨sl, bs, rfl, hCs, hk1⟩
  obtain ⟨ao1, cp1, rfl⟩ := own_slice hCs.own
  have c0 : w1.cell? ⟨g, 0, none⟩ = some (.int .i64 5) := by rw [cellOf ((hk1.heap (heap_lt (unhide HB))).trans (unhide HB)) 0]; rfl
  have HC := hide hCs
  clear hCs HE c1
  have hnk : ps.length + 1 = l.length := (unhide HL).2.1.ok.self
  have HT0 := hide (fun (W : World) (hk : K0 w W) => partings_at (v := false) (unhide HL).1 (unhide HL).2.1 (unhide HL).2.2.1 (by show 0 < l.length; omega) hk)
  have HT1 := hide (fun (W : World) (hk : K0 w W) => partings_at (v := true) (unhide HL).1 (unhide HL).2.1 (unhide HL).2.2.1 (by show 0 < l.length; omega) hk)
  rw [show sdV false = 0 from rfl, show misV false = 1 from rfl] at HT0
  rw [show sdV true = 1 from rfl, show misV true = 2 from rfl] at HT1
  clear hnk
  go_wp2_with fail
  refine (unhide HT0 _ hk1).mono ?_
  rintro e w2 ⟨⟨sl1, p1, rfl, hM1⟩, hk2⟩
  obtain ⟨ao2, cp2, rfl⟩ := own_slice hM1.own
  have hk12 := hk1.trans hk2
  have HM1 := hide hM1
  clear hM1
  go_wp2_with fail
  refine (unhide HT1 _ hk12).mono ?_
  rintro e w3 ⟨⟨sl2, p2, rfl, hM2⟩, hk3⟩
  obtain ⟨ao3, cp3, rfl⟩ := own_slice hM2.own
  have hk13 := hk12.trans hk3
  have HM2 := hide hM2
  clear hM2
  have HF : Hid (Calls Tryz.prog 75 #[.slice ao1 bs.length cp1, .slice ao2 p1.length cp2, .slice ao3 p2.length cp3] w3 fun e w' => ClPost Y w3 (rowB 114 l ps) e w') := hide (by
    have hN := (unhide HL).2.1
    have hnk : ps.length + 1 = l.length := hN.ok.self
    have hne := hN.ne
    have hbz := hN.bz
    rw [toB] at hne hbz
    rcases Nat.lt_or_ge l.length 2 with h2 | h2
    · have hl1 : l.length = 1 := by omega
      exact row_one ((unhide HC).ky ((hk2.trans hk3).ky Y)) hl1
    · exact row_said (fun k h => by have := (unhide HL).2.2.1 k h; have := hk13.size; omega) ((unhide HC).ky ((hk2.trans hk3).ky Y)) ((unhide HM1).ky (hk3.ky Y)) (unhide HM2) hnk h2 (fun t ht => hN.ok.part ht) hne hbz)
  go_wp2_with fail
  refine (unhide HF).mono ?_
  rintro e w4 ⟨b, rfl, hCL, hk4⟩
  have H4 := hide hCL
  clear hCL
  go_wp2
  go_ret
  rw [toB]
  exact ⟨b, rfl, unhide H4, hk13.trans hk4⟩

set_option maxRecDepth 100000 in
set_option maxHeartbeats 3200000 in
theorem new_choice {s : ByteArray} {l : List LT} {ps : List Nat} (hN : NB (.choice l ps)) (ih : ∀ u, u ∈ parts (.choice l ps) → NewOf s u) : NewOf s (.choice l ps) := by
  intro w Y g hL hY
  obtain ⟨hng, pv, jv, pat, wr0, vw, df, a0, gs, hb, hpo, hpn, hLL⟩ := lr_node hL
  obtain ⟨ao, cp, rfl⟩ := own_slice hpo
  obtain ⟨hlen, hat⟩ := lrl_at hLL
  have hfew : gs.length ≤ 1000 := by have := hN.v.len; omega
  have c1 : w.cell? ⟨g, 1, none⟩ = some (.slice ao gs.length cp) := by rw [cellOf hb 1]; rfl
  have HE := hide (eachL_said hY hpo hlen (fun i p t h1 h2 => hat i t p h1 h2) ih hfew)
  have HB := hide hb
  have HL := hide (And.intro hL (And.intro hN (And.intro hY hng)))
  have HLEN := hide hlen
  clear hL hN hY hng hb hpo hpn hLL hat hlen ih hfew
  go_enter Tryz.func47, Tryz.ntmps47
  go_wp2_with fail
  refine (unhide HE).mono ?_
  rintro e w1 ⟨sl, bs, rfl, hCs, hk1⟩
  obtain ⟨ao1, cp1, rfl⟩ := own_slice hCs.own
  have c0 : w1.cell? ⟨g, 0, none⟩ = some (.int .i64 6) := by rw [cellOf ((hk1.heap (heap_lt (unhide HB))).trans (unhide HB)) 0]; rfl
  have HC := hide hCs
  clear hCs HE c1
  have HT0 := hide (fun (W : World) (hk : K0 w W) => rows_at (v := false) (unhide HL).1 (unhide HL).2.1 (unhide HL).2.2.1 hk)
  have HT1 := hide (fun (W : World) (hk : K0 w W) => rows_at (v := true) (unhide HL).1 (unhide HL).2.1 (unhide HL).2.2.1 hk)
  rw [show sdV false = 0 from rfl, show misV false = 1 from rfl] at HT0
  rw [show sdV true = 1 from rfl, show misV true = 2 from rfl] at HT1
  go_wp2_with fail
  refine (unhide HT0 _ hk1).mono ?_
  rintro e w2 ⟨⟨sl1, p1, rfl, hM1⟩, hk2⟩
  obtain ⟨ao2, cp2, rfl⟩ := own_slice hM1.own
  have hk12 := hk1.trans hk2
  have HM1 := hide hM1
  clear hM1
  go_wp2_with fail
  refine (unhide HT1 _ hk12).mono ?_
  rintro e w3 ⟨⟨sl2, p2, rfl, hM2⟩, hk3⟩
  obtain ⟨ao3, cp3, rfl⟩ := own_slice hM2.own
  have hk13 := hk12.trans hk3
  have HM2 := hide hM2
  clear hM2
  have HF : Hid (Calls Tryz.prog 76 #[.slice ao1 bs.length cp1, .agg #[.int .i64 1, .slice ao2 p1.length cp2], .agg #[.int .i64 2, .slice ao3 p2.length cp3]] w3 fun e w' => ClPost Y w3 (rowB 124 l ps) e w') := hide (by
    have hN := (unhide HL).2.1
    have hnk : ps.length + 1 = l.length := hN.ok.self
    exact choice_said (fun k h => by have := (unhide HL).2.2.1 k h; have := hk13.size; omega) ((unhide HC).ky ((hk2.trans hk3).ky Y)) ((unhide HM1).ky (hk3.ky Y)) (unhide HM2) (by omega) (fun t ht => hN.ok.part ht))
  go_wp2_with fail
  refine (unhide HF).mono ?_
  rintro e w4 ⟨b, rfl, hCL, hk4⟩
  have H4 := hide hCL
  clear hCL
  go_wp2
  go_ret
  rw [toB]
  exact ⟨b, rfl, unhide H4, hk13.trans hk4⟩

end Go.Proofs.YtlljggefbngkeaaGreatDoor

namespace Go.Proofs.YtlljggefbngkeaaGreatDoor
open Go.RowKit Go.Shelf

theorem rep_at {s : ByteArray} {v : Bool} {p : Nat} {a : LT} {w W : World} {Y : Nat → Prop} {g : Nat} (hL : LR s w Y (.many p a) g) (hN : NB (.many p a)) (hY : ∀ k, Y k → k < w.heap.size) (hk : K0 w W) :
    Calls Tryz.prog 74 #[.int .i64 (sdV v), .pointer (some ⟨g, 0, none⟩)] W fun e w' => (∃ ba bb, e = .returned (.agg #[.int .i64 (misV v), .pointer (some ⟨ba, 0, none⟩), .pointer (some ⟨bb, 0, none⟩)]) ∧ MachO w' Y (sideT v a) ba ∧ MachO w' Y (.rep 42 (sideT v a)) bb) ∧ K0 W w' := by
  have hz := hk.size
  have h1 := sideT_size v a
  have h2 := hN.sz
  rw [lsz] at h2
  refine (repeating_said (LR.kept (fun k hk' _ => hk.heap hk') hL) hN.v (fun k h => by have := hY k h; omega) (sideT_ok v a (hN.ok.part (by simp [parts]))) (by omega) (by rw [stSize]; omega)).mono ?_
  rintro e w' ⟨ba, bb, e1, e2, e3, e4⟩
  exact ⟨⟨ba, bb, e1, e2.reY (fun k _ hy => by have := hY k hy; omega), e3.reY (fun k _ hy => by have := hY k hy; omega)⟩, e4⟩

set_option maxRecDepth 100000 in
set_option maxHeartbeats 3200000 in
theorem new_many {s : ByteArray} {p : Nat} {a : LT} (hN : NB (.many p a)) (ih : ∀ u, u ∈ parts (.many p a) → NewOf s u) : NewOf s (.many p a) := by
  intro w Y g hL hY
  obtain ⟨hng, pv, jv, pat, wr0, vw, df, a0, gs, hb, hpo, hpn, hLL⟩ := lr_node hL
  obtain ⟨ao, cp, rfl⟩ := own_slice hpo
  obtain ⟨hlen, hat⟩ := lrl_at hLL
  have hfew : gs.length ≤ 1000 := by have := hN.v.len; omega
  have c1 : w.cell? ⟨g, 1, none⟩ = some (.slice ao gs.length cp) := by rw [cellOf hb 1]; rfl
  have HE := hide (eachL_said hY hpo hlen (fun i p t h1 h2 => hat i t p h1 h2) ih hfew)
  have HB := hide hb
  have HL := hide (And.intro hL (And.intro hN (And.intro hY hng)))
  have HLEN := hide hlen
  clear hL hN hY hng hb hpo hpn hLL hat hlen ih hfew
  go_enter Tryz.func47, Tryz.ntmps47
  go_wp2_with fail
  refine (unhide HE).mono ?_
  rintro e w1 ⟨sl, bs, rfl, hCs, hk1⟩
  obtain ⟨ao1, cp1, rfl⟩ := own_slice hCs.own
  have c0 : w1.cell? ⟨g, 0, none⟩ = some (.int .i64 4) := by rw [cellOf ((hk1.heap (heap_lt (unhide HB))).trans (unhide HB)) 0]; rfl
  have HC := hide hCs
  clear hCs HE c1
  have hl1 : bs.length = 1 := by have := (unhide HC).len; rw [this, List.length_map]; rfl
  obtain ⟨vb, cap, hveq, _, hvl⟩ := (unhide HC).own.form (by omega)
  injection hveq with hao hn hcp
  subst hao hcp
  obtain ⟨g0, hg0⟩ : ∃ g0, bs[0]? = some g0 := ⟨_, List.getElem?_eq_getElem (by omega)⟩
  have d0 : w1.cell? ⟨vb, 0, none⟩ = some (.pointer (some ⟨g0, 0, none⟩)) := by
    rw [(unhide HC).own.cellAt 0 (by omega)]
    simp [ptrs, hg0]
  have hCL := (unhide HC).at_ 0 g0 (toB a) hg0 rfl
  have HT0 : Hid (∀ V : World, (K0 w1 V ∧ V.cell? ⟨vb, 0, none⟩ = some (.pointer (some ⟨g0, 0, none⟩))) → Calls Tryz.prog 74 #[.int .i64 0, .pointer (some ⟨g, 0, none⟩)] V fun e V' => (∃ ba bb, e = .returned (.agg #[.int .i64 1, .pointer (some ⟨ba, 0, none⟩), .pointer (some ⟨bb, 0, none⟩)]) ∧ MachO V' Y (sideT false a) ba ∧ MachO V' Y (.rep 42 (sideT false a)) bb) ∧ K0 V V' ∧ (K0 w1 V' ∧ V'.cell? ⟨vb, 0, none⟩ = some (.pointer (some ⟨g0, 0, none⟩)))) := hide (fun V h => (rep_at (v := false) (unhide HL).1 (unhide HL).2.1 (unhide HL).2.2.1 (hk1.trans h.1)).mono (fun e V' h2 => ⟨h2.1, h2.2, h.1.trans h2.2, h2.2.cellz h.2⟩))
  have HT1 : Hid (∀ V : World, (K0 w1 V ∧ V.cell? ⟨vb, 0, none⟩ = some (.pointer (some ⟨g0, 0, none⟩))) → Calls Tryz.prog 74 #[.int .i64 1, .pointer (some ⟨g, 0, none⟩)] V fun e V' => (∃ ba bb, e = .returned (.agg #[.int .i64 2, .pointer (some ⟨ba, 0, none⟩), .pointer (some ⟨bb, 0, none⟩)]) ∧ MachO V' Y (sideT true a) ba ∧ MachO V' Y (.rep 42 (sideT true a)) bb) ∧ K0 V V' ∧ (K0 w1 V' ∧ V'.cell? ⟨vb, 0, none⟩ = some (.pointer (some ⟨g0, 0, none⟩)))) := hide (fun V h => (rep_at (v := true) (unhide HL).1 (unhide HL).2.1 (unhide HL).2.2.1 (hk1.trans h.1)).mono (fun e V' h2 => ⟨h2.1, h2.2, h.1.trans h2.2, h2.2.cellz h.2⟩))
  have HF : Hid (∀ (V : World) (ba bb ca cb : Nat), (K0 w1 V ∧ V.cell? ⟨vb, 0, none⟩ = some (.pointer (some ⟨g0, 0, none⟩))) → MachO V Y (sideT false a) ba → MachO V Y (.rep 42 (sideT false a)) bb → MachO V Y (sideT true a) ca → MachO V Y (.rep 42 (sideT true a)) cb → Calls Tryz.prog 73 #[.pointer (some ⟨g0, 0, none⟩), .agg #[.int .i64 1, .pointer (some ⟨ba, 0, none⟩), .pointer (some ⟨bb, 0, none⟩)], .agg #[.int .i64 2, .pointer (some ⟨ca, 0, none⟩), .pointer (some ⟨cb, 0, none⟩)]] V fun e V' => (∃ b, e = .returned (.pointer (some ⟨b, 0, none⟩)) ∧ CL Y V' b (.star p (toB a))) ∧ (K0 w1 V' ∧ V'.cell? ⟨vb, 0, none⟩ = some (.pointer (some ⟨g0, 0, none⟩)))) := hide (fun V ba bb ca cb h m1 m2 m3 m4 => by
    have hN := (unhide HL).2.1
    have hne := hN.ne
    have hbz := hN.bz
    rw [toB] at hne hbz
    have hna := hN.ok.part (u := a) (by simp [parts])
    refine (many_said p (fun k hk => by have := (unhide HL).2.2.1 k hk; have := (hk1.trans h.1).size; omega) (hCL.ky (h.1.ky Y)) m1 m2 m3 m4 (fun u => (side_eq false a hna u).symm) (fun u => (side_eq true a hna u).symm) hne hbz).mono ?_
    rintro e V' ⟨b, e1, e2, e3⟩
    exact ⟨⟨b, e1, e2⟩, h.1.trans e3, e3.cellz h.2⟩)
  have hkd : K0 w1 w1.drew := Kp.drew _ _
  clear hCL hg0
  rw [hl1]
  go_wp2_with fail
  go_region_held3 (fun V => (K0 w1 V ∧ V.cell? ⟨vb, 0, none⟩ = some (.pointer (some ⟨g0, 0, none⟩)))) (go_keep) (first
    | (go_at_call 73; refine (unhide HF _ _ _ _ _ (by assumption) ((unhide HM2).1.ky (hk3.ky Y)) ((unhide HM2).2.ky (hk3.ky Y)) (unhide HM3).1 (unhide HM3).2).mono ?_; rintro e w4 ⟨⟨b, rfl, hCL4⟩, hS4⟩; have HCL := hide hCL4; clear hCL4)
    | (go_at_call 74; have hgd := unhide HM2; clear hgd; refine (unhide HT1 _ (by assumption)).mono ?_; rintro e w3 ⟨⟨ca, cb, rfl, hM3⟩, hk3, hS3⟩; have HM3 := hide hM3; clear hM3)
    | (go_at_call 74; refine (unhide HT0 _ (by assumption)).mono ?_; rintro e w2 ⟨⟨ba, bb, rfl, hM2⟩, hk2, hS2⟩; have HM2 := hide hM2; clear hM2))
  go_wp2
  go_ret
  rw [toB]
  exact ⟨b, rfl, unhide HCL, hk1.trans hS4.1⟩

end Go.Proofs.YtlljggefbngkeaaGreatDoor

namespace Go.Proofs.YtlljggefbngkeaaGreatDoor
open Go.RowKit Go.Shelf


/-- the one parting of a swap -/
theorem swap_parts {s : ByteArray} {v : Bool} {p : Nat} {a b : LT} {w W : World} {Y : Nat → Prop} {g : Nat} (hL : LR s w Y (.swap p a b) g) (hN : NB (.swap p a b)) (hY : ∀ k, Y k → k < w.heap.size) (hk : K0 w W) :
    Calls Tryz.prog 72 #[.int .i64 (sdV v), .pointer (some ⟨g, 0, none⟩)] W fun e V' => (∃ sb cas ba bb, e = .returned (.slice (some ⟨sb, 0, none⟩) 1 cas) ∧ V'.cell? ⟨sb, 0, none⟩ = some (.int .i64 (misV v)) ∧ V'.cell? ⟨sb, 1, none⟩ = some (.pointer (some ⟨ba, 0, none⟩)) ∧ V'.cell? ⟨sb, 2, none⟩ = some (.pointer (some ⟨bb, 0, none⟩)) ∧ MachO V' Y (sideT v (if v then b else a)) ba ∧ MachO V' Y (sideT v (if v then a else b)) bb) ∧ K0 W V' := by
  refine (partings_at (v := v) hL hN hY (by simp [parts]) hk).mono ?_
  rintro e V' ⟨⟨sl, ps, rfl, hP⟩, hk'⟩
  refine ⟨?_, hk'⟩
  have hl : ps.length = 1 := by rw [hP.len, partAB_len]; rfl
  obtain ⟨sb, cas, rfl, _, _⟩ := hP.own.form (by omega)
  obtain ⟨⟨ba, bb⟩, rfl⟩ := List.length_eq_one_iff.1 hl
  have hc := hP.cells (i := 0) (p := (ba, bb)) rfl
  have hm := hP.at_ 0 (ba, bb) _ rfl (partAB_at _ _ 0 (by simp [parts]))
  refine ⟨sb, cas, ba, bb, rfl, by simpa using hc.1, by simpa using hc.2.1, by simpa using hc.2.2, ?_, ?_⟩
  · have := hm.1
    cases v <;> simpa [sideP, pSeq] using this
  · have := hm.2
    cases v <;> simpa [sideP] using this

set_option maxRecDepth 100000 in
set_option maxHeartbeats 3200000 in
theorem new_swap {s : ByteArray} {p : Nat} {a b : LT} (hN : NB (.swap p a b)) (ih : ∀ u, u ∈ parts (.swap p a b) → NewOf s u) : NewOf s (.swap p a b) := by
  intro w Y g hL hY
  obtain ⟨hng, pv, jv, pat, wr0, vw, df, a0, gs, hb, hpo, hpn, hLL⟩ := lr_node hL
  obtain ⟨ao, cp, rfl⟩ := own_slice hpo
  obtain ⟨hlen, hat⟩ := lrl_at hLL
  have hfew : gs.length ≤ 1000 := by have := hN.v.len; omega
  have c1 : w.cell? ⟨g, 1, none⟩ = some (.slice ao gs.length cp) := by rw [cellOf hb 1]; rfl
  have HE := hide (eachL_said hY hpo hlen (fun i p t h1 h2 => hat i t p h1 h2) ih hfew)
  have HB := hide hb
  have HL := hide (And.intro hL (And.intro hN (And.intro hY hng)))
  have HLEN := hide hlen
  clear hL hN hY hng hb hpo hpn hLL hat hlen ih hfew
  go_enter Tryz.func47, Tryz.ntmps47
  go_wp2_with fail
  refine (unhide HE).mono ?_
  rintro e w1 ⟨sl, bs, rfl, hCs, hk1⟩
  obtain ⟨ao1, cp1, rfl⟩ := own_slice hCs.own
  have c0 : w1.cell? ⟨g, 0, none⟩ = some (.int .i64 2) := by rw [cellOf ((hk1.heap (heap_lt (unhide HB))).trans (unhide HB)) 0]; rfl
  have HC := hide hCs
  clear hCs HE c1
  have hl1 : bs.length = 2 := by have := (unhide HC).len; rw [this, List.length_map]; rfl
  obtain ⟨vb, cap, hveq, _, hvl⟩ := (unhide HC).own.form (by omega)
  injection hveq with hao hn hcp
  subst hao hcp
  obtain ⟨g0, hg0⟩ : ∃ g0, bs[0]? = some g0 := ⟨_, List.getElem?_eq_getElem (by omega)⟩
  obtain ⟨g1, hg1⟩ : ∃ g1, bs[1]? = some g1 := ⟨_, List.getElem?_eq_getElem (by omega)⟩
  have d0 : w1.cell? ⟨vb, 0, none⟩ = some (.pointer (some ⟨g0, 0, none⟩)) := by
    rw [(unhide HC).own.cellAt 0 (by omega)]
    simp [ptrs, hg0]
  have d1 : w1.cell? ⟨vb, 1, none⟩ = some (.pointer (some ⟨g1, 0, none⟩)) := by
    rw [(unhide HC).own.cellAt 1 (by omega)]
    simp [ptrs, hg1]
  have hCa := (unhide HC).at_ 0 g0 (toB a) hg0 rfl
  have hCb := (unhide HC).at_ 1 g1 (toB b) hg1 rfl
  have HT0 : Hid (∀ V : World, (K0 w1 V ∧ V.cell? ⟨vb, 0, none⟩ = some (.pointer (some ⟨g0, 0, none⟩)) ∧ V.cell? ⟨vb, 1, none⟩ = some (.pointer (some ⟨g1, 0, none⟩))) → Calls Tryz.prog 72 #[.int .i64 0, .pointer (some ⟨g, 0, none⟩)] V fun e V' => (∃ sb cas ba bb, e = .returned (.slice (some ⟨sb, 0, none⟩) 1 cas) ∧ V'.cell? ⟨sb, 0, none⟩ = some (.int .i64 1) ∧ V'.cell? ⟨sb, 1, none⟩ = some (.pointer (some ⟨ba, 0, none⟩)) ∧ V'.cell? ⟨sb, 2, none⟩ = some (.pointer (some ⟨bb, 0, none⟩)) ∧ MachO V' Y (sideT false a) ba ∧ MachO V' Y (sideT false b) bb) ∧ K0 V V' ∧ (K0 w1 V' ∧ V'.cell? ⟨vb, 0, none⟩ = some (.pointer (some ⟨g0, 0, none⟩)) ∧ V'.cell? ⟨vb, 1, none⟩ = some (.pointer (some ⟨g1, 0, none⟩)))) := hide (fun V h => (swap_parts (v := false) (unhide HL).1 (unhide HL).2.1 (unhide HL).2.2.1 (hk1.trans h.1)).mono (fun e V' h2 => ⟨h2.1, h2.2, h.1.trans h2.2, h2.2.cellz h.2.1, h2.2.cellz h.2.2⟩))
  have HT1 : Hid (∀ V : World, (K0 w1 V ∧ V.cell? ⟨vb, 0, none⟩ = some (.pointer (some ⟨g0, 0, none⟩)) ∧ V.cell? ⟨vb, 1, none⟩ = some (.pointer (some ⟨g1, 0, none⟩))) → Calls Tryz.prog 72 #[.int .i64 1, .pointer (some ⟨g, 0, none⟩)] V fun e V' => (∃ sb cas ba bb, e = .returned (.slice (some ⟨sb, 0, none⟩) 1 cas) ∧ V'.cell? ⟨sb, 0, none⟩ = some (.int .i64 2) ∧ V'.cell? ⟨sb, 1, none⟩ = some (.pointer (some ⟨ba, 0, none⟩)) ∧ V'.cell? ⟨sb, 2, none⟩ = some (.pointer (some ⟨bb, 0, none⟩)) ∧ MachO V' Y (sideT true b) ba ∧ MachO V' Y (sideT true a) bb) ∧ K0 V V' ∧ (K0 w1 V' ∧ V'.cell? ⟨vb, 0, none⟩ = some (.pointer (some ⟨g0, 0, none⟩)) ∧ V'.cell? ⟨vb, 1, none⟩ = some (.pointer (some ⟨g1, 0, none⟩)))) := hide (fun V h => (swap_parts (v := true) (unhide HL).1 (unhide HL).2.1 (unhide HL).2.2.1 (hk1.trans h.1)).mono (fun e V' h2 => ⟨h2.1, h2.2, h.1.trans h2.2, h2.2.cellz h.2.1, h2.2.cellz h.2.2⟩))
  have HF : Hid (∀ (V : World) (ba bb ca cb : Nat), (K0 w1 V ∧ V.cell? ⟨vb, 0, none⟩ = some (.pointer (some ⟨g0, 0, none⟩)) ∧ V.cell? ⟨vb, 1, none⟩ = some (.pointer (some ⟨g1, 0, none⟩))) → MachO V Y (sideT false a) ba → MachO V Y (sideT false b) bb → MachO V Y (sideT true b) ca → MachO V Y (sideT true a) cb → Calls Tryz.prog 71 #[.pointer (some ⟨g0, 0, none⟩), .pointer (some ⟨g1, 0, none⟩), .agg #[.int .i64 1, .pointer (some ⟨ba, 0, none⟩), .pointer (some ⟨bb, 0, none⟩)], .agg #[.int .i64 2, .pointer (some ⟨ca, 0, none⟩), .pointer (some ⟨cb, 0, none⟩)]] V fun e V' => (∃ b9, e = .returned (.pointer (some ⟨b9, 0, none⟩)) ∧ CL Y V' b9 (.two 126 p (toB a) (toB b))) ∧ (K0 w1 V' ∧ V'.cell? ⟨vb, 0, none⟩ = some (.pointer (some ⟨g0, 0, none⟩)) ∧ V'.cell? ⟨vb, 1, none⟩ = some (.pointer (some ⟨g1, 0, none⟩)))) := hide (fun V ba bb ca cb h m1 m2 m3 m4 => by
    have hN := (unhide HL).2.1
    have hne := hN.ne
    have hbz := hN.bz
    rw [toB] at hne hbz
    rw [bsz] at hbz
    have hna := hN.ok.part (u := a) (by simp [parts])
    have hnb := hN.ok.part (u := b) (by simp [parts])
    refine (swap_said p (fun k hk => by have := (unhide HL).2.2.1 k hk; have := (hk1.trans h.1).size; omega) (hCa.ky (h.1.ky Y)) (hCb.ky (h.1.ky Y)) m1 m2 m3 m4 (fun u => (side_eq false a hna u).symm) (fun u => (side_eq false b hnb u).symm) (fun u => (side_eq true b hnb u).symm) (fun u => (side_eq true a hna u).symm) hne.2.1 hne.2.2 (by omega) (by omega)).mono ?_
    rintro e V' ⟨b9, e1, e2, e3⟩
    exact ⟨⟨b9, e1, e2⟩, h.1.trans e3, e3.cellz h.2.1, e3.cellz h.2.2⟩)
  have hkd : K0 w1 w1.drew := Kp.drew _ _
  clear hCa hCb hg0 hg1
  rw [hl1]
  go_wp2_with fail
  refine wp_region_noPanic ?_
  refine wp_region_held_drew (S := fun V => (K0 w1 V ∧ V.cell? ⟨vb, 0, none⟩ = some (.pointer (some ⟨g0, 0, none⟩)) ∧ V.cell? ⟨vb, 1, none⟩ = some (.pointer (some ⟨g1, 0, none⟩)))) (by kernel_rfl) ⟨hkd, by simp [*], by simp [*]⟩ (fun hHeld => ?_)
  refine wpAnyH_take (i := 0) (v := .slice (some ⟨vb, 0, none⟩) 2 cp1) rfl (by kernel_rfl) (by kernel_rfl) (by kernel_rfl) (fun _ _ _ h => h) (Or.inl ⟨by rfl, ?_⟩) hHeld ?_
  · intro w hSw
    go_simp
  refine wpAnyH_take (i := 1) (v := .pointer (some ⟨vb, 0, none⟩)) rfl (by kernel_rfl) (by kernel_rfl) (by kernel_rfl) (fun _ _ _ h => h) (Or.inl ⟨by rfl, ?_⟩) hHeld ?_
  · intro w hSw
    go_simp
  refine wpAnyH_take (i := 2) (v := .pointer (some ⟨g0, 0, none⟩)) rfl (by kernel_rfl) (by kernel_rfl) (by kernel_rfl) (fun _ _ _ h => h) (Or.inl ⟨by rfl, ?_⟩) hHeld ?_
  · intro w hSw
    go_simp
  refine wpAnyH_take (i := 3) (v := .slice (some ⟨vb, 0, none⟩) 2 cp1) rfl (by kernel_rfl) (by kernel_rfl) (by kernel_rfl) (fun _ _ _ h => h) (Or.inl ⟨by rfl, ?_⟩) hHeld ?_
  · intro w hSw
    go_simp
  refine wpAnyH_take (i := 4) (v := .pointer (some ⟨vb, 1, none⟩)) rfl (by kernel_rfl) (by kernel_rfl) (by kernel_rfl) (fun _ _ _ h => h) (Or.inl ⟨by rfl, ?_⟩) hHeld ?_
  · intro w hSw
    go_simp
  refine wpAnyH_take (i := 5) (v := .pointer (some ⟨g1, 0, none⟩)) rfl (by kernel_rfl) (by kernel_rfl) (by kernel_rfl) (fun _ _ _ h => h) (Or.inl ⟨by rfl, ?_⟩) hHeld ?_
  · intro w hSw
    go_simp
  refine wpAnyH_take (i := 6) (v := .pointer (some ⟨g, 0, none⟩)) rfl (by kernel_rfl) (by kernel_rfl) (by kernel_rfl) (fun _ _ _ h => h) (Or.inl ⟨by rfl, ?_⟩) hHeld ?_
  · intro w hSw
    go_simp
  refine wpAnyH_take (i := 10) (v := .pointer (some ⟨g, 0, none⟩)) rfl (by kernel_rfl) (by kernel_rfl) (by kernel_rfl) (fun _ _ _ h => h) (Or.inl ⟨by rfl, ?_⟩) hHeld ?_
  · intro w hSw
    go_simp
  refine wpAnyH_ready (rs := [7]) (by kernel_rfl) (by simp) ?_
  refine AllReadyH.cons rfl (fun K' hK => ?_) AllReadyH.nil
  go_simp
  refine (unhide HT0 _ hHeld).mono ?_
  rintro e w2 ⟨⟨sb, cas, ba, bb, rfl, q0, q1, q2, hMa, hMb⟩, hk2, hS2⟩
  have HM2 := hide (And.intro hMa hMb)
  clear hMa hMb
  refine hK.out _ _ hS2 (fun _ => ?_)
  clear hK K'
  refine wpAnyH_take (i := 8) (v := .pointer (some ⟨sb, 0, none⟩)) rfl (by kernel_rfl) (by kernel_rfl) (by kernel_rfl) (fun _ _ _ h => h) (Or.inl ⟨by rfl, ?_⟩) hS2 ?_
  · intro w hSw
    go_simp
  refine wpAnyH_ready (rs := [9, 11]) (by kernel_rfl) (by simp) ?_
  refine AllReadyH.cons rfl (fun K' hK => ?_) (AllReadyH.cons rfl (fun K' hK => ?_) AllReadyH.nil)
  · go_simp
    refine hK.out _ _ hS2 (fun _ => ?_)
    clear hK K'
    refine wpAnyH_ready (rs := [11]) (by kernel_rfl) (by simp) ?_
    refine AllReadyH.cons rfl (fun K' hK => ?_) AllReadyH.nil
    go_simp
    refine (unhide HT1 _ hS2).mono ?_
    rintro e w3 ⟨⟨ub, cau, ca, cb, rfl, v0, v1, v2, hMc, hMd⟩, hk3, hS3⟩
    have HM3 := hide (And.intro hMc hMd)
    have r0 := hk3.cellz q0
    have r1 := hk3.cellz q1
    have r2 := hk3.cellz q2
    clear hMc hMd
    refine hK.out _ _ hS3 (fun _ => ?_)
    clear hK K'
    refine wpAnyH_take (i := 12) (v := .pointer (some ⟨ub, 0, none⟩)) rfl (by kernel_rfl) (by kernel_rfl) (by kernel_rfl) (fun _ _ _ h => h) (Or.inl ⟨by rfl, ?_⟩) hS3 ?_
    · intro w hSw
      go_simp
    refine wpAnyH_ready (rs := [13]) (by kernel_rfl) (by simp) ?_
    refine AllReadyH.cons rfl (fun K' hK => ?_) AllReadyH.nil
    go_simp
    refine hK.out _ _ hS3 (fun _ => ?_)
    clear hK K'
    refine wpAnyH_ready (rs := [14]) (by kernel_rfl) (by simp) ?_
    refine AllReadyH.cons rfl (fun K' hK => ?_) AllReadyH.nil
    go_simp
    refine (unhide HF _ _ _ _ _ hS3 ((unhide HM2).1.ky (hk3.ky Y)) ((unhide HM2).2.ky (hk3.ky Y)) (unhide HM3).1 (unhide HM3).2).mono ?_
    rintro e w4 ⟨⟨b9, rfl, hCL4⟩, hS4⟩
    have HCL := hide hCL4
    clear hCL4
    refine hK.out _ _ hS4 (fun _ => ?_)
    clear hK K'
    refine wpAnyH_take (i := 15) (v := .pointer (some ⟨b9, 0, none⟩)) rfl (by kernel_rfl) (by kernel_rfl) (by kernel_rfl) (fun _ _ _ h => h) (Or.inl ⟨by rfl, ?_⟩) hS4 ?_
    · intro w hSw
      go_simp
    refine wpAnyH_done (by kernel_rfl) ?_ _
    refine NoPanic.normal ?_
    go_wp2
    go_ret
    rw [toB]
    exact ⟨b9, rfl, unhide HCL, hk1.trans hS4.1⟩
  · go_simp
    refine (unhide HT1 _ hS2).mono ?_
    rintro e w3 ⟨⟨ub, cau, ca, cb, rfl, v0, v1, v2, hMc, hMd⟩, hk3, hS3⟩
    have HM3 := hide (And.intro hMc hMd)
    have r0 := hk3.cellz q0
    have r1 := hk3.cellz q1
    have r2 := hk3.cellz q2
    clear hMc hMd
    refine hK.out _ _ hS3 (fun _ => ?_)
    clear hK K'
    refine wpAnyH_take (i := 12) (v := .pointer (some ⟨ub, 0, none⟩)) rfl (by kernel_rfl) (by kernel_rfl) (by kernel_rfl) (fun _ _ _ h => h) (Or.inl ⟨by rfl, ?_⟩) hS3 ?_
    · intro w hSw
      go_simp
    refine wpAnyH_ready (rs := [9, 13]) (by kernel_rfl) (by simp) ?_
    refine AllReadyH.cons rfl (fun K' hK => ?_) (AllReadyH.cons rfl (fun K' hK => ?_) AllReadyH.nil)
    · go_simp
      refine hK.out _ _ hS3 (fun _ => ?_)
      clear hK K'
      refine wpAnyH_ready (rs := [13]) (by kernel_rfl) (by simp) ?_
      refine AllReadyH.cons rfl (fun K' hK => ?_) AllReadyH.nil
      go_simp
      refine hK.out _ _ hS3 (fun _ => ?_)
      clear hK K'
      refine wpAnyH_ready (rs := [14]) (by kernel_rfl) (by simp) ?_
      refine AllReadyH.cons rfl (fun K' hK => ?_) AllReadyH.nil
      go_simp
      refine (unhide HF _ _ _ _ _ hS3 ((unhide HM2).1.ky (hk3.ky Y)) ((unhide HM2).2.ky (hk3.ky Y)) (unhide HM3).1 (unhide HM3).2).mono ?_
      rintro e w4 ⟨⟨b9, rfl, hCL4⟩, hS4⟩
      have HCL := hide hCL4
      clear hCL4
      refine hK.out _ _ hS4 (fun _ => ?_)
      clear hK K'
      refine wpAnyH_take (i := 15) (v := .pointer (some ⟨b9, 0, none⟩)) rfl (by kernel_rfl) (by kernel_rfl) (by kernel_rfl) (fun _ _ _ h => h) (Or.inl ⟨by rfl, ?_⟩) hS4 ?_
      · intro w hSw
        go_simp
      refine wpAnyH_done (by kernel_rfl) ?_ _
      refine NoPanic.normal ?_
      go_wp2
      go_ret
      rw [toB]
      exact ⟨b9, rfl, unhide HCL, hk1.trans hS4.1⟩
    · go_simp
      refine hK.out _ _ hS3 (fun _ => ?_)
      clear hK K'
      refine wpAnyH_ready (rs := [9]) (by kernel_rfl) (by simp) ?_
      refine AllReadyH.cons rfl (fun K' hK => ?_) AllReadyH.nil
      go_simp
      refine hK.out _ _ hS3 (fun _ => ?_)
      clear hK K'
      refine wpAnyH_ready (rs := [14]) (by kernel_rfl) (by simp) ?_
      refine AllReadyH.cons rfl (fun K' hK => ?_) AllReadyH.nil
      go_simp
      refine (unhide HF _ _ _ _ _ hS3 ((unhide HM2).1.ky (hk3.ky Y)) ((unhide HM2).2.ky (hk3.ky Y)) (unhide HM3).1 (unhide HM3).2).mono ?_
      rintro e w4 ⟨⟨b9, rfl, hCL4⟩, hS4⟩
      have HCL := hide hCL4
      clear hCL4
      refine hK.out _ _ hS4 (fun _ => ?_)
      clear hK K'
      refine wpAnyH_take (i := 15) (v := .pointer (some ⟨b9, 0, none⟩)) rfl (by kernel_rfl) (by kernel_rfl) (by kernel_rfl) (fun _ _ _ h => h) (Or.inl ⟨by rfl, ?_⟩) hS4 ?_
      · intro w hSw
        go_simp
      refine wpAnyH_done (by kernel_rfl) ?_ _
      refine NoPanic.normal ?_
      go_wp2
      go_ret
      rw [toB]
      exact ⟨b9, rfl, unhide HCL, hk1.trans hS4.1⟩

end Go.Proofs.YtlljggefbngkeaaGreatDoor

namespace Go.Proofs.YtlljggefbngkeaaGreatDoor
open Go.RowKit Go.Shelf

theorem nb_part {t u : LT} (h : NB t) (hu : u ∈ parts t) : NB u := by
  have h1 := lsz_parts t
  have h2 := lszL_mem _ _ hu
  have h3 := h.sz
  have key : bNE (toB u) ∧ bsz (toB u) ≤ 800 := by
    have hne := h.ne
    have hbz := h.bz
    have hok := h.ok.self
    cases t with
    | same l i j => simp [parts] at hu
    | fixed l i j v d a => simp [parts] at hu
    | swap p a b =>
      rw [toB] at hne hbz
      rw [bsz] at hbz
      simp [parts] at hu
      rcases hu with rfl | rfl
      · exact ⟨hne.2.1, by omega⟩
      · exact ⟨hne.2.2, by omega⟩
    | group a =>
      rw [toB] at hne hbz
      simp [parts] at hu
      rw [hu]
      exact ⟨hne, hbz⟩
    | many p a =>
      rw [toB] at hne hbz
      rw [bsz] at hbz
      simp [parts] at hu
      rw [hu]
      exact ⟨hne.2.2, by omega⟩
    | row l ps =>
      rw [toB] at hne hbz
      have hl : ps.length + 1 = l.length := hok
      have hc := (mem_bsubs_row 114 (toB u) ps.length l ps hl.symm rfl).2 (.inl ⟨u, hu, bsubs_self _⟩)
      exact ⟨bNE_sub _ hne _ hc, Nat.le_trans (bsz_sub _ _ hc) hbz⟩
    | choice l ps =>
      rw [toB] at hne hbz
      have hl : ps.length + 1 = l.length := hok
      have hc := (mem_bsubs_row 124 (toB u) ps.length l ps hl.symm rfl).2 (.inl ⟨u, hu, bsubs_self _⟩)
      exact ⟨bNE_sub _ hne _ hc, Nat.le_trans (bsz_sub _ _ hc) hbz⟩
  exact ⟨h.ok.part hu, by omega, key.1, key.2⟩

/-- New, of every lens -/
theorem new_all (s : ByteArray) : ∀ (n : Nat) (t : LT), lsz t ≤ n → NB t → NewOf s t
  | 0, t, h, _ => by have := lsz_parts t; omega
  | n + 1, t, h, hN => by
    have ih : ∀ u, u ∈ parts t → NewOf s u := fun u hu => new_all s n u (by have h1 := lsz_parts t; have h2 := lszL_mem _ _ hu; omega) (nb_part hN hu)
    cases t with
    | same l i j => exact new_same hN ih
    | fixed l i j v d a => exact new_fixed hN ih
    | swap p a b => exact new_swap hN ih
    | group a => exact new_group hN ih
    | many p a => exact new_many hN ih
    | row l ps => exact new_row hN ih
    | choice l ps => exact new_choice hN ih

set_option maxRecDepth 100000 in
set_option maxHeartbeats 1600000 in
theorem get1_ok {Y : Nat → Prop} {W : World} {P : List UInt8 → Prop} {G : List UInt8 → List UInt8} {m : Int} {Bl Bs b : Nat} {F1 F2 F3 : Value} {u : List UInt8} (hl : W.heap[Bl]? = some (lcell b)) (hs : W.heap[Bs]? = some (.cells #[.string (txt u)] 9 (0, 0))) (hb : W.heap[b]? = some (fcell F1 F2 F3)) (hf : Fn1 Y W F1 P G m) (hu : u.length ≤ 1000) (hP : P u) :
    Calls Tryz.prog 49 #[.pointer (some ⟨Bl, 0, none⟩), .pointer (some ⟨Bs, 0, none⟩)] W fun e w' => e = .returned (.string (txt (G u))) ∧ K0 W w' := by
  have c0 := cellOf hl 0
  have c1 := cellOf hs 0
  have c2 := cellOf hb 0
  simp at c0 c1 c2
  obtain ⟨N, x, y, rfl, n1, s1⟩ := hf
  have HF : Hid (∀ V : World, (K0 W V ∧ V.cell? ⟨Bl, 0, none⟩ = some (.pointer (some ⟨b, 0, none⟩)) ∧ V.cell? ⟨Bs, 0, none⟩ = some (.string (txt u)) ∧ V.cell? ⟨b, 0, none⟩ = some (.func (.func N) x y)) → Calls Tryz.prog N (x.push (.string (txt u)) ++ y) V fun e V' => e = .returned (.string (txt (G u))) ∧ (K0 W V' ∧ V'.cell? ⟨Bl, 0, none⟩ = some (.pointer (some ⟨b, 0, none⟩)) ∧ V'.cell? ⟨Bs, 0, none⟩ = some (.string (txt u)) ∧ V'.cell? ⟨b, 0, none⟩ = some (.func (.func N) x y))) := hide (fun V h => (s1 V u (h.1.ky Y) hu).mono (fun e V' h2 => by
    obtain ⟨(⟨_, h3⟩ | ⟨h3, _⟩), hk⟩ := h2
    · exact ⟨h3, h.1.trans hk, hk.cellz h.2.1, hk.cellz h.2.2.1, hk.cellz h.2.2.2⟩
    · exact absurd hP h3))
  obtain ⟨r, hr⟩ : ∃ r, G u = r := ⟨_, rfl⟩
  rw [hr] at HF ⊢
  have hkd : K0 W W.drew := Kp.drew _ _
  clear hl hs hb s1 hr hP
  unfold Ent at n1
  go_enter Tryz.func49, Tryz.ntmps49
  go_wp2_with fail
  go_region_held3 (fun V => (K0 W V ∧ V.cell? ⟨Bl, 0, none⟩ = some (.pointer (some ⟨b, 0, none⟩)) ∧ V.cell? ⟨Bs, 0, none⟩ = some (.string (txt u)) ∧ V.cell? ⟨b, 0, none⟩ = some (.func (.func N) x y))) (go_keep) (first | (refine (unhide HF _ (by assumption)).mono ?_; rintro e w3 ⟨rfl, hS3⟩))
  go_wp2
  go_ret
  exact ⟨rfl, hS3.1⟩

set_option maxRecDepth 100000 in
set_option maxHeartbeats 1600000 in
theorem get1_no {Y : Nat → Prop} {W : World} {P : List UInt8 → Prop} {G : List UInt8 → List UInt8} {m : Int} {Bl Bs b : Nat} {F1 F2 F3 : Value} {u : List UInt8} (hl : W.heap[Bl]? = some (lcell b)) (hs : W.heap[Bs]? = some (.cells #[.string (txt u)] 9 (0, 0))) (hb : W.heap[b]? = some (fcell F1 F2 F3)) (hf : Fn1 Y W F1 P G m) (hu : u.length ≤ 1000) (hP : ¬ P u) :
    Calls Tryz.prog 49 #[.pointer (some ⟨Bl, 0, none⟩), .pointer (some ⟨Bs, 0, none⟩)] W fun e w' => e = .panicked (misP m) ∧ K0 W w' := by
  have c0 := cellOf hl 0
  have c1 := cellOf hs 0
  have c2 := cellOf hb 0
  simp at c0 c1 c2
  obtain ⟨N, x, y, rfl, n1, s1⟩ := hf
  have HF : Hid (∀ V : World, (K0 W V ∧ V.cell? ⟨Bl, 0, none⟩ = some (.pointer (some ⟨b, 0, none⟩)) ∧ V.cell? ⟨Bs, 0, none⟩ = some (.string (txt u)) ∧ V.cell? ⟨b, 0, none⟩ = some (.func (.func N) x y)) → Calls Tryz.prog N (x.push (.string (txt u)) ++ y) V fun e V' => e = .panicked (misP m) ∧ K0 W V') := hide (fun V h => (s1 V u (h.1.ky Y) hu).mono (fun e V' h2 => by
    obtain ⟨(⟨h3, _⟩ | ⟨_, h3⟩), hk⟩ := h2
    · exact absurd h3 hP
    · exact ⟨h3, h.1.trans hk⟩))
  have hkd : K0 W W.drew := Kp.drew _ _
  clear hl hs hb s1 hP
  unfold Ent at n1
  go_enter Tryz.func49, Tryz.ntmps49
  go_wp2_with fail
  refine wp_region_held_drew (S := fun V => (K0 W V ∧ V.cell? ⟨Bl, 0, none⟩ = some (.pointer (some ⟨b, 0, none⟩)) ∧ V.cell? ⟨Bs, 0, none⟩ = some (.string (txt u)) ∧ V.cell? ⟨b, 0, none⟩ = some (.func (.func N) x y))) (by kernel_rfl) ⟨hkd, by simp [*], by simp [*], by simp [*]⟩ ?_
  intro hHeld
  refine wpAnyH_take (i := 0) (v := .pointer (some ⟨b, 0, none⟩)) rfl (by kernel_rfl) (by kernel_rfl) (by kernel_rfl) (fun _ _ _ h => h) (Or.inl ⟨by rfl, ?_⟩) hHeld ?_
  · intro w hSw
    go_simp
  refine wpAnyH_take (i := 1) (v := .pointer (some ⟨b, 0, none⟩)) rfl (by kernel_rfl) (by kernel_rfl) (by kernel_rfl) (fun _ _ _ h => h) (Or.inl ⟨by rfl, ?_⟩) hHeld ?_
  · intro w hSw
    go_simp
  refine wpAnyH_take (i := 2) (v := .pointer (some ⟨b, 0, none⟩)) rfl (by kernel_rfl) (by kernel_rfl) (by kernel_rfl) (fun _ _ _ h => h) (Or.inl ⟨by rfl, ?_⟩) hHeld ?_
  · intro w hSw
    go_simp
  refine wpAnyH_take (i := 3) (v := .func (.func N) x y) rfl (by kernel_rfl) (by kernel_rfl) (by kernel_rfl) (fun _ _ _ h => h) (Or.inl ⟨by rfl, ?_⟩) hHeld ?_
  · intro w hSw
    go_simp
  refine wpAnyH_take (i := 4) (v := .string (txt u)) rfl (by kernel_rfl) (by kernel_rfl) (by kernel_rfl) (fun _ _ _ h => h) (Or.inl ⟨by rfl, ?_⟩) hHeld ?_
  · intro w hSw
    go_simp
  refine wpAnyH_ready (rs := [5]) (by kernel_rfl) (by simp) ?_
  refine AllReadyH.cons rfl (fun K' hK => ?_) AllReadyH.nil
  go_simp
  refine (unhide HF _ hHeld).mono ?_
  rintro e w2 ⟨rfl, hS2⟩
  exact ⟨rfl, rfl, hS2⟩

set_option maxRecDepth 100000 in
set_option maxHeartbeats 1600000 in
theorem make1_ok {Y : Nat → Prop} {W : World} {P : List UInt8 → Prop} {G : List UInt8 → List UInt8} {m : Int} {Bl Bs b : Nat} {F1 F2 F3 : Value} {u : List UInt8} (hl : W.heap[Bl]? = some (lcell b)) (hs : W.heap[Bs]? = some (.cells #[.string (txt u)] 9 (0, 0))) (hb : W.heap[b]? = some (fcell F1 F2 F3)) (hf : Fn1 Y W F3 P G m) (hu : u.length ≤ 1000) (hP : P u) :
    Calls Tryz.prog 51 #[.pointer (some ⟨Bl, 0, none⟩), .pointer (some ⟨Bs, 0, none⟩)] W fun e w' => e = .returned (.string (txt (G u))) ∧ K0 W w' := by
  have c0 := cellOf hl 0
  have c1 := cellOf hs 0
  have c2 := cellOf hb 2
  simp at c0 c1 c2
  obtain ⟨N, x, y, rfl, n1, s1⟩ := hf
  have HF : Hid (∀ V : World, (K0 W V ∧ V.cell? ⟨Bl, 0, none⟩ = some (.pointer (some ⟨b, 0, none⟩)) ∧ V.cell? ⟨Bs, 0, none⟩ = some (.string (txt u)) ∧ V.cell? ⟨b, 2, none⟩ = some (.func (.func N) x y)) → Calls Tryz.prog N (x.push (.string (txt u)) ++ y) V fun e V' => e = .returned (.string (txt (G u))) ∧ (K0 W V' ∧ V'.cell? ⟨Bl, 0, none⟩ = some (.pointer (some ⟨b, 0, none⟩)) ∧ V'.cell? ⟨Bs, 0, none⟩ = some (.string (txt u)) ∧ V'.cell? ⟨b, 2, none⟩ = some (.func (.func N) x y))) := hide (fun V h => (s1 V u (h.1.ky Y) hu).mono (fun e V' h2 => by
    obtain ⟨(⟨_, h3⟩ | ⟨h3, _⟩), hk⟩ := h2
    · exact ⟨h3, h.1.trans hk, hk.cellz h.2.1, hk.cellz h.2.2.1, hk.cellz h.2.2.2⟩
    · exact absurd hP h3))
  obtain ⟨r, hr⟩ : ∃ r, G u = r := ⟨_, rfl⟩
  rw [hr] at HF ⊢
  have hkd : K0 W W.drew := Kp.drew _ _
  clear hl hs hb s1 hr hP
  unfold Ent at n1
  go_enter Tryz.func51, Tryz.ntmps51
  go_wp2_with fail
  go_region_held3 (fun V => (K0 W V ∧ V.cell? ⟨Bl, 0, none⟩ = some (.pointer (some ⟨b, 0, none⟩)) ∧ V.cell? ⟨Bs, 0, none⟩ = some (.string (txt u)) ∧ V.cell? ⟨b, 2, none⟩ = some (.func (.func N) x y))) (go_keep) (first | (refine (unhide HF _ (by assumption)).mono ?_; rintro e w3 ⟨rfl, hS3⟩))
  go_wp2
  go_ret
  exact ⟨rfl, hS3.1⟩

set_option maxRecDepth 100000 in
set_option maxHeartbeats 1600000 in
theorem make1_no {Y : Nat → Prop} {W : World} {P : List UInt8 → Prop} {G : List UInt8 → List UInt8} {m : Int} {Bl Bs b : Nat} {F1 F2 F3 : Value} {u : List UInt8} (hl : W.heap[Bl]? = some (lcell b)) (hs : W.heap[Bs]? = some (.cells #[.string (txt u)] 9 (0, 0))) (hb : W.heap[b]? = some (fcell F1 F2 F3)) (hf : Fn1 Y W F3 P G m) (hu : u.length ≤ 1000) (hP : ¬ P u) :
    Calls Tryz.prog 51 #[.pointer (some ⟨Bl, 0, none⟩), .pointer (some ⟨Bs, 0, none⟩)] W fun e w' => e = .panicked (misP m) ∧ K0 W w' := by
  have c0 := cellOf hl 0
  have c1 := cellOf hs 0
  have c2 := cellOf hb 2
  simp at c0 c1 c2
  obtain ⟨N, x, y, rfl, n1, s1⟩ := hf
  have HF : Hid (∀ V : World, (K0 W V ∧ V.cell? ⟨Bl, 0, none⟩ = some (.pointer (some ⟨b, 0, none⟩)) ∧ V.cell? ⟨Bs, 0, none⟩ = some (.string (txt u)) ∧ V.cell? ⟨b, 2, none⟩ = some (.func (.func N) x y)) → Calls Tryz.prog N (x.push (.string (txt u)) ++ y) V fun e V' => e = .panicked (misP m) ∧ K0 W V') := hide (fun V h => (s1 V u (h.1.ky Y) hu).mono (fun e V' h2 => by
    obtain ⟨(⟨h3, _⟩ | ⟨_, h3⟩), hk⟩ := h2
    · exact absurd h3 hP
    · exact ⟨h3, h.1.trans hk⟩))
  have hkd : K0 W W.drew := Kp.drew _ _
  clear hl hs hb s1 hP
  unfold Ent at n1
  go_enter Tryz.func51, Tryz.ntmps51
  go_wp2_with fail
  refine wp_region_held_drew (S := fun V => (K0 W V ∧ V.cell? ⟨Bl, 0, none⟩ = some (.pointer (some ⟨b, 0, none⟩)) ∧ V.cell? ⟨Bs, 0, none⟩ = some (.string (txt u)) ∧ V.cell? ⟨b, 2, none⟩ = some (.func (.func N) x y))) (by kernel_rfl) ⟨hkd, by simp [*], by simp [*], by simp [*]⟩ ?_
  intro hHeld
  refine wpAnyH_take (i := 0) (v := .pointer (some ⟨b, 0, none⟩)) rfl (by kernel_rfl) (by kernel_rfl) (by kernel_rfl) (fun _ _ _ h => h) (Or.inl ⟨by rfl, ?_⟩) hHeld ?_
  · intro w hSw
    go_simp
  refine wpAnyH_take (i := 1) (v := .pointer (some ⟨b, 0, none⟩)) rfl (by kernel_rfl) (by kernel_rfl) (by kernel_rfl) (fun _ _ _ h => h) (Or.inl ⟨by rfl, ?_⟩) hHeld ?_
  · intro w hSw
    go_simp
  refine wpAnyH_take (i := 2) (v := .pointer (some ⟨b, 2, none⟩)) rfl (by kernel_rfl) (by kernel_rfl) (by kernel_rfl) (fun _ _ _ h => h) (Or.inl ⟨by rfl, ?_⟩) hHeld ?_
  · intro w hSw
    go_simp
  refine wpAnyH_take (i := 3) (v := .func (.func N) x y) rfl (by kernel_rfl) (by kernel_rfl) (by kernel_rfl) (fun _ _ _ h => h) (Or.inl ⟨by rfl, ?_⟩) hHeld ?_
  · intro w hSw
    go_simp
  refine wpAnyH_take (i := 4) (v := .string (txt u)) rfl (by kernel_rfl) (by kernel_rfl) (by kernel_rfl) (fun _ _ _ h => h) (Or.inl ⟨by rfl, ?_⟩) hHeld ?_
  · intro w hSw
    go_simp
  refine wpAnyH_ready (rs := [5]) (by kernel_rfl) (by simp) ?_
  refine AllReadyH.cons rfl (fun K' hK => ?_) AllReadyH.nil
  go_simp
  refine (unhide HF _ hHeld).mono ?_
  rintro e w2 ⟨rfl, hS2⟩
  exact ⟨rfl, rfl, hS2⟩

set_option maxRecDepth 100000 in
set_option maxHeartbeats 1600000 in
theorem put1_ok {Y : Nat → Prop} {W : World} {Pv Ps : List UInt8 → Prop} {G : List UInt8 → List UInt8 → List UInt8} {Bl Bv Bs b : Nat} {F1 F2 F3 : Value} {v u : List UInt8} (hl : W.heap[Bl]? = some (lcell b)) (hv : W.heap[Bv]? = some (.cells #[.string (txt v)] 9 (0, 0))) (hs : W.heap[Bs]? = some (.cells #[.string (txt u)] 9 (0, 0))) (hb : W.heap[b]? = some (fcell F1 F2 F3)) (hf : Fn2 Y W F2 Pv Ps G) (hvl : v.length ≤ 1000) (hu : u.length ≤ 1000) (hP : Pv v) (hQ : Ps u) :
    Calls Tryz.prog 50 #[.pointer (some ⟨Bl, 0, none⟩), .pointer (some ⟨Bv, 0, none⟩), .pointer (some ⟨Bs, 0, none⟩)] W fun e w' => e = .returned (.string (txt (G v u))) ∧ K0 W w' := by
  have c0 := cellOf hl 0
  have c1 := cellOf hv 0
  have c2 := cellOf hs 0
  have c3 := cellOf hb 1
  simp at c0 c1 c2 c3
  obtain ⟨N, x, y, rfl, n1, s1⟩ := hf
  have HF : Hid (∀ V : World, (K0 W V ∧ V.cell? ⟨Bl, 0, none⟩ = some (.pointer (some ⟨b, 0, none⟩)) ∧ V.cell? ⟨Bv, 0, none⟩ = some (.string (txt v)) ∧ V.cell? ⟨Bs, 0, none⟩ = some (.string (txt u)) ∧ V.cell? ⟨b, 1, none⟩ = some (.func (.func N) x y)) → Calls Tryz.prog N (x ++ (#[.string (txt v), .string (txt u)] ++ y)) V fun e V' => e = .returned (.string (txt (G v u))) ∧ (K0 W V' ∧ V'.cell? ⟨Bl, 0, none⟩ = some (.pointer (some ⟨b, 0, none⟩)) ∧ V'.cell? ⟨Bv, 0, none⟩ = some (.string (txt v)) ∧ V'.cell? ⟨Bs, 0, none⟩ = some (.string (txt u)) ∧ V'.cell? ⟨b, 1, none⟩ = some (.func (.func N) x y))) := hide (fun V h => (s1 V v u (h.1.ky Y) hvl hu).mono (fun e V' h2 => by
    obtain ⟨(⟨_, _, h3⟩ | ⟨h3, _⟩ | ⟨_, h3, _⟩), hk⟩ := h2
    · exact ⟨h3, h.1.trans hk, hk.cellz h.2.1, hk.cellz h.2.2.1, hk.cellz h.2.2.2.1, hk.cellz h.2.2.2.2⟩
    · exact absurd hP h3
    · exact absurd hQ h3))
  obtain ⟨r, hr⟩ : ∃ r, G v u = r := ⟨_, rfl⟩
  rw [hr] at HF ⊢
  have hkd : K0 W W.drew := Kp.drew _ _
  clear hl hv hs hb s1 hr hP hQ
  unfold Ent at n1
  go_enter Tryz.func50, Tryz.ntmps50
  go_wp2_with fail
  go_region_held3 (fun V => (K0 W V ∧ V.cell? ⟨Bl, 0, none⟩ = some (.pointer (some ⟨b, 0, none⟩)) ∧ V.cell? ⟨Bv, 0, none⟩ = some (.string (txt v)) ∧ V.cell? ⟨Bs, 0, none⟩ = some (.string (txt u)) ∧ V.cell? ⟨b, 1, none⟩ = some (.func (.func N) x y))) (go_keep) (first | (refine (unhide HF _ (by assumption)).mono ?_; rintro e w3 ⟨rfl, hS3⟩))
  go_wp2
  go_ret
  exact ⟨rfl, hS3.1⟩

set_option maxRecDepth 100000 in
set_option maxHeartbeats 1600000 in
theorem put1_no {Y : Nat → Prop} {W : World} {Pv Ps : List UInt8 → Prop} {G : List UInt8 → List UInt8 → List UInt8} {Bl Bv Bs b : Nat} {F1 F2 F3 : Value} {v u : List UInt8} (hl : W.heap[Bl]? = some (lcell b)) (hv : W.heap[Bv]? = some (.cells #[.string (txt v)] 9 (0, 0))) (hs : W.heap[Bs]? = some (.cells #[.string (txt u)] 9 (0, 0))) (hb : W.heap[b]? = some (fcell F1 F2 F3)) (hf : Fn2 Y W F2 Pv Ps G) (hvl : v.length ≤ 1000) (hu : u.length ≤ 1000) {m : Int} (hP : (¬ Pv v ∧ m = 2) ∨ (Pv v ∧ ¬ Ps u ∧ m = 1)) :
    Calls Tryz.prog 50 #[.pointer (some ⟨Bl, 0, none⟩), .pointer (some ⟨Bv, 0, none⟩), .pointer (some ⟨Bs, 0, none⟩)] W fun e w' => e = .panicked (misP m) ∧ K0 W w' := by
  have c0 := cellOf hl 0
  have c1 := cellOf hv 0
  have c2 := cellOf hs 0
  have c3 := cellOf hb 1
  simp at c0 c1 c2 c3
  obtain ⟨N, x, y, rfl, n1, s1⟩ := hf
  have HF : Hid (∀ V : World, (K0 W V ∧ V.cell? ⟨Bl, 0, none⟩ = some (.pointer (some ⟨b, 0, none⟩)) ∧ V.cell? ⟨Bv, 0, none⟩ = some (.string (txt v)) ∧ V.cell? ⟨Bs, 0, none⟩ = some (.string (txt u)) ∧ V.cell? ⟨b, 1, none⟩ = some (.func (.func N) x y)) → Calls Tryz.prog N (x ++ (#[.string (txt v), .string (txt u)] ++ y)) V fun e V' => e = .panicked (misP m) ∧ K0 W V') := hide (fun V h => (s1 V v u (h.1.ky Y) hvl hu).mono (fun e V' h2 => by
    obtain ⟨(⟨q1, q2, h3⟩ | ⟨q1, h3⟩ | ⟨q1, q2, h3⟩), hk⟩ := h2
    · rcases hP with ⟨p1, _⟩ | ⟨_, p1, _⟩
      · exact absurd q1 p1
      · exact absurd q2 p1
    · rcases hP with ⟨_, rfl⟩ | ⟨p1, _⟩
      · exact ⟨h3, h.1.trans hk⟩
      · exact absurd p1 q1
    · rcases hP with ⟨p1, _⟩ | ⟨_, _, rfl⟩
      · exact absurd q1 p1
      · exact ⟨h3, h.1.trans hk⟩))
  have hkd : K0 W W.drew := Kp.drew _ _
  clear hl hv hs hb s1 hP
  unfold Ent at n1
  go_enter Tryz.func50, Tryz.ntmps50
  go_wp2_with fail
  refine wp_region_held_drew (S := fun V => (K0 W V ∧ V.cell? ⟨Bl, 0, none⟩ = some (.pointer (some ⟨b, 0, none⟩)) ∧ V.cell? ⟨Bv, 0, none⟩ = some (.string (txt v)) ∧ V.cell? ⟨Bs, 0, none⟩ = some (.string (txt u)) ∧ V.cell? ⟨b, 1, none⟩ = some (.func (.func N) x y))) (by kernel_rfl) ⟨hkd, by simp [*], by simp [*], by simp [*], by simp [*]⟩ ?_
  intro hHeld
  refine wpAnyH_take (i := 0) (v := .pointer (some ⟨b, 0, none⟩)) rfl (by kernel_rfl) (by kernel_rfl) (by kernel_rfl) (fun _ _ _ h => h) (Or.inl ⟨by rfl, ?_⟩) hHeld ?_
  · intro w hSw
    go_simp
  refine wpAnyH_take (i := 1) (v := .pointer (some ⟨b, 0, none⟩)) rfl (by kernel_rfl) (by kernel_rfl) (by kernel_rfl) (fun _ _ _ h => h) (Or.inl ⟨by rfl, ?_⟩) hHeld ?_
  · intro w hSw
    go_simp
  refine wpAnyH_take (i := 2) (v := .pointer (some ⟨b, 1, none⟩)) rfl (by kernel_rfl) (by kernel_rfl) (by kernel_rfl) (fun _ _ _ h => h) (Or.inl ⟨by rfl, ?_⟩) hHeld ?_
  · intro w hSw
    go_simp
  refine wpAnyH_take (i := 3) (v := .func (.func N) x y) rfl (by kernel_rfl) (by kernel_rfl) (by kernel_rfl) (fun _ _ _ h => h) (Or.inl ⟨by rfl, ?_⟩) hHeld ?_
  · intro w hSw
    go_simp
  refine wpAnyH_take (i := 4) (v := .string (txt v)) rfl (by kernel_rfl) (by kernel_rfl) (by kernel_rfl) (fun _ _ _ h => h) (Or.inl ⟨by rfl, ?_⟩) hHeld ?_
  · intro w hSw
    go_simp
  refine wpAnyH_take (i := 5) (v := .string (txt u)) rfl (by kernel_rfl) (by kernel_rfl) (by kernel_rfl) (fun _ _ _ h => h) (Or.inl ⟨by rfl, ?_⟩) hHeld ?_
  · intro w hSw
    go_simp
  refine wpAnyH_ready (rs := [6]) (by kernel_rfl) (by simp) ?_
  refine AllReadyH.cons rfl (fun K' hK => ?_) AllReadyH.nil
  go_simp
  refine (unhide HF _ hHeld).mono ?_
  rintro e w2 ⟨rfl, hS2⟩
  exact ⟨rfl, rfl, hS2⟩

end Go.Proofs.YtlljggefbngkeaaGreatDoor
