import Derived.Test.YtlljggefbngkeaaGreatDoorV39
import Derived.Test.YtlljggefbngkeaaGreatDoorV38
import Derived.Test.YtlljggefbngkeaaGreatDoorV34
namespace Go.Proofs.YtlljggefbngkeaaGreatDoor
open Go.RowKit Go.Shelf

theorem pcs_at (m : Int) : ∀ (ps : List (Nat × Nat)) (i : Nat) (p : Nat × Nat), ps[i]? = some p → (ps.flatMap (pcs3 m))[i * 3]? = some (.int .i64 m) ∧ (ps.flatMap (pcs3 m))[i * 3 + 1]? = some (.pointer (some ⟨p.1, 0, none⟩)) ∧ (ps.flatMap (pcs3 m))[i * 3 + 2]? = some (.pointer (some ⟨p.2, 0, none⟩))
  | [], i, p, h => by simp at h
  | x :: ps, 0, p, h => by
    rw [List.getElem?_cons_zero] at h
    obtain rfl := Option.some.inj h
    simp [pcs3]
  | x :: ps, i + 1, p, h => by
    rw [List.getElem?_cons_succ] at h
    obtain ⟨h1, h2, h3⟩ := pcs_at m ps i p h
    have hl : (pcs3 m x).length = 3 := rfl
    rw [List.flatMap_cons, List.getElem?_append_right (by rw [hl]; omega), List.getElem?_append_right (by rw [hl]; omega), List.getElem?_append_right (by rw [hl]; omega), hl]
    rw [show (i + 1) * 3 - 3 = i * 3 by omega, show (i + 1) * 3 + 1 - 3 = i * 3 + 1 by omega, show (i + 1) * 3 + 2 - 3 = i * 3 + 2 by omega]
    exact ⟨h1, h2, h3⟩
theorem PgO.cells {Y : Nat → Prop} {w : World} {m : Int} {sb n cap : Nat} {ps : List (Nat × Nat)} {AB : List (PT × PT)} (h : PgO Y w m (.slice (some ⟨sb, 0, none⟩) n cap) ps AB) {i : Nat} {p : Nat × Nat} (hp : ps[i]? = some p) : w.cell? ⟨sb, i * 3, none⟩ = some (.int .i64 m) ∧ w.cell? ⟨sb, i * 3 + 1, none⟩ = some (.pointer (some ⟨p.1, 0, none⟩)) ∧ w.cell? ⟨sb, i * 3 + 2, none⟩ = some (.pointer (some ⟨p.2, 0, none⟩)) := by
  have hi := (List.getElem?_eq_some_iff.1 hp).1
  have hn : n = ps.length := by
    rcases h.own.2 with ⟨h', _⟩ | ⟨g', cap', cur, h', _⟩
    · simp at h'
    · injection h'
  subst hn
  obtain ⟨h1, h2, h3⟩ := pcs_at m ps i p hp
  rw [h.own.cellAt (i * 3) (by omega), h.own.cellAt (i * 3 + 1) (by omega), h.own.cellAt (i * 3 + 2) (by omega)]
  exact ⟨h1, h2, h3⟩

theorem bNE_sub : ∀ (c : BT), bNE c → ∀ c', c' ∈ bsubs c → bNE c'
  | .pat t, h, c', hc => by rw [bsubs, List.mem_singleton] at hc; rw [hc]; exact h
  | .key t v d, h, c', hc => by rw [bsubs, List.mem_singleton] at hc; rw [hc]; exact h
  | .two kd p a b, h, c', hc => by
    rw [bsubs, List.mem_cons, List.mem_append] at hc
    rcases hc with rfl | hc | hc
    · exact h
    · exact bNE_sub a h.2.1 c' hc
    · exact bNE_sub b h.2.2 c' hc
  | .star p a, h, c', hc => by
    rw [bsubs, List.mem_cons] at hc
    rcases hc with rfl | hc
    · exact h
    · exact bNE_sub a h.2.2 c' hc
theorem bsz_sub : ∀ (c : BT), ∀ c', c' ∈ bsubs c → bsz c' ≤ bsz c
  | .pat t, c', hc => by rw [bsubs, List.mem_singleton] at hc; rw [hc]; exact Nat.le_refl _
  | .key t v d, c', hc => by rw [bsubs, List.mem_singleton] at hc; rw [hc]; exact Nat.le_refl _
  | .two kd p a b, c', hc => by
    rw [bsubs, List.mem_cons, List.mem_append] at hc
    rcases hc with rfl | hc | hc
    · exact Nat.le_refl _
    · have := bsz_sub a c' hc; rw [bsz]; omega
    · have := bsz_sub b c' hc; rw [bsz]; omega
  | .star p a, c', hc => by
    rw [bsubs, List.mem_cons] at hc
    rcases hc with rfl | hc
    · exact Nat.le_refl _
    · have := bsz_sub a c' hc; rw [bsz]; omega
/-- a row's own nodes -/
theorem row_node {kd : Int} {l : List LT} {ps : List Nat} {m : Nat} {t : LT} {p : Nat} (hl : ps.length + 1 = l.length) (ht : l[m + 1]? = some t) (hp : ps[m]? = some p) (hne : bNE (rowB kd l ps)) (hsz : bsz (rowB kd l ps) ≤ 800) :
    bNE (rowB kd (l.take (m + 1)) (ps.take m)) ∧ bNE (toB t) ∧ bsz (rowB kd (l.take (m + 1)) (ps.take m)) ≤ 800 ∧ bsz (toB t) ≤ 800 := by
  have hc := (mem_bsubs_row kd (.two kd p (rowB kd (l.take (m + 1)) (ps.take m)) (toB t)) ps.length l ps hl.symm rfl).2 (.inr ⟨m, t, p, ht, hp, rfl⟩)
  have h1 := bNE_sub _ hne _ hc
  have h2 := bsz_sub _ _ hc
  rw [bsz] at h2
  exact ⟨h1.2.1, h1.2.2, by omega, by omega⟩
theorem take_snocz {α : Type} {l : List α} {m : Nat} {x : α} (h : l[m]? = some x) : l.take (m + 1) = l.take m ++ [x] := by rw [List.take_add_one, h]; rfl

theorem rowA_eq (v : Bool) {l : List LT} {ps : List Nat} {m : Nat} (hn : m + 1 ≤ l.length) (h : ∀ t, t ∈ l → NOk t) (u : List UInt8) : M (pSeq ((sideTL v l).take (m + 1))) u ↔ M (bM v (rowB 114 (l.take (m + 1)) (ps.take m))) u := by
  rw [rowB_seq v (by rw [List.length_take]; omega) (side_eqL v _ fun t ht => h t (List.mem_of_mem_take ht)), M_pSeq, sideTL_take]

set_option maxRecDepth 100000 in
set_option maxHeartbeats 3200000 in
theorem row_said {Y : Nat → Prop} {w : World} {l : List LT} {ps : List Nat} {sl sls slv : Value} {gs : List Nat} {pss psv : List (Nat × Nat)} (hY : ∀ k, Y k → k < w.heap.size) (hC : CsO Y w sl gs (l.map toB)) (hS : PgO Y w 1 sls pss (partAB (sideTL false l) (l.length - 1))) (hV : PgO Y w 2 slv psv (partAB (sideTL true l) (l.length - 1))) (hl : ps.length + 1 = l.length) (h2 : 2 ≤ l.length) (hN : ∀ t, t ∈ l → NOk t) (hne : bNE (rowB 114 l ps)) (hsz : bsz (rowB 114 l ps) ≤ 800) :
    Calls Tryz.prog 75 #[sl, sls, slv] w fun e w' => ClPost Y w (rowB 114 l ps) e w' := by
  obtain ⟨q, hq⟩ : ∃ q, l.length = q + 1 := ⟨l.length - 1, by omega⟩
  rw [show l.length - 1 = q by omega] at hS hV
  have hgl : gs.length = q + 1 := by rw [hC.len, List.length_map, hq]
  have hsl : pss.length = q := by rw [hS.len, partAB_len]
  have hvl : psv.length = q := by rw [hV.len, partAB_len]
  have hpl : ps.length = q := by omega
  obtain ⟨vb, cap, rfl, _, hvbl⟩ := hC.own.form (by omega)
  obtain ⟨sb, cas, rfl, _, hsbl⟩ := hS.own.form (by omega)
  obtain ⟨ub, cau, rfl, _, hubl⟩ := hV.own.form (by omega)
  have hfew := hC.few
  have hcap : gs.length ≤ cap := by
    rcases hC.own.2 with ⟨h', _⟩ | ⟨g', cap', cur, h', _, _, hnc, _⟩
    · simp at h'
    · injection h' with _ _ hc
      omega
  have hcp : cap ≤ 9223372036854775807 := by
    rcases hC.own.2 with ⟨h', _⟩ | ⟨g', cap', cur, h', _, _, hnc, hcm, _⟩
    · simp at h'
    · injection h' with _ _ hc
      unfold maxLen at hcm
      omega
  obtain ⟨g0, hg0⟩ : ∃ g0, gs[0]? = some g0 := ⟨_, List.getElem?_eq_getElem (by omega)⟩
  obtain ⟨t0, ht0⟩ : ∃ t0, l[0]? = some t0 := ⟨_, List.getElem?_eq_getElem (by omega)⟩
  have c0 : w.cell? ⟨vb, 0, none⟩ = some (.pointer (some ⟨g0, 0, none⟩)) := by
    rw [hC.own.cellAt 0 (by omega)]
    simp [ptrs, hg0]
  have hst : CL Y w g0 (rowB 114 (l.take 1) (ps.take 0)) := by
    have := hC.at_ 0 g0 (toB t0) hg0 (by rw [List.getElem?_map, ht0]; rfl)
    rw [take_snocz ht0, List.take_zero, List.nil_append, rowB_one]
    exact this
  rw [hsl, hvl, hgl]
  rw [hsl] at hS
  rw [hvl] at hV
  rw [hgl] at hC
  have HE := hide (And.intro hC (And.intro hS (And.intro hV (And.intro hY (And.intro hN (And.intro hne (And.intro hsz (And.intro (And.intro hpl hq) (And.intro hgl (And.intro hsl hvl))))))))))
  have HST := hide hst
  have hd1 : (0 : Int) < (q : Int) + 1 := by omega
  have hd2 : (1 : Int) ≤ (q : Int) + 1 := by omega
  have hd3 : (1 : Int) ≤ (cap : Int) := by omega
  rw [hgl] at hfew hcap
  have hq1 : 1 ≤ q := by omega
  clear hC hS hV hY hN hne hsz hst hg0 ht0 hgl hsl hvl hl hpl h2 hq
  go_enter Tryz.func75, Tryz.ntmps75
  go_wp2_with fail
  clear c0
  go_loopg [7, 16] (q + 2) (fun gk v7 v16 wv => ∃ (i b : Nat), v7 = .pointer (some ⟨b, 0, none⟩) ∧ v16 = .int .i64 (i : Int) ∧ i ≤ q ∧ q - i < gk ∧ CL Y wv b (rowB 114 (l.take (i + 1)) (ps.take i)) ∧ K0 w wv)
  case atStart => exact ⟨0, g0, rfl, rfl, Nat.zero_le _, by omega, unhide HST, K0.refl _⟩
  case round =>
    clear HST
    obtain ⟨i, b, rfl, rfl, hi, hgk, hCL, hK⟩ := hrel
    obtain ⟨hC, hS, hV, hY, hN, hne, hsz, ⟨hl, hn⟩, hgl, hsl, hvl⟩ := unhide HE
    by_cases hlt : i < q
    · have hd : (i : Int) < (q : Int) := by omega
      obtain ⟨g1, hg1⟩ : ∃ g1, gs[i + 1]? = some g1 := ⟨_, List.getElem?_eq_getElem (by omega)⟩
      obtain ⟨t1, ht1⟩ : ∃ t1, l[i + 1]? = some t1 := ⟨_, List.getElem?_eq_getElem (by omega)⟩
      obtain ⟨pj, hpj⟩ : ∃ pj, ps[i]? = some pj := ⟨_, List.getElem?_eq_getElem (by omega)⟩
      obtain ⟨⟨p1, p2⟩, hp⟩ : ∃ p, pss[i]? = some p := ⟨_, List.getElem?_eq_getElem (by omega)⟩
      obtain ⟨⟨q1, q2⟩, hq⟩ : ∃ p, psv[i]? = some p := ⟨_, List.getElem?_eq_getElem (by omega)⟩
      have ck : wr.cell? ⟨vb, 1 + i, none⟩ = some (.pointer (some ⟨g1, 0, none⟩)) := by
        refine hK.cellz (a := ⟨vb, 1 + i, none⟩) ?_
        have ho := hC.own
        rw [hgl] at ho
        rw [ho.cellAt (1 + i) (by omega), Nat.add_comm]
        simp [ptrs, hg1]
      obtain ⟨s0, s1, s2⟩ := hS.cells hp
      obtain ⟨u0, u1, u2⟩ := hV.cells hq
      have x0 := hK.cellz s0
      have x1 := hK.cellz s1
      have x2 := hK.cellz s2
      have y0 := hK.cellz u0
      have y1 := hK.cellz u1
      have y2 := hK.cellz u2
      simp only at x1 x2 y1 y2 s1 s2 u1 u2
      obtain ⟨r1, r2, r3, r4⟩ := row_node (kd := 114) (by omega) ht1 hpj hne hsz
      have mS := hS.at_ i (p1, p2) _ hp (partAB_at _ _ _ hlt)
      have mV := hV.at_ i (q1, q2) _ hq (partAB_at _ _ _ hlt)
      rw [sideTL_at false l _ t1 ht1] at mS
      rw [sideTL_at true l _ t1 ht1] at mV
      have hct := hC.at_ (i + 1) g1 (toB t1) hg1 (by rw [List.getElem?_map, ht1]; rfl)
      have HP : Hid (∀ V : World, K0 wr V → Calls Tryz.prog 115 #[.pointer (some ⟨b, 0, none⟩), .pointer (some ⟨g1, 0, none⟩), .agg #[.int .i64 1, .pointer (some ⟨p1, 0, none⟩), .pointer (some ⟨p2, 0, none⟩)], .agg #[.int .i64 2, .pointer (some ⟨q1, 0, none⟩), .pointer (some ⟨q2, 0, none⟩)]] V fun e V' => ClPost Y V (rowB 114 (l.take (i + 1 + 1)) (ps.take (i + 1))) e V') := hide (fun V hKV => by
        have hk2 : KY Y w V := (hK.trans hKV).ky Y
        rw [take_snocz ht1, take_snocz hpj, rowB_snoc 114 t1 pj (l.take (i + 1)) (ps.take i) (by rw [List.length_take, List.length_take]; omega)]
        exact pair_said pj (fun k hk => by have := hY k hk; have := hK.size; have := hKV.size; omega) (hCL.ky (hKV.ky Y)) (hct.ky hk2) (mS.1.ky hk2) (mS.2.ky hk2) (mV.1.ky hk2) (mV.2.ky hk2) (rowA_eq false (by omega) hN) (fun u => (side_eq false t1 (hN t1 (List.mem_of_getElem? ht1)) u).symm) (rowA_eq true (by omega) hN) (fun u => (side_eq true t1 (hN t1 (List.mem_of_getElem? ht1)) u).symm) r1 r2 r3 r4)
      have HPS : Hid (∀ V : World, (K0 w V ∧ V.cell? ⟨sb, i * 3, none⟩ = some (.int .i64 1) ∧ V.cell? ⟨sb, i * 3 + 1, none⟩ = some (.pointer (some ⟨p1, 0, none⟩)) ∧ V.cell? ⟨sb, i * 3 + 2, none⟩ = some (.pointer (some ⟨p2, 0, none⟩)) ∧ V.cell? ⟨ub, i * 3, none⟩ = some (.int .i64 2) ∧ V.cell? ⟨ub, i * 3 + 1, none⟩ = some (.pointer (some ⟨q1, 0, none⟩)) ∧ V.cell? ⟨ub, i * 3 + 2, none⟩ = some (.pointer (some ⟨q2, 0, none⟩))) → K0 wr V → Calls Tryz.prog 115 #[.pointer (some ⟨b, 0, none⟩), .pointer (some ⟨g1, 0, none⟩), .agg #[.int .i64 1, .pointer (some ⟨p1, 0, none⟩), .pointer (some ⟨p2, 0, none⟩)], .agg #[.int .i64 2, .pointer (some ⟨q1, 0, none⟩), .pointer (some ⟨q2, 0, none⟩)]] V fun e V' => (∃ b', e = .returned (.pointer (some ⟨b', 0, none⟩)) ∧ CL Y V' b' (rowB 114 (l.take (i + 1 + 1)) (ps.take (i + 1)))) ∧ (K0 w V' ∧ V'.cell? ⟨sb, i * 3, none⟩ = some (.int .i64 1) ∧ V'.cell? ⟨sb, i * 3 + 1, none⟩ = some (.pointer (some ⟨p1, 0, none⟩)) ∧ V'.cell? ⟨sb, i * 3 + 2, none⟩ = some (.pointer (some ⟨p2, 0, none⟩)) ∧ V'.cell? ⟨ub, i * 3, none⟩ = some (.int .i64 2) ∧ V'.cell? ⟨ub, i * 3 + 1, none⟩ = some (.pointer (some ⟨q1, 0, none⟩)) ∧ V'.cell? ⟨ub, i * 3 + 2, none⟩ = some (.pointer (some ⟨q2, 0, none⟩)))) := hide (fun V h hKV => (unhide HP V hKV).mono (fun e V' h2 => by
        obtain ⟨b', e1, e2, e3⟩ := h2
        exact ⟨⟨b', e1, e2⟩, h.1.trans e3, e3.cellz h.2.1, e3.cellz h.2.2.1, e3.cellz h.2.2.2.1, e3.cellz h.2.2.2.2.1, e3.cellz h.2.2.2.2.2.1, e3.cellz h.2.2.2.2.2.2⟩))
      have hkd : K0 w wr.drew := hK.trans (Kp.drew _ _)
      have hkd2 : K0 wr wr.drew := Kp.drew _ _
      have hHK := hide hK
      clear hC hS hV hY hN hne hsz hl hn hgl hsl hvl hCL hg1 ht1 hpj hp hq r1 r2 r3 r4 mS mV hct HP s0 s1 s2 u0 u1 u2 hK
      go_wp2_with fail
      go_region_held3 (fun V => (K0 w V ∧ V.cell? ⟨sb, i * 3, none⟩ = some (.int .i64 1) ∧ V.cell? ⟨sb, i * 3 + 1, none⟩ = some (.pointer (some ⟨p1, 0, none⟩)) ∧ V.cell? ⟨sb, i * 3 + 2, none⟩ = some (.pointer (some ⟨p2, 0, none⟩)) ∧ V.cell? ⟨ub, i * 3, none⟩ = some (.int .i64 2) ∧ V.cell? ⟨ub, i * 3 + 1, none⟩ = some (.pointer (some ⟨q1, 0, none⟩)) ∧ V.cell? ⟨ub, i * 3 + 2, none⟩ = some (.pointer (some ⟨q2, 0, none⟩)))) (go_keep) (first | (go_at_call 115; refine (unhide HPS _ (by assumption) (by assumption)).mono ?_; rintro e w2 ⟨⟨b', rfl, hCL2⟩, hS2⟩))
      have H2 := hide (And.intro hCL2 hS2.1)
      clear hCL2 hS2
      go_wp2_with fail
      go_roundg (gk - 1)
      case measure => omega
      case rel => exact ⟨i + 1, b', rfl, by simp, by omega, by omega, (unhide H2).1, (unhide H2).2⟩
    · have hd : ¬ (i : Int) < (q : Int) := by omega
      have H7 := hide (And.intro hCL (And.intro hK (And.intro hl hn)))
      clear hC hS hV hY hN hne hsz hl hn hgl hsl hvl hCL hK
      go_wp2
      go_ret
      obtain ⟨hCL, hK, hl, hn⟩ := unhide H7
      obtain rfl : i = q := by omega
      rw [List.take_of_length_le (by omega), List.take_of_length_le (by omega)] at hCL
      exact ⟨b, rfl, hCL, hK⟩

end Go.Proofs.YtlljggefbngkeaaGreatDoor

namespace Go.Proofs.YtlljggefbngkeaaGreatDoor
open Go.RowKit Go.Shelf

theorem KY.set {Y : Nat → Prop} {w w' : World} (h : KY Y w w') {b : Nat} (hb : Y b) (o : Nat) (v : Value) : KY Y w (w'.setCell ⟨b, o, none⟩ v) := h.trans (Kp.set _ _ _ _ (fun hn => hn hb))

def RpPost (w : World) (m : Int) (A B : PT) (e : Ending) (w' : World) : Prop := ∃ ba bb, e = .returned (.agg #[.int .i64 m, .pointer (some ⟨ba, 0, none⟩), .pointer (some ⟨bb, 0, none⟩)]) ∧ MachO w' (fun k => k < w.heap.size) A ba ∧ MachO w' (fun k => k < w.heap.size) B bb ∧ K0 w w'

set_option maxRecDepth 100000 in
set_option maxHeartbeats 1600000 in
theorem repeating_said {s : ByteArray} {v : Bool} {p : Nat} {a : LT} {w : World} {Y : Nat → Prop} {g : Nat} (hL : LR s w Y (.many p a) g) (hO : VOk (.many p a)) (hY : ∀ k, Y k → k < w.heap.size) (hok : okRep (sideT v a)) (hsa : stSize (sideT v a) ≤ 1000) (hsb : stSize (.rep 42 (sideT v a)) ≤ 1000) :
    Calls Tryz.prog 74 #[.int .i64 (sdV v), .pointer (some ⟨g, 0, none⟩)] w fun e w' => RpPost w (misV v) (sideT v a) (.rep 42 (sideT v a)) e w' := by
  have hokb : okRep (.rep 42 (sideT v a)) := by rw [okRep]; exact ⟨.inl rfl, hok⟩
  have HT2 := hide (fun (W : World) (hk : K0 w W) => stexts (v := v) (.many p a) W Y g (LR.kept (fun k hk' _ => hk.heap hk') hL) hO (fun k h => Nat.lt_of_lt_of_le (hY k h) hk.size))
  have hL' := hL
  rw [LR] at hL'
  obtain ⟨hgy, pv, jv, ga, hb, ⟨hpo, hpn⟩, _, hLa⟩ := hL'
  obtain ⟨vb, cap, rfl, _, hvl⟩ := hpo.form (by simp)
  have HT1 := hide (fun (W : World) (hk : K0 w W) => stexts (v := v) a W Y ga (LR.kept (fun k hk' _ => hk.heap hk') hLa) (hO.part (by simp [parts])) (fun k h => Nat.lt_of_lt_of_le (hY k h) hk.size))
  have HN := hide (fun (W : World) (pa pb : Nat) (hA : TR W Y (sideT v a) pa) (hB : TR W Y (.rep 42 (sideT v a)) pb) => newParting_said (v := v) hA hB hok hokb hsa hsb)
  have c1 : w.cell? ⟨g, 1, none⟩ = some (.slice (some ⟨vb, 0, none⟩) 1 cap) := by rw [cellOf hb 1]; rfl
  have c2 : w.cell? ⟨vb, 0, none⟩ = some (.pointer (some ⟨ga, 0, none⟩)) := by
    rw [hpo.cellAt 0 (by simp)]
    simp [ptrs]
  have z1 : ∀ o, (w.alloc o).cell? ⟨g, 1, none⟩ = some (.slice (some ⟨vb, 0, none⟩) 1 cap) := fun o => by rw [World.cell?_alloc_past _ _ _ (heap_lt hb)]; exact c1
  have z2 : ∀ o, (w.alloc o).cell? ⟨vb, 0, none⟩ = some (.pointer (some ⟨ga, 0, none⟩)) := fun o => by rw [World.cell?_alloc_past _ _ _ hvl]; exact c2
  clear hL hO hY hok hsa hsb hokb hgy hb hpo hpn hLa c1 c2
  go_enter Tryz.func74, Tryz.ntmps74
  go_wp2_with fail
  have hb0 := heap_alloc_new w (.cells #[.int .i64 0, .pointer none, .pointer none] 128)
  have hk1 : K0 w (w.alloc (.cells #[.int .i64 0, .pointer none, .pointer none] 128)) := Kp.alloc _ _ _
  have hs0 : (w.alloc (.cells #[.int .i64 0, .pointer none, .pointer none] 128)).heap.size = w.heap.size + 1 := by simp
  refine (unhide HT1 _ hk1).mono ?_
  rintro e w1 ⟨pa, rfl, hg1, hT1⟩
  have hk2 := K0.of_grownz hg1
  have hk12 := hk1.trans hk2
  have hb1 := (hk2.heap (heap_lt hb0)).trans hb0
  have HA := hide hT1
  clear hT1 z1 z2
  go_wp2_with fail
  refine (unhide HT2 _ hk12).mono ?_
  rintro e w2 ⟨pb, rfl, hg2, hT2⟩
  have hk3 := K0.of_grownz hg2
  have hb2 := (hk3.heap (heap_lt hb1)).trans hb1
  have hTa := TR.kept (w' := w2) (fun k hk' _ => hk3.heap hk') (unhide HA)
  have HA2 := hide (And.intro hTa hT2)
  clear hT2 hTa HA
  go_wp2_with fail
  refine (unhide HN w2 pa pb (unhide HA2).1 (unhide HA2).2).mono ?_
  rintro e w3 ⟨⟨ba, bb, rfl, hMa, hMb⟩, hk4⟩
  have hb3 := (hk4.heap (heap_lt hb2)).trans hb2
  have c0 := cellOf hb3 0
  have c1 := cellOf hb3 1
  have c2 := cellOf hb3 2
  have f0 := frozenOf hb3 0
  have f1 := frozenOf hb3 1
  have f2 := frozenOf hb3 2
  simp at c0 c1 c2
  have hk9 := (hk12.trans hk3).trans hk4
  have HM := hide (And.intro hMa hMb)
  have hs1 := hk2.size
  have hs2 := hk3.size
  clear hMa hMb HA2
  go_wp2
  have g0 := heap_set hb3 0 (.int .i64 (misV v))
  have g1 := heap_set g0 1 (.pointer (some ⟨ba, 0, none⟩))
  have g2 := heap_set g1 2 (.pointer (some ⟨bb, 0, none⟩))
  simp at g2
  have e0 := cellOf g2 0
  have e1 := cellOf g2 1
  have e2 := cellOf g2 2
  simp at e0 e1 e2
  have hky : KY (fun k => k < w2.heap.size) w3 (((w3.setCell ⟨w.heap.size, 0, none⟩ (.int .i64 (misV v))).setCell ⟨w.heap.size, 1, none⟩ (.pointer (some ⟨ba, 0, none⟩))).setCell ⟨w.heap.size, 2, none⟩ (.pointer (some ⟨bb, 0, none⟩))) := KY.set (KY.set (KY.set (KY.refl _ _) (by omega) _ _) (by omega) _ _) (by omega) _ _
  refine bodyPost_ret (v := .agg #[.int .i64 (misV v), .pointer (some ⟨ba, 0, none⟩), .pointer (some ⟨bb, 0, none⟩)]) ?_ rfl ?_
  · simp [results, Tryz.f74, go_sem, e0, e1, e2]
  · exact ⟨ba, bb, rfl, ((unhide HM).1.ky hky).reY (fun k _ hz => by omega), ((unhide HM).2.ky hky).reY (fun k _ hz => by omega), K0.set (K0.set (K0.set hk9 (Nat.le_refl _) 0 _) (Nat.le_refl _) 1 _) (Nat.le_refl _) 2 _⟩

def RwPost (w : World) (m : Int) (ts : List PT) (e : Ending) (w' : World) : Prop := ∃ sl bs, e = .returned (.agg #[.int .i64 m, sl]) ∧ MsO (fun k => k < w.heap.size) w' sl bs ts ∧ K0 w w'

set_option maxRecDepth 100000 in
set_option maxHeartbeats 1600000 in
theorem rowsOf_said {s : ByteArray} {v : Bool} {t : LT} {w : World} {Y : Nat → Prop} {g : Nat} (hL : LR s w Y t g) (hO : VOk t) (hY : ∀ k, Y k → k < w.heap.size) (hok : ∀ x, x ∈ sideP v t → okRep x ∧ stSize x ≤ 1000) :
    Calls Tryz.prog 77 #[.int .i64 (sdV v), .pointer (some ⟨g, 0, none⟩)] w fun e w' => RwPost w (misV v) (sideP v t) e w' := by
  have HP := hide (fun (W : World) (hk : K0 w W) => sparts (v := v) (fun u _ => stexts u) (LR.kept (w' := W) (fun k hk' _ => hk.heap hk') hL) hO (fun k h => Nat.lt_of_lt_of_le (hY k h) hk.size))
  have hsl := sideP_len v t
  have hpl := hO.len
  have HE := hide hok
  clear hL hO hY hok
  go_enter Tryz.func77, Tryz.ntmps77
  go_wp2_with fail
  refine (misfit_said v _).mono ?_
  rintro e w' ⟨rfl, rfl⟩
  go_wp2_with fail
  have hb0 := heap_alloc_new w (.cells #[.int .i64 0, .slice none 0 0] 137)
  have hk1 : K0 w (w.alloc (.cells #[.int .i64 0, .slice none 0 0] 137)) := Kp.alloc _ _ _
  have hs0 : (w.alloc (.cells #[.int .i64 0, .slice none 0 0] 137)).heap.size = w.heap.size + 1 := by simp
  refine (unhide HP _ hk1).mono ?_
  rintro e w1 ⟨v1, gs, rfl, hR⟩
  have hlen := hR.trl.len
  have hk2 := K0.of_grownz hR.gr
  have hb1 := (hk2.heap (heap_lt hb0)).trans hb0
  have HM := hide (eachM_said (Yt := Y) hR.own hlen (fun i p t' hp ht => ⟨trl_at hR.trY i t' p ht hp, unhide HE t' (List.mem_of_getElem? ht)⟩) (by omega))
  clear hR hlen HP HE
  go_wp2_with fail
  refine (unhide HM).mono ?_
  rintro e w2 ⟨sl, bs, rfl, hM, hk3⟩
  obtain ⟨ao, cp, rfl⟩ := own_slice hM.own
  have hb2 := (hk3.heap (heap_lt hb1)).trans hb1
  have c0 := cellOf hb2 0
  have c1 := cellOf hb2 1
  have f0 := frozenOf hb2 0
  have f1 := frozenOf hb2 1
  simp at c0 c1
  have hk9 := (hk1.trans hk2).trans hk3
  have hs1 := hk2.size
  have HM2 := hide hM
  clear hM HM
  go_wp2
  have g0 := heap_set hb2 0 (.int .i64 (misV v))
  have g1 := heap_set g0 1 (.slice ao bs.length cp)
  simp at g1
  have e0 := cellOf g1 0
  have e1 := cellOf g1 1
  simp at e0 e1
  have hky : KY (fun k => k < w1.heap.size) w2 ((w2.setCell ⟨w.heap.size, 0, none⟩ (.int .i64 (misV v))).setCell ⟨w.heap.size, 1, none⟩ (.slice ao bs.length cp)) := KY.set (KY.set (KY.refl _ _) (by omega) _ _) (by omega) _ _
  refine bodyPost_ret (v := .agg #[.int .i64 (misV v), .slice ao bs.length cp]) ?_ rfl ?_
  · simp [results, Tryz.f77, go_sem, e0, e1]
  · exact ⟨_, bs, rfl, ((unhide HM2).ky hky).reY (fun k _ hz => by omega), K0.set (K0.set hk9 (Nat.le_refl _) 0 _) (Nat.le_refl _) 1 _⟩

end Go.Proofs.YtlljggefbngkeaaGreatDoor

namespace Go.Proofs.YtlljggefbngkeaaGreatDoor
open Go.RowKit Go.Shelf

/-- the first pattern that has the text -/
def FstT (ts : List PT) (i : Nat) (t : PT) (u : List UInt8) : Prop := ts[i]? = some t ∧ M t u ∧ ∀ (j : Nat) (t' : PT), j < i → ts[j]? = some t' → ¬ M t' u
theorem FstT.uniq {ts : List PT} {i j : Nat} {t t' : PT} {u : List UInt8} (h : FstT ts i t u) (k : FstT ts j t' u) : i = j := by
  rcases Nat.lt_trichotomy i j with h1 | h1 | h1
  · exact absurd h.2.1 (k.2.2 i t h1 h.1)
  · exact h1
  · exact absurd k.2.1 (h.2.2 j t' h1 k.1)
theorem fst_or (u : List UInt8) : ∀ ts : List PT, (∃ i t, FstT ts i t u) ∨ ∀ t, t ∈ ts → ¬ M t u
  | [] => .inr fun t h => by cases h
  | t :: ts => by
    rcases Classical.em (M t u) with h | h
    · exact .inl ⟨0, t, rfl, h, fun j _ hj => by omega⟩
    · rcases fst_or u ts with ⟨i, t', h1, h2, h3⟩ | h1
      · refine .inl ⟨i + 1, t', by simpa using h1, h2, fun j x hj hx => ?_⟩
        cases j with
        | zero => rw [List.getElem?_cons_zero] at hx; rw [← Option.some.inj hx]; exact h
        | succ j => exact h3 j x (by omega) (by simpa using hx)
      · refine .inr fun x hx => ?_
        rcases List.mem_cons.1 hx with rfl | hx
        · exact h
        · exact h1 x hx
theorem which_ok {w : World} {sl : Value} {gs : List Nat} {ts : List PT} {m : Int} {u : List UInt8} {i : Nat} {t : PT} (h : MsAt w sl gs ts) (hu : u.length ≤ 1000) (hf : FstT ts i t u) :
    Calls Tryz.prog 117 #[.agg #[.int .i64 m, sl], .string (txt u)] w fun e w' => e = .returned (.int .i64 (i : Int)) ∧ K0 w w' := by
  refine (which_said (m := m) h hu).mono ?_
  rintro e w' ⟨(⟨j, t', h1, h2, h3, rfl⟩ | ⟨h1, _⟩), hk⟩
  · rw [hf.uniq ⟨h1, h2, h3⟩]
    exact ⟨rfl, hk⟩
  · exact absurd hf.2.1 (h1 t (List.mem_of_getElem? hf.1))
theorem which_no {w : World} {sl : Value} {gs : List Nat} {ts : List PT} {m : Int} {u : List UInt8} (h : MsAt w sl gs ts) (hu : u.length ≤ 1000) (hf : ∀ t, t ∈ ts → ¬ M t u) :
    Calls Tryz.prog 117 #[.agg #[.int .i64 m, sl], .string (txt u)] w fun e w' => e = .panicked (misP m) ∧ K0 w w' := by
  refine (which_said (m := m) h hu).mono ?_
  rintro e w' ⟨(⟨j, t', h1, h2, h3, rfl⟩ | ⟨h1, rfl⟩), hk⟩
  · exact absurd h2 (hf t' (List.mem_of_getElem? h1))
  · exact ⟨rfl, hk⟩

def scell (v : Value) : Obj := .cells #[v] 112 (0, 0)
def rcell (m : Int) (v : Value) : Obj := .cells #[.int .i64 m, v] 137 (0, 0)

set_option maxRecDepth 100000 in
set_option maxHeartbeats 3200000 in
theorem ch1_ok {Y : Nat → Prop} {W : World} {ts : List PT} {bs : List Nat} {P : List UInt8 → Prop} {G : List UInt8 → List UInt8} {m : Int} {Bp Br vb n cap cp i g : Nat} {ao : Option Addr} {F1 F2 F3 : Value} {t : PT} {u : List UInt8}
    (hp : W.heap[Bp]? = some (scell (.slice (some ⟨vb, 0, none⟩) n cap))) (hr : W.heap[Br]? = some (rcell m (.slice ao n cp))) (hM : MsAt W (.slice ao n cp) bs ts) (hc : W.cell? ⟨vb, i, none⟩ = some (.pointer (some ⟨g, 0, none⟩))) (hi : i < n) (hb : W.heap[g]? = some (fcell F1 F2 F3)) (hf : Fn1 Y W F1 P G m) (hu : u.length ≤ 1000) (hF : FstT ts i t u) (hP : P u) :
    Calls Tryz.prog 116 #[.string (txt u), .pointer (some ⟨Bp, 0, none⟩), .pointer (some ⟨Br, 0, none⟩)] W fun e w' => e = .returned (.string (txt (G u))) ∧ K0 W w' := by
  have c0 := cellOf hp 0
  have r0 := cellOf hr 0
  have r1 := cellOf hr 1
  have b0 := cellOf hb 0
  simp at c0 r0 r1 b0
  have hii : (i : Int) < (n : Int) := by omega
  have hi0 : (0 : Int) ≤ (i : Int) := by omega
  obtain ⟨N, x, y, rfl, n1, s1⟩ := hf
  have hSS : ∀ V V' : World, (K0 W V ∧ V.cell? ⟨Bp, 0, none⟩ = some (.slice (some ⟨vb, 0, none⟩) n cap) ∧ V.cell? ⟨Br, 0, none⟩ = some (.int .i64 m) ∧ V.cell? ⟨Br, 1, none⟩ = some (.slice ao n cp) ∧ V.cell? ⟨vb, i, none⟩ = some (.pointer (some ⟨g, 0, none⟩)) ∧ V.cell? ⟨g, 0, none⟩ = some (.func (.func N) x y)) → K0 V V' → (K0 W V' ∧ V'.cell? ⟨Bp, 0, none⟩ = some (.slice (some ⟨vb, 0, none⟩) n cap) ∧ V'.cell? ⟨Br, 0, none⟩ = some (.int .i64 m) ∧ V'.cell? ⟨Br, 1, none⟩ = some (.slice ao n cp) ∧ V'.cell? ⟨vb, i, none⟩ = some (.pointer (some ⟨g, 0, none⟩)) ∧ V'.cell? ⟨g, 0, none⟩ = some (.func (.func N) x y)) := fun V V' h hk => ⟨h.1.trans hk, hk.cellz h.2.1, hk.cellz h.2.2.1, hk.cellz h.2.2.2.1, hk.cellz h.2.2.2.2.1, hk.cellz h.2.2.2.2.2⟩
  have HW : Hid (∀ V : World, (K0 W V ∧ V.cell? ⟨Bp, 0, none⟩ = some (.slice (some ⟨vb, 0, none⟩) n cap) ∧ V.cell? ⟨Br, 0, none⟩ = some (.int .i64 m) ∧ V.cell? ⟨Br, 1, none⟩ = some (.slice ao n cp) ∧ V.cell? ⟨vb, i, none⟩ = some (.pointer (some ⟨g, 0, none⟩)) ∧ V.cell? ⟨g, 0, none⟩ = some (.func (.func N) x y)) → Calls Tryz.prog 117 #[.agg #[.int .i64 m, .slice ao n cp], .string (txt u)] V fun e V' => e = .returned (.int .i64 (i : Int)) ∧ (K0 W V' ∧ V'.cell? ⟨Bp, 0, none⟩ = some (.slice (some ⟨vb, 0, none⟩) n cap) ∧ V'.cell? ⟨Br, 0, none⟩ = some (.int .i64 m) ∧ V'.cell? ⟨Br, 1, none⟩ = some (.slice ao n cp) ∧ V'.cell? ⟨vb, i, none⟩ = some (.pointer (some ⟨g, 0, none⟩)) ∧ V'.cell? ⟨g, 0, none⟩ = some (.func (.func N) x y))) := hide (fun V h => (which_ok (m := m) (hM.k0 h.1) hu hF).mono (fun e V' h2 => ⟨h2.1, hSS V V' h h2.2⟩))
  have HF : Hid (∀ V : World, (K0 W V ∧ V.cell? ⟨Bp, 0, none⟩ = some (.slice (some ⟨vb, 0, none⟩) n cap) ∧ V.cell? ⟨Br, 0, none⟩ = some (.int .i64 m) ∧ V.cell? ⟨Br, 1, none⟩ = some (.slice ao n cp) ∧ V.cell? ⟨vb, i, none⟩ = some (.pointer (some ⟨g, 0, none⟩)) ∧ V.cell? ⟨g, 0, none⟩ = some (.func (.func N) x y)) → Calls Tryz.prog N (x.push (.string (txt u)) ++ y) V fun e V' => e = .returned (.string (txt (G u))) ∧ (K0 W V' ∧ V'.cell? ⟨Bp, 0, none⟩ = some (.slice (some ⟨vb, 0, none⟩) n cap) ∧ V'.cell? ⟨Br, 0, none⟩ = some (.int .i64 m) ∧ V'.cell? ⟨Br, 1, none⟩ = some (.slice ao n cp) ∧ V'.cell? ⟨vb, i, none⟩ = some (.pointer (some ⟨g, 0, none⟩)) ∧ V'.cell? ⟨g, 0, none⟩ = some (.func (.func N) x y))) := hide (fun V h => (s1 V u (h.1.ky Y) hu).mono (fun e V' h2 => by
    obtain ⟨(⟨_, h3⟩ | ⟨h3, _⟩), h4⟩ := h2
    · exact ⟨h3, hSS V V' h h4⟩
    · exact absurd hP h3))
  have hkd : K0 W W.drew := Kp.drew _ _
  obtain ⟨r, hr'⟩ : ∃ r, G u = r := ⟨_, rfl⟩
  rw [hr'] at HF ⊢
  clear hp hr hM hb s1 hSS hF hP hr'
  unfold Ent at n1
  go_enter Tryz.func116, Tryz.ntmps116
  go_wp2_with fail
  go_region_held3 (fun V => (K0 W V ∧ V.cell? ⟨Bp, 0, none⟩ = some (.slice (some ⟨vb, 0, none⟩) n cap) ∧ V.cell? ⟨Br, 0, none⟩ = some (.int .i64 m) ∧ V.cell? ⟨Br, 1, none⟩ = some (.slice ao n cp) ∧ V.cell? ⟨vb, i, none⟩ = some (.pointer (some ⟨g, 0, none⟩)) ∧ V.cell? ⟨g, 0, none⟩ = some (.func (.func N) x y))) (go_keep) (first | (go_at_call 117; refine (unhide HW _ (by assumption)).mono ?_; rintro e w2 ⟨rfl, hS2⟩) | (refine (unhide HF _ (by assumption)).mono ?_; rintro e w3 ⟨rfl, hS3⟩))
  go_wp2
  go_ret
  exact ⟨rfl, hS3.1⟩

set_option maxRecDepth 100000 in
set_option maxHeartbeats 3200000 in
theorem ch1_no {W : World} {ts : List PT} {bs : List Nat} {m : Int} {Bp Br vb n cap cp : Nat} {ao : Option Addr} {u : List UInt8}
    (hp : W.heap[Bp]? = some (scell (.slice (some ⟨vb, 0, none⟩) n cap))) (hr : W.heap[Br]? = some (rcell m (.slice ao n cp))) (hM : MsAt W (.slice ao n cp) bs ts) (hu : u.length ≤ 1000) (hF : ∀ t, t ∈ ts → ¬ M t u) :
    Calls Tryz.prog 116 #[.string (txt u), .pointer (some ⟨Bp, 0, none⟩), .pointer (some ⟨Br, 0, none⟩)] W fun e w' => e = .panicked (misP m) ∧ K0 W w' := by
  have c0 := cellOf hp 0
  have r0 := cellOf hr 0
  have r1 := cellOf hr 1
  simp at c0 r0 r1
  have HW : Hid (∀ V : World, (K0 W V ∧ V.cell? ⟨Bp, 0, none⟩ = some (.slice (some ⟨vb, 0, none⟩) n cap) ∧ V.cell? ⟨Br, 0, none⟩ = some (.int .i64 m) ∧ V.cell? ⟨Br, 1, none⟩ = some (.slice ao n cp)) → Calls Tryz.prog 117 #[.agg #[.int .i64 m, .slice ao n cp], .string (txt u)] V fun e V' => e = .panicked (misP m) ∧ K0 W V') := hide (fun V h => (which_no (m := m) (hM.k0 h.1) hu hF).mono (fun e V' h2 => ⟨h2.1, h.1.trans h2.2⟩))
  have hkd : K0 W W.drew := Kp.drew _ _
  clear hp hr hM hF
  go_enter Tryz.func116, Tryz.ntmps116
  go_wp2_with fail
  refine wp_region_held_drew (S := fun V => (K0 W V ∧ V.cell? ⟨Bp, 0, none⟩ = some (.slice (some ⟨vb, 0, none⟩) n cap) ∧ V.cell? ⟨Br, 0, none⟩ = some (.int .i64 m) ∧ V.cell? ⟨Br, 1, none⟩ = some (.slice ao n cp))) (by kernel_rfl) ⟨hkd, by simp [*], by simp [*], by simp [*]⟩ ?_
  intro hHeld
  refine wpAnyH_take (i := 0) (v := .slice (some ⟨vb, 0, none⟩) n cap) rfl (by kernel_rfl) (by kernel_rfl) (by kernel_rfl) (fun _ _ _ h => h) (Or.inl ⟨by rfl, ?_⟩) hHeld ?_
  · intro w hSw
    go_simp
  refine wpAnyH_take (i := 1) (v := .agg #[.int .i64 m, .slice ao n cp]) rfl (by kernel_rfl) (by kernel_rfl) (by kernel_rfl) (fun _ _ _ h => h) (Or.inl ⟨by rfl, ?_⟩) hHeld ?_
  · intro w hSw
    go_simp
  refine wpAnyH_take (i := 2) (v := .string (txt u)) rfl (by kernel_rfl) (by kernel_rfl) (by kernel_rfl) (fun _ _ _ h => h) (Or.inl ⟨by rfl, ?_⟩) hHeld ?_
  · intro w hSw
    go_simp
  refine wpAnyH_take (i := 9) (v := .string (txt u)) rfl (by kernel_rfl) (by kernel_rfl) (by kernel_rfl) (fun _ _ _ h => h) (Or.inl ⟨by rfl, ?_⟩) hHeld ?_
  · intro w hSw
    go_simp
  refine wpAnyH_ready (rs := [3]) (by kernel_rfl) (by simp) ?_
  refine AllReadyH.cons rfl (fun K' hK => ?_) AllReadyH.nil
  go_simp
  refine (unhide HW _ hHeld).mono ?_
  rintro e w2 ⟨rfl, hS2⟩
  exact ⟨rfl, rfl, hS2⟩

set_option maxRecDepth 100000 in
set_option maxHeartbeats 3200000 in
theorem ch3_ok {Y : Nat → Prop} {W : World} {ts : List PT} {bs : List Nat} {P : List UInt8 → Prop} {G : List UInt8 → List UInt8} {m : Int} {Bp Br vb n cap cp i g : Nat} {ao : Option Addr} {F1 F2 F3 : Value} {t : PT} {u : List UInt8}
    (hp : W.heap[Bp]? = some (scell (.slice (some ⟨vb, 0, none⟩) n cap))) (hr : W.heap[Br]? = some (rcell m (.slice ao n cp))) (hM : MsAt W (.slice ao n cp) bs ts) (hc : W.cell? ⟨vb, i, none⟩ = some (.pointer (some ⟨g, 0, none⟩))) (hi : i < n) (hb : W.heap[g]? = some (fcell F1 F2 F3)) (hf : Fn1 Y W F3 P G m) (hu : u.length ≤ 1000) (hF : FstT ts i t u) (hP : P u) :
    Calls Tryz.prog 120 #[.string (txt u), .pointer (some ⟨Bp, 0, none⟩), .pointer (some ⟨Br, 0, none⟩)] W fun e w' => e = .returned (.string (txt (G u))) ∧ K0 W w' := by
  have c0 := cellOf hp 0
  have r0 := cellOf hr 0
  have r1 := cellOf hr 1
  have b0 := cellOf hb 2
  simp at c0 r0 r1 b0
  have hii : (i : Int) < (n : Int) := by omega
  have hi0 : (0 : Int) ≤ (i : Int) := by omega
  obtain ⟨N, x, y, rfl, n1, s1⟩ := hf
  have hSS : ∀ V V' : World, (K0 W V ∧ V.cell? ⟨Bp, 0, none⟩ = some (.slice (some ⟨vb, 0, none⟩) n cap) ∧ V.cell? ⟨Br, 0, none⟩ = some (.int .i64 m) ∧ V.cell? ⟨Br, 1, none⟩ = some (.slice ao n cp) ∧ V.cell? ⟨vb, i, none⟩ = some (.pointer (some ⟨g, 0, none⟩)) ∧ V.cell? ⟨g, 2, none⟩ = some (.func (.func N) x y)) → K0 V V' → (K0 W V' ∧ V'.cell? ⟨Bp, 0, none⟩ = some (.slice (some ⟨vb, 0, none⟩) n cap) ∧ V'.cell? ⟨Br, 0, none⟩ = some (.int .i64 m) ∧ V'.cell? ⟨Br, 1, none⟩ = some (.slice ao n cp) ∧ V'.cell? ⟨vb, i, none⟩ = some (.pointer (some ⟨g, 0, none⟩)) ∧ V'.cell? ⟨g, 2, none⟩ = some (.func (.func N) x y)) := fun V V' h hk => ⟨h.1.trans hk, hk.cellz h.2.1, hk.cellz h.2.2.1, hk.cellz h.2.2.2.1, hk.cellz h.2.2.2.2.1, hk.cellz h.2.2.2.2.2⟩
  have HW : Hid (∀ V : World, (K0 W V ∧ V.cell? ⟨Bp, 0, none⟩ = some (.slice (some ⟨vb, 0, none⟩) n cap) ∧ V.cell? ⟨Br, 0, none⟩ = some (.int .i64 m) ∧ V.cell? ⟨Br, 1, none⟩ = some (.slice ao n cp) ∧ V.cell? ⟨vb, i, none⟩ = some (.pointer (some ⟨g, 0, none⟩)) ∧ V.cell? ⟨g, 2, none⟩ = some (.func (.func N) x y)) → Calls Tryz.prog 117 #[.agg #[.int .i64 m, .slice ao n cp], .string (txt u)] V fun e V' => e = .returned (.int .i64 (i : Int)) ∧ (K0 W V' ∧ V'.cell? ⟨Bp, 0, none⟩ = some (.slice (some ⟨vb, 0, none⟩) n cap) ∧ V'.cell? ⟨Br, 0, none⟩ = some (.int .i64 m) ∧ V'.cell? ⟨Br, 1, none⟩ = some (.slice ao n cp) ∧ V'.cell? ⟨vb, i, none⟩ = some (.pointer (some ⟨g, 0, none⟩)) ∧ V'.cell? ⟨g, 2, none⟩ = some (.func (.func N) x y))) := hide (fun V h => (which_ok (m := m) (hM.k0 h.1) hu hF).mono (fun e V' h2 => ⟨h2.1, hSS V V' h h2.2⟩))
  have HF : Hid (∀ V : World, (K0 W V ∧ V.cell? ⟨Bp, 0, none⟩ = some (.slice (some ⟨vb, 0, none⟩) n cap) ∧ V.cell? ⟨Br, 0, none⟩ = some (.int .i64 m) ∧ V.cell? ⟨Br, 1, none⟩ = some (.slice ao n cp) ∧ V.cell? ⟨vb, i, none⟩ = some (.pointer (some ⟨g, 0, none⟩)) ∧ V.cell? ⟨g, 2, none⟩ = some (.func (.func N) x y)) → Calls Tryz.prog N (x.push (.string (txt u)) ++ y) V fun e V' => e = .returned (.string (txt (G u))) ∧ (K0 W V' ∧ V'.cell? ⟨Bp, 0, none⟩ = some (.slice (some ⟨vb, 0, none⟩) n cap) ∧ V'.cell? ⟨Br, 0, none⟩ = some (.int .i64 m) ∧ V'.cell? ⟨Br, 1, none⟩ = some (.slice ao n cp) ∧ V'.cell? ⟨vb, i, none⟩ = some (.pointer (some ⟨g, 0, none⟩)) ∧ V'.cell? ⟨g, 2, none⟩ = some (.func (.func N) x y))) := hide (fun V h => (s1 V u (h.1.ky Y) hu).mono (fun e V' h2 => by
    obtain ⟨(⟨_, h3⟩ | ⟨h3, _⟩), h4⟩ := h2
    · exact ⟨h3, hSS V V' h h4⟩
    · exact absurd hP h3))
  have hkd : K0 W W.drew := Kp.drew _ _
  obtain ⟨r, hr'⟩ : ∃ r, G u = r := ⟨_, rfl⟩
  rw [hr'] at HF ⊢
  clear hp hr hM hb s1 hSS hF hP hr'
  unfold Ent at n1
  go_enter Tryz.func120, Tryz.ntmps120
  go_wp2_with fail
  go_region_held3 (fun V => (K0 W V ∧ V.cell? ⟨Bp, 0, none⟩ = some (.slice (some ⟨vb, 0, none⟩) n cap) ∧ V.cell? ⟨Br, 0, none⟩ = some (.int .i64 m) ∧ V.cell? ⟨Br, 1, none⟩ = some (.slice ao n cp) ∧ V.cell? ⟨vb, i, none⟩ = some (.pointer (some ⟨g, 0, none⟩)) ∧ V.cell? ⟨g, 2, none⟩ = some (.func (.func N) x y))) (go_keep) (first | (go_at_call 117; refine (unhide HW _ (by assumption)).mono ?_; rintro e w2 ⟨rfl, hS2⟩) | (refine (unhide HF _ (by assumption)).mono ?_; rintro e w3 ⟨rfl, hS3⟩))
  go_wp2
  go_ret
  exact ⟨rfl, hS3.1⟩

set_option maxRecDepth 100000 in
set_option maxHeartbeats 3200000 in
theorem ch3_no {W : World} {ts : List PT} {bs : List Nat} {m : Int} {Bp Br vb n cap cp : Nat} {ao : Option Addr} {u : List UInt8}
    (hp : W.heap[Bp]? = some (scell (.slice (some ⟨vb, 0, none⟩) n cap))) (hr : W.heap[Br]? = some (rcell m (.slice ao n cp))) (hM : MsAt W (.slice ao n cp) bs ts) (hu : u.length ≤ 1000) (hF : ∀ t, t ∈ ts → ¬ M t u) :
    Calls Tryz.prog 120 #[.string (txt u), .pointer (some ⟨Bp, 0, none⟩), .pointer (some ⟨Br, 0, none⟩)] W fun e w' => e = .panicked (misP m) ∧ K0 W w' := by
  have c0 := cellOf hp 0
  have r0 := cellOf hr 0
  have r1 := cellOf hr 1
  simp at c0 r0 r1
  have HW : Hid (∀ V : World, (K0 W V ∧ V.cell? ⟨Bp, 0, none⟩ = some (.slice (some ⟨vb, 0, none⟩) n cap) ∧ V.cell? ⟨Br, 0, none⟩ = some (.int .i64 m) ∧ V.cell? ⟨Br, 1, none⟩ = some (.slice ao n cp)) → Calls Tryz.prog 117 #[.agg #[.int .i64 m, .slice ao n cp], .string (txt u)] V fun e V' => e = .panicked (misP m) ∧ K0 W V') := hide (fun V h => (which_no (m := m) (hM.k0 h.1) hu hF).mono (fun e V' h2 => ⟨h2.1, h.1.trans h2.2⟩))
  have hkd : K0 W W.drew := Kp.drew _ _
  clear hp hr hM hF
  go_enter Tryz.func120, Tryz.ntmps120
  go_wp2_with fail
  refine wp_region_held_drew (S := fun V => (K0 W V ∧ V.cell? ⟨Bp, 0, none⟩ = some (.slice (some ⟨vb, 0, none⟩) n cap) ∧ V.cell? ⟨Br, 0, none⟩ = some (.int .i64 m) ∧ V.cell? ⟨Br, 1, none⟩ = some (.slice ao n cp))) (by kernel_rfl) ⟨hkd, by simp [*], by simp [*], by simp [*]⟩ ?_
  intro hHeld
  refine wpAnyH_take (i := 0) (v := .slice (some ⟨vb, 0, none⟩) n cap) rfl (by kernel_rfl) (by kernel_rfl) (by kernel_rfl) (fun _ _ _ h => h) (Or.inl ⟨by rfl, ?_⟩) hHeld ?_
  · intro w hSw
    go_simp
  refine wpAnyH_take (i := 1) (v := .agg #[.int .i64 m, .slice ao n cp]) rfl (by kernel_rfl) (by kernel_rfl) (by kernel_rfl) (fun _ _ _ h => h) (Or.inl ⟨by rfl, ?_⟩) hHeld ?_
  · intro w hSw
    go_simp
  refine wpAnyH_take (i := 2) (v := .string (txt u)) rfl (by kernel_rfl) (by kernel_rfl) (by kernel_rfl) (fun _ _ _ h => h) (Or.inl ⟨by rfl, ?_⟩) hHeld ?_
  · intro w hSw
    go_simp
  refine wpAnyH_take (i := 9) (v := .string (txt u)) rfl (by kernel_rfl) (by kernel_rfl) (by kernel_rfl) (fun _ _ _ h => h) (Or.inl ⟨by rfl, ?_⟩) hHeld ?_
  · intro w hSw
    go_simp
  refine wpAnyH_ready (rs := [3]) (by kernel_rfl) (by simp) ?_
  refine AllReadyH.cons rfl (fun K' hK => ?_) AllReadyH.nil
  go_simp
  refine (unhide HW _ hHeld).mono ?_
  rintro e w2 ⟨rfl, hS2⟩
  exact ⟨rfl, rfl, hS2⟩

end Go.Proofs.YtlljggefbngkeaaGreatDoor

namespace Go.Proofs.YtlljggefbngkeaaGreatDoor
open Go.RowKit Go.Shelf

set_option maxRecDepth 100000 in
set_option maxHeartbeats 3200000 in
theorem ch2_noV {W : World} {tsv : List PT} {bv : List Nat} {Bp Bv Bs n cv : Nat} {av : Option Addr} {v s : List UInt8}
    (hv : W.heap[Bv]? = some (rcell 2 (.slice av n cv))) (hMv : MsAt W (.slice av n cv) bv tsv) (hvl : v.length ≤ 1000) (hF : ∀ t, t ∈ tsv → ¬ M t v) :
    Calls Tryz.prog 118 #[.string (txt v), .string (txt s), .pointer (some ⟨Bv, 0, none⟩), .pointer (some ⟨Bs, 0, none⟩), .pointer (some ⟨Bp, 0, none⟩)] W fun e w' => e = .panicked (misP 2) ∧ K0 W w' := by
  have c0 := cellOf hv 0
  have c1 := cellOf hv 1
  simp at c0 c1
  have HV := hide (which_no (m := 2) hMv hvl hF)
  clear hv hMv hF
  go_enter Tryz.func118, Tryz.ntmps118
  go_wp2_with fail
  refine (unhide HV).mono ?_
  rintro e w1 ⟨rfl, hk1⟩
  exact ⟨rfl, rfl, hk1⟩

set_option maxRecDepth 100000 in
set_option maxHeartbeats 3200000 in
theorem ch2_noS {W : World} {tsv tss : List PT} {bv bs : List Nat} {Bp Bv Bs vb n cap cv cs : Nat} {av az : Option Addr} {v s : List UInt8}
    (hp : W.heap[Bp]? = some (scell (.slice (some ⟨vb, 0, none⟩) n cap))) (hv : W.heap[Bv]? = some (rcell 2 (.slice av n cv))) (hs : W.heap[Bs]? = some (rcell 1 (.slice az n cs))) (hMv : MsAt W (.slice av n cv) bv tsv) (hMs : MsAt W (.slice az n cs) bs tss) (hvl : v.length ≤ 1000) (hsl : s.length ≤ 1000) {i : Nat} {t : PT} (hF : FstT tsv i t v) (hG : ∀ t, t ∈ tss → ¬ M t s) :
    Calls Tryz.prog 118 #[.string (txt v), .string (txt s), .pointer (some ⟨Bv, 0, none⟩), .pointer (some ⟨Bs, 0, none⟩), .pointer (some ⟨Bp, 0, none⟩)] W fun e w' => e = .panicked (misP 1) ∧ K0 W w' := by
  have c0 := cellOf hv 0
  have c1 := cellOf hv 1
  simp at c0 c1
  have HV := hide (which_ok (m := 2) hMv hvl hF)
  have HB := hide (And.intro hp (And.intro hv hs))
  have HS := hide (fun (V : World) (hk : K0 W V) => which_no (m := 1) (hMs.k0 hk) hsl hG)
  clear hp hv hs hMv hMs hF hG
  go_enter Tryz.func118, Tryz.ntmps118
  go_wp2_with fail
  refine (unhide HV).mono ?_
  rintro e w1 ⟨rfl, hk1⟩
  have hb1 := (hk1.heap (heap_lt (unhide HB).2.2)).trans (unhide HB).2.2
  have d0 := cellOf hb1 0
  have d1 := cellOf hb1 1
  simp at d0 d1
  clear hb1 c0 c1
  go_wp2_with fail
  refine (unhide HS _ hk1).mono ?_
  rintro e w2 ⟨rfl, hk2⟩
  exact ⟨rfl, rfl, hk1.trans hk2⟩

set_option maxRecDepth 100000 in
set_option maxHeartbeats 3200000 in
theorem ch2_own {Y : Nat → Prop} {W : World} {tsv tss : List PT} {bv bs : List Nat} {Bp Bv Bs vb n cap cv cs : Nat} {av az : Option Addr} {v s : List UInt8}
    (hp : W.heap[Bp]? = some (scell (.slice (some ⟨vb, 0, none⟩) n cap))) (hv : W.heap[Bv]? = some (rcell 2 (.slice av n cv))) (hs : W.heap[Bs]? = some (rcell 1 (.slice az n cs))) (hMv : MsAt W (.slice av n cv) bv tsv) (hMs : MsAt W (.slice az n cs) bs tss) (hvl : v.length ≤ 1000) (hsl : s.length ≤ 1000) {G : List UInt8 → List UInt8 → List UInt8} {Pv Ps : List UInt8 → Prop} {i j g : Nat} {t t' tj : PT} {F1 F2 F3 : Value} (hF : FstT tsv i t v) (hG : FstT tss j t' s) (hj : tsv[j]? = some tj) (hM : M tj v) (hc : W.cell? ⟨vb, j, none⟩ = some (.pointer (some ⟨g, 0, none⟩))) (hi : j < n) (hb : W.heap[g]? = some (fcell F1 F2 F3)) (hf : Fn2 Y W F2 Pv Ps G) (hP : Pv v) (hQ : Ps s) :
    Calls Tryz.prog 118 #[.string (txt v), .string (txt s), .pointer (some ⟨Bv, 0, none⟩), .pointer (some ⟨Bs, 0, none⟩), .pointer (some ⟨Bp, 0, none⟩)] W fun e w' => e = .returned (.string (txt (G v s))) ∧ K0 W w' := by
  have c0 := cellOf hv 0
  have c1 := cellOf hv 1
  simp at c0 c1
  have HV := hide (which_ok (m := 2) hMv hvl hF)
  have HB := hide (And.intro hp (And.intro hv hs))
  have HS := hide (fun (V : World) (hk : K0 W V) => which_ok (m := 1) (hMs.k0 hk) hsl hG)
  have HH := hide (fun (V : World) (hk : K0 W V) => has_said (m := 2) (hMv.k0 hk) hj hvl)
  obtain ⟨N, x, y, rfl, n1, s1⟩ := hf
  have HN : Hid (∀ V : World, K0 W V → Calls Tryz.prog N (x ++ (#[.string (txt v), .string (txt s)] ++ y)) V fun e V' => e = .returned (.string (txt (G v s))) ∧ K0 V V') := hide (fun V hk => (s1 V v s (hk.ky Y) hvl hsl).mono (fun e V' h => by
    obtain ⟨(⟨_, _, h1⟩ | ⟨h1, _⟩ | ⟨_, h1, _⟩), h2⟩ := h
    · exact ⟨h1, h2⟩
    · exact absurd hP h1
    · exact absurd hQ h1))
  have HC := hide (And.intro hc hb)
  have HM := hide hM
  have hii : (j : Int) < (n : Int) := by omega
  clear hp hv hs hMv hMs hF hG hj s1 hc hb hM hP hQ
  unfold Ent at n1
  go_enter Tryz.func118, Tryz.ntmps118
  go_wp2_with fail
  refine (unhide HV).mono ?_
  rintro e w1 ⟨rfl, hk1⟩
  have hb1 := (hk1.heap (heap_lt (unhide HB).2.2)).trans (unhide HB).2.2
  have d0 := cellOf hb1 0
  have d1 := cellOf hb1 1
  simp at d0 d1
  clear hb1 c0 c1
  go_wp2_with fail
  refine (unhide HS _ hk1).mono ?_
  rintro e w2 ⟨rfl, hk2⟩
  have hk12 := hk1.trans hk2
  have hb2 := (hk12.heap (heap_lt (unhide HB).2.1)).trans (unhide HB).2.1
  have u0 := cellOf hb2 0
  have u1 := cellOf hb2 1
  simp at u0 u1
  clear hb2 d0 d1
  go_wp2_with fail
  refine (unhide HH _ hk12).mono ?_
  rintro e w3 ⟨⟨xb, rfl, hx⟩, hk3⟩
  have hk123 := hk12.trans hk3
  obtain rfl : xb = true := by
    cases xb with
    | true => rfl
    | false => exact absurd (hx.2 (unhide HM)) (by decide)
  have hb3 := (hk123.heap (heap_lt (unhide HB).1)).trans (unhide HB).1
  have p0 := cellOf hb3 0
  simp at p0
  have p1 := hk123.cellz (unhide HC).1
  have p2 := cellOf ((hk123.heap (heap_lt (unhide HC).2)).trans (unhide HC).2) 1
  simp at p2
  clear hx hb3 u0 u1
  go_wp2_with fail
  refine (unhide HN _ hk123).mono ?_
  rintro e w4 ⟨rfl, hk4⟩
  go_wp2
  go_ret
  exact ⟨rfl, hk123.trans hk4⟩

set_option maxRecDepth 100000 in
set_option maxHeartbeats 3200000 in
theorem ch2_new {Y : Nat → Prop} {W : World} {tsv tss : List PT} {bv bs : List Nat} {Bp Bv Bs vb n cap cv cs : Nat} {av az : Option Addr} {v s : List UInt8}
    (hp : W.heap[Bp]? = some (scell (.slice (some ⟨vb, 0, none⟩) n cap))) (hv : W.heap[Bv]? = some (rcell 2 (.slice av n cv))) (hs : W.heap[Bs]? = some (rcell 1 (.slice az n cs))) (hMv : MsAt W (.slice av n cv) bv tsv) (hMs : MsAt W (.slice az n cs) bs tss) (hvl : v.length ≤ 1000) (hsl : s.length ≤ 1000) {G : List UInt8 → List UInt8} {Pv : List UInt8 → Prop} {i j g : Nat} {t t' tj : PT} {F1 F2 F3 : Value} (hF : FstT tsv i t v) (hG : FstT tss j t' s) (hj : tsv[j]? = some tj) (hM : ¬ M tj v) (hc : W.cell? ⟨vb, i, none⟩ = some (.pointer (some ⟨g, 0, none⟩))) (hi : i < n) (hb : W.heap[g]? = some (fcell F1 F2 F3)) (hf : Fn1 Y W F3 Pv G 2) (hP : Pv v) :
    Calls Tryz.prog 118 #[.string (txt v), .string (txt s), .pointer (some ⟨Bv, 0, none⟩), .pointer (some ⟨Bs, 0, none⟩), .pointer (some ⟨Bp, 0, none⟩)] W fun e w' => e = .returned (.string (txt (G v))) ∧ K0 W w' := by
  have c0 := cellOf hv 0
  have c1 := cellOf hv 1
  simp at c0 c1
  have HV := hide (which_ok (m := 2) hMv hvl hF)
  have HB := hide (And.intro hp (And.intro hv hs))
  have HS := hide (fun (V : World) (hk : K0 W V) => which_ok (m := 1) (hMs.k0 hk) hsl hG)
  have HH := hide (fun (V : World) (hk : K0 W V) => has_said (m := 2) (hMv.k0 hk) hj hvl)
  obtain ⟨N, x, y, rfl, n1, s1⟩ := hf
  have HN : Hid (∀ V : World, K0 W V → Calls Tryz.prog N (x.push (.string (txt v)) ++ y) V fun e V' => e = .returned (.string (txt (G v))) ∧ K0 V V') := hide (fun V hk => (s1 V v (hk.ky Y) hvl).mono (fun e V' h => by
    obtain ⟨(⟨_, h1⟩ | ⟨h1, _⟩), h2⟩ := h
    · exact ⟨h1, h2⟩
    · exact absurd hP h1))
  have HC := hide (And.intro hc hb)
  have HM := hide hM
  have hii : (i : Int) < (n : Int) := by omega
  clear hp hv hs hMv hMs hF hG hj s1 hc hb hM hP
  unfold Ent at n1
  go_enter Tryz.func118, Tryz.ntmps118
  go_wp2_with fail
  refine (unhide HV).mono ?_
  rintro e w1 ⟨rfl, hk1⟩
  have hb1 := (hk1.heap (heap_lt (unhide HB).2.2)).trans (unhide HB).2.2
  have d0 := cellOf hb1 0
  have d1 := cellOf hb1 1
  simp at d0 d1
  clear hb1 c0 c1
  go_wp2_with fail
  refine (unhide HS _ hk1).mono ?_
  rintro e w2 ⟨rfl, hk2⟩
  have hk12 := hk1.trans hk2
  have hb2 := (hk12.heap (heap_lt (unhide HB).2.1)).trans (unhide HB).2.1
  have u0 := cellOf hb2 0
  have u1 := cellOf hb2 1
  simp at u0 u1
  clear hb2 d0 d1
  go_wp2_with fail
  refine (unhide HH _ hk12).mono ?_
  rintro e w3 ⟨⟨xb, rfl, hx⟩, hk3⟩
  have hk123 := hk12.trans hk3
  obtain rfl : xb = false := by
    cases xb with
    | true => exact absurd (hx.1 rfl) (unhide HM)
    | false => rfl
  have hb3 := (hk123.heap (heap_lt (unhide HB).1)).trans (unhide HB).1
  have p0 := cellOf hb3 0
  simp at p0
  have p1 := hk123.cellz (unhide HC).1
  have p2 := cellOf ((hk123.heap (heap_lt (unhide HC).2)).trans (unhide HC).2) 2
  simp at p2
  clear hx hb3 u0 u1
  go_wp2_with fail
  refine (unhide HN _ hk123).mono ?_
  rintro e w4 ⟨rfl, hk4⟩
  go_wp2
  go_ret
  exact ⟨rfl, hk123.trans hk4⟩

end Go.Proofs.YtlljggefbngkeaaGreatDoor

namespace Go.Proofs.YtlljggefbngkeaaGreatDoor
open Go.RowKit Go.Shelf

theorem sideTL_get (v : Bool) : ∀ (l : List LT) (i : Nat) (x : PT), (sideTL v l)[i]? = some x → ∃ t, l[i]? = some t ∧ x = sideT v t
  | [], i, x, h => by rw [sideTL] at h; simp at h
  | t :: l, 0, x, h => by rw [sideTL, List.getElem?_cons_zero] at h; exact ⟨t, rfl, (Option.some.inj h).symm⟩
  | t :: l, i + 1, x, h => by
    rw [sideTL, List.getElem?_cons_succ] at h
    obtain ⟨t', h1, h2⟩ := sideTL_get v l i x h
    exact ⟨t', by rw [List.getElem?_cons_succ]; exact h1, h2⟩
theorem fst_tm (v : Bool) {l : List LT} (hN : ∀ t, t ∈ l → NOk t) {i : Nat} {x : PT} {u : List UInt8} (h : FstT (sideTL v l) i x u) : ∃ t, FstM (bM v) l i t u := by
  obtain ⟨h1, h2, h3⟩ := h
  obtain ⟨t, ht, rfl⟩ := sideTL_get v l i x h1
  refine ⟨t, ht, (side_eq v t (hN t (List.mem_of_getElem? ht)) u).2 h2, fun j t' hj ht' hm => ?_⟩
  exact h3 j _ hj (sideTL_at v l j t' ht') ((side_eq v t' (hN t' (List.mem_of_getElem? ht')) u).1 hm)
theorem fst_in (v : Bool) {l : List LT} {ps : List Nat} (hl : 0 < l.length) (hN : ∀ t, t ∈ l → NOk t) {i : Nat} {x : PT} {u : List UInt8} (h : FstT (sideTL v l) i x u) : M (bM v (rowB 124 l ps)) u :=
  (rowB_alt v hl (side_eqL v l hN) u).2 ⟨x, List.mem_of_getElem? h.1, h.2.1⟩
theorem fst_out (v : Bool) {l : List LT} {ps : List Nat} (hl : 0 < l.length) (hN : ∀ t, t ∈ l → NOk t) {u : List UInt8} (h : ∀ t, t ∈ sideTL v l → ¬ M t u) : ¬ M (bM v (rowB 124 l ps)) u := fun hm => by
  obtain ⟨t, h1, h2⟩ := (rowB_alt v hl (side_eqL v l hN) u).1 hm
  exact h t h1 h2

/-- one lens of a row -/
theorem CsO.lens {Y : Nat → Prop} {w : World} {vb n cap : Nat} {gs : List Nat} {l : List LT} (h : CsO Y w (.slice (some ⟨vb, 0, none⟩) n cap) gs (l.map toB)) {i : Nat} {t : LT} (ht : l[i]? = some t) : ∃ g, w.cell? ⟨vb, i, none⟩ = some (.pointer (some ⟨g, 0, none⟩)) ∧ i < n ∧ CL Y w g (toB t) := by
  have hi := (List.getElem?_eq_some_iff.1 ht).1
  have hgl : gs.length = l.length := by rw [h.len, List.length_map]
  have hn : n = gs.length := by
    rcases h.own.2 with ⟨h', _⟩ | ⟨g', cap', cur, h', _⟩
    · simp at h'
    · injection h'
  subst hn
  obtain ⟨g, hg⟩ : ∃ g, gs[i]? = some g := ⟨_, List.getElem?_eq_getElem (by omega)⟩
  refine ⟨g, ?_, by omega, h.at_ i g (toB t) hg (by rw [List.getElem?_map, ht]; rfl)⟩
  rw [h.own.cellAt i (by omega)]
  simp [ptrs, hg]

set_option maxRecDepth 100000 in
set_option maxHeartbeats 1600000 in
theorem choice_said {Y : Nat → Prop} {w : World} {l : List LT} {ps : List Nat} {sl sls slv : Value} {gs bss bsv : List Nat} (hY : ∀ k, Y k → k < w.heap.size) (hC : CsO Y w sl gs (l.map toB)) (hS : MsO Y w sls bss (sideTL false l)) (hV : MsO Y w slv bsv (sideTL true l)) (hl : 0 < l.length) (hN : ∀ t, t ∈ l → NOk t) :
    Calls Tryz.prog 76 #[sl, .agg #[.int .i64 1, sls], .agg #[.int .i64 2, slv]] w fun e w' => ClPost Y w (rowB 124 l ps) e w' := by
  have hmf : ∀ (fn : Fn) (first cap : Array Value) (w : World), (Instr.makeFunc fn first cap).run Tryz.prog w = .ok (.func fn first cap) w := fun _ _ _ _ => rfl
  have hgl : gs.length = l.length := by rw [hC.len, List.length_map]
  have hsl : bss.length = l.length := by rw [hS.len, sideTL_len]
  have hvl : bsv.length = l.length := by rw [hV.len, sideTL_len]
  obtain ⟨vb, cap, rfl, _, _⟩ := hC.own.form (by omega)
  obtain ⟨sb, cs, rfl, _, _⟩ := hS.own.form (by omega)
  obtain ⟨ub, cu, rfl, _, _⟩ := hV.own.form (by omega)
  rw [hgl] at hC ⊢
  rw [hsl] at hS ⊢
  rw [hvl] at hV ⊢
  have HH := hide (And.intro hY (And.intro hC (And.intro hS (And.intro hV (And.intro hl hN)))))
  clear hY hC hS hV hl hN hgl hsl hvl
  go_enter Tryz.func76, Tryz.ntmps76
  go_wp2
  go_ret
  obtain ⟨hY, hC, hS, hV, hl, hN⟩ := unhide HH
  obtain ⟨w3, hw3, hs3, p0, p1, p2, p3, hg3⟩ := four_at w (.cells #[.slice (some ⟨vb, 0, none⟩) l.length cap] 112) (.cells #[.int .i64 1, .slice (some ⟨sb, 0, none⟩) l.length cs] 137) (.cells #[.int .i64 2, .slice (some ⟨ub, 0, none⟩) l.length cu] 137) (.cells #[.func (.func 116) #[] #[.pointer (some ⟨w.heap.size, 0, none⟩), .pointer (some ⟨w.heap.size + 1, 0, none⟩)], .func (.func 118) #[] #[.pointer (some ⟨w.heap.size + 2, 0, none⟩), .pointer (some ⟨w.heap.size + 1, 0, none⟩), .pointer (some ⟨w.heap.size, 0, none⟩)], .func (.func 120) #[] #[.pointer (some ⟨w.heap.size, 0, none⟩), .pointer (some ⟨w.heap.size + 2, 0, none⟩)]] 88)
  have hk0 := K0.of_grownz hg3
  have ny : ∀ k, w.heap.size ≤ k → ¬ Y k := fun k h hy => by have := hY _ hy; omega
  refine ⟨w.heap.size + 3, rfl, ?_, ?_⟩
  · rw [hw3]
    refine ⟨_, _, _, p3, ny _ (by omega), ?_, ?_, ?_⟩
    · refine ⟨_, _, _, rfl, enters_of Tryz.func116 (by kernel_rfl) rfl, fun W u hW hu => ?_⟩
      have e : (#[] : Array Value).push (.string (txt u)) ++ #[.pointer (some ⟨w.heap.size, 0, none⟩), .pointer (some ⟨w.heap.size + 1, 0, none⟩)] = #[.string (txt u), .pointer (some ⟨w.heap.size, 0, none⟩), .pointer (some ⟨w.heap.size + 1, 0, none⟩)] := by simp
      rw [e]
      have hk := (hk0.ky Y).trans hW
      rcases fst_or u (sideTL false l) with ⟨i, x, hf⟩ | hf
      · obtain ⟨t, ht⟩ := fst_tm false hN hf
        obtain ⟨g, hc, hi, f1, f2, f3, hb, _, q1, q2, q3⟩ := (hC.ky hk).lens ht.1
        refine (ch1_ok (hW.heap p0 (ny _ (by omega))) (hW.heap p1 (ny _ (by omega))) (hS.ky hk).msAt hc hi hb q1 hu hf ht.2.1).mono ?_
        rintro e w' ⟨rfl, hk'⟩
        exact ⟨.inl ⟨fst_in false hl hN hf, by rw [get_alts ht]⟩, hk'⟩
      · refine (ch1_no (hW.heap p0 (ny _ (by omega))) (hW.heap p1 (ny _ (by omega))) (hS.ky hk).msAt hu hf).mono ?_
        rintro e w' ⟨rfl, hk'⟩
        exact ⟨.inr ⟨fst_out false hl hN hf, rfl⟩, hk'⟩
    · refine ⟨_, _, _, rfl, enters_of Tryz.func118 (by kernel_rfl) rfl, fun W v s hW hv hs => ?_⟩
      have e : (#[] : Array Value) ++ (#[.string (txt v), .string (txt s)] ++ #[.pointer (some ⟨w.heap.size + 2, 0, none⟩), .pointer (some ⟨w.heap.size + 1, 0, none⟩), .pointer (some ⟨w.heap.size, 0, none⟩)]) = #[.string (txt v), .string (txt s), .pointer (some ⟨w.heap.size + 2, 0, none⟩), .pointer (some ⟨w.heap.size + 1, 0, none⟩), .pointer (some ⟨w.heap.size, 0, none⟩)] := by simp
      rw [e]
      have hk := (hk0.ky Y).trans hW
      rcases fst_or v (sideTL true l) with ⟨i, x, hf⟩ | hf
      · rcases fst_or s (sideTL false l) with ⟨j, y, hg⟩ | hg
        · obtain ⟨t, ht⟩ := fst_tm true hN hf
          obtain ⟨r, hr⟩ := fst_tm false hN hg
          have hjv := sideTL_at true l j r hr.1
          have hrn := hN r (List.mem_of_getElem? hr.1)
          rcases Classical.em (M (sideT true r) v) with hm | hm
          · obtain ⟨g, hc, hi, f1, f2, f3, hb, _, q1, q2, q3⟩ := (hC.ky hk).lens hr.1
            have hmv : M (bV (toB r)) v := (side_eq true r hrn v).2 hm
            refine (ch2_own (hW.heap p0 (ny _ (by omega))) (hW.heap p2 (ny _ (by omega))) (hW.heap p1 (ny _ (by omega))) (hV.ky hk).msAt (hS.ky hk).msAt hv hs hf hg hjv hm hc hi hb q2 hmv hr.2.1).mono ?_
            rintro e w' ⟨rfl, hk'⟩
            exact ⟨.inl ⟨fst_in true hl hN hf, fst_in false hl hN hg, by rw [put_alts_own hr hmv]⟩, hk'⟩
          · obtain ⟨g, hc, hi, f1, f2, f3, hb, _, q1, q2, q3⟩ := (hC.ky hk).lens ht.1
            have hmv : ¬ M (bV (toB r)) v := fun h => hm ((side_eq true r hrn v).1 h)
            refine (ch2_new (hW.heap p0 (ny _ (by omega))) (hW.heap p2 (ny _ (by omega))) (hW.heap p1 (ny _ (by omega))) (hV.ky hk).msAt (hS.ky hk).msAt hv hs hf hg hjv hm hc hi hb q3 ht.2.1).mono ?_
            rintro e w' ⟨rfl, hk'⟩
            exact ⟨.inl ⟨fst_in true hl hN hf, fst_in false hl hN hg, by rw [put_alts_new hr hmv ht]⟩, hk'⟩
        · refine (ch2_noS (hW.heap p0 (ny _ (by omega))) (hW.heap p2 (ny _ (by omega))) (hW.heap p1 (ny _ (by omega))) (hV.ky hk).msAt (hS.ky hk).msAt hv hs hf hg).mono ?_
          rintro e w' ⟨rfl, hk'⟩
          exact ⟨.inr (.inr ⟨fst_in true hl hN hf, fst_out false hl hN hg, rfl⟩), hk'⟩
      · refine (ch2_noV (hW.heap p2 (ny _ (by omega))) (hV.ky hk).msAt hv hf).mono ?_
        rintro e w' ⟨rfl, hk'⟩
        exact ⟨.inr (.inl ⟨fst_out true hl hN hf, rfl⟩), hk'⟩
    · refine ⟨_, _, _, rfl, enters_of Tryz.func120 (by kernel_rfl) rfl, fun W u hW hu => ?_⟩
      have e : (#[] : Array Value).push (.string (txt u)) ++ #[.pointer (some ⟨w.heap.size, 0, none⟩), .pointer (some ⟨w.heap.size + 2, 0, none⟩)] = #[.string (txt u), .pointer (some ⟨w.heap.size, 0, none⟩), .pointer (some ⟨w.heap.size + 2, 0, none⟩)] := by simp
      rw [e]
      have hk := (hk0.ky Y).trans hW
      rcases fst_or u (sideTL true l) with ⟨i, x, hf⟩ | hf
      · obtain ⟨t, ht⟩ := fst_tm true hN hf
        obtain ⟨g, hc, hi, f1, f2, f3, hb, _, q1, q2, q3⟩ := (hC.ky hk).lens ht.1
        refine (ch3_ok (hW.heap p0 (ny _ (by omega))) (hW.heap p2 (ny _ (by omega))) (hV.ky hk).msAt hc hi hb q3 hu hf ht.2.1).mono ?_
        rintro e w' ⟨rfl, hk'⟩
        exact ⟨.inl ⟨fst_in true hl hN hf, by rw [make_alts ht]⟩, hk'⟩
      · refine (ch3_no (hW.heap p0 (ny _ (by omega))) (hW.heap p2 (ny _ (by omega))) (hV.ky hk).msAt hu hf).mono ?_
        rintro e w' ⟨rfl, hk'⟩
        exact ⟨.inr ⟨fst_out true hl hN hf, rfl⟩, hk'⟩
  · rw [hw3]
    exact hk0

end Go.Proofs.YtlljggefbngkeaaGreatDoor
