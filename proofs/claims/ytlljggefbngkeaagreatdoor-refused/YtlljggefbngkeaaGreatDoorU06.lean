import Derived.Test.YtlljggefbngkeaaGreatDoorU05
namespace Go.Proofs.YtlljggefbngkeaaGreatDoor
open Go.RowKit

/-- how great a state may be -/
def St.bd (st : St) (c : Int) : Prop := (st.out.size : Int) ≤ 20 * st.i + c ∧ (st.P.length : Int) ≤ 20 * st.i + c ∧ (st.L.length : Int) ≤ 20 * st.i + c

theorem St.bd_mono {st : St} {c d : Int} (h : st.bd c) (hcd : c ≤ d) : st.bd d := by unfold St.bd at *; omega
theorem St.bd_upTo {st : St} {c : Int} (h : st.bd c) (s : ByteArray) (j : Nat) (hij : st.i ≤ j) (hj : j ≤ s.size) : (st.upTo s j).bd c := by
  have := St.upTo_out st s j hij hj
  unfold St.bd at *
  rw [St.upTo_i, St.upTo_P, St.upTo_L, this]
  omega
theorem St.bd_up {st : St} {c : Int} (h : st.bd c) (s : ByteArray) (j : Nat) (hij : st.i < j) (hj : j ≤ s.size) : (st.upTo s j).bd (c - 19) := by
  have := St.upTo_out st s j (Nat.le_of_lt hij) hj
  unfold St.bd at *
  rw [St.upTo_i, St.upTo_P, St.upTo_L, this]
  omega
theorem St.bd_spoil {st : St} {c : Int} (h : st.bd c) : st.spoil.bd c := h

/-- the reader stands, bad, at a place -/
def BadAt (w : World) (Y : Nat → Prop) (b : Nat) (s : ByteArray) (p : Nat) (c : Int) : Prop := ∃ st, RH w Y b s st ∧ st.bad = true ∧ st.i = p ∧ p ≤ s.size ∧ st.bd c

def ClassPost (Y : Nat → Prop) (b : Nat) (s : ByteArray) (st : St) (c : Int) (e : Ending) (w' : World) : Res (List UInt8) → Prop
  | .ok l j => j ≤ s.size ∧ st.i < j ∧ e = .returned (.int .i64 st.P.length) ∧ RH w' Y b s { st.upTo s j with P := st.P ++ [⟨99, txt l, []⟩] }
  | .err p => (∃ k : Nat, e = .returned (.int .i64 k)) ∧ BadAt w' Y b s p (c + 1) ∧ st.i ≤ p

theorem txt_some (l : List UInt8) (h : l ≠ []) : ((txt l).toList.isEmpty) = false := by
  rw [txt, ByteArray.toList_mk]
  cases l with
  | nil => exact absurd rfl h
  | cons x l => rfl
theorem txt_none : ((txt []).toList.isEmpty) = true := by
  rw [txt, ByteArray.toList_mk]; rfl

theorem St.P_le {st : St} {c : Int} {s : ByteArray} (hs : s.size ≤ 120) (hc : c ≤ 5000) (hi : st.i ≤ s.size) (hd : st.bd c) : st.P.length ≤ 100000 := by
  unfold St.bd at hd; omega
theorem St.L_le {st : St} {c : Int} {s : ByteArray} (hs : s.size ≤ 120) (hc : c ≤ 5000) (hi : st.i ≤ s.size) (hd : st.bd c) : st.L.length ≤ 100000 := by
  unfold St.bd at hd; omega
theorem St.out_le {st : St} {c : Int} {s : ByteArray} (hs : s.size ≤ 120) (hc : c ≤ 5000) (hi : st.i ≤ s.size) (hd : st.bd c) : st.out.size ≤ 100000 := by
  unfold St.bd at hd; omega
theorem St.bd_lay {st : St} {c : Int} (hd : st.bd c) (p : Pat) : St.bd { st with P := st.P ++ [p] } (c + 1) := by
  unfold St.bd at *
  simp
  omega

/-- the loop of the spans -/
def ClassRel (w : World) (Y : Nat → Prop) (b : Nat) (s : ByteArray) (st : St) (r : Res (List UInt8)) (gk : Nat) (setv : Value) (wv : World) : Prop :=
  ∃ j l, setv = .string (txt l) ∧ Kp Y w wv ∧ st.i ≤ j ∧ j ≤ s.size ∧ l.length ≤ 300 * j ∧
    ((RH wv Y b s (st.upTo s j) ∧ s.size - j < gk ∧ (∃ m, s.size - j < m ∧ r = gSpans s m j l) ∧ (l = [] ∨ pk s j ≠ 93)) ∨
     (RH wv Y b s (st.upTo s j) ∧ l ≠ [] ∧ pk s j = 93 ∧ r = .ok l (j + 1)) ∨
     (RH wv Y b s (st.upTo s j).spoil ∧ r = .err j))

theorem ClassRel_step {w : World} {Y : Nat → Prop} {b : Nat} {s : ByteArray} {st : St} {r : Res (List UInt8)} {j nj gk m' : Nat} {l' : List UInt8} {wv : World} (hjn : j < nj) (hn : nj ≤ s.size) (hij : st.i ≤ j) (hl : l'.length ≤ 300 * nj) (hl0 : l' ≠ []) (hgk : s.size - nj < gk) (hm : s.size - j < m' + 1)
    (hr : r = if pk s nj = 93 then .ok l' (nj + 1) else gSpans s m' nj l') (hR : RH wv Y b s (st.upTo s nj)) (hK : Kp Y w wv) : ClassRel w Y b s st r gk (.string (txt l')) wv := by
  refine ⟨nj, l', rfl, hK, by omega, hn, hl, ?_⟩
  by_cases h93 : pk s nj = 93
  · rw [if_pos h93] at hr
    exact Or.inr (Or.inl ⟨hR, hl0, h93, hr⟩)
  · rw [if_neg h93] at hr
    exact Or.inl ⟨hR, hgk, ⟨m', by omega, hr⟩, Or.inr h93⟩

theorem ClassRel_one {w : World} {Y : Nat → Prop} {b : Nat} {s : ByteArray} {st : St} {r : Res (List UInt8)} {j m' an : Nat} {a1 : Int} {l : List UInt8} {wv : World} (hjs : j < s.size) (hij : st.i ≤ j) (hl : l.length ≤ 300 * j) (hm : s.size - j < m' + 1) (hsg : signI (an : Int) = true) (_ha : (an : Int) ≤ 255) (_h0 : pk s j = an) (h1 : pk s (j + 1) = a1)
    (hr : r = if a1 = 93 then .ok (l ++ upto (an : Int) (an : Int)) (j + 2) else gSpans s m' (j + 1) (l ++ upto (an : Int) (an : Int))) (hR : RH wv Y b s (st.upTo s (j + 1))) (hK : Kp Y w wv) : ClassRel w Y b s st r (s.size - j) (.string (txt (l ++ uptoN an (an + 1)))) wv := by
  have hu : upto (an : Int) (an : Int) = uptoN an (an + 1) := by simp [upto]
  have hne : upto (an : Int) (an : Int) ≠ [] := upto_ne hsg (Int.le_refl _)
  rw [hu] at hr hne
  have := uptoN_length an (an + 1)
  refine ClassRel_step (j := j) (nj := j + 1) (m' := m') (by omega) (by omega) hij (by rw [List.length_append]; omega) (by simp [hne]) (by omega) hm ?_ hR hK
  rw [h1]; exact hr

theorem ClassRel_two {w : World} {Y : Nat → Prop} {b : Nat} {s : ByteArray} {st : St} {r : Res (List UInt8)} {j m' an bn : Nat} {l : List UInt8} {wv : World} (hjs : j + 3 ≤ s.size) (hij : st.i ≤ j) (hl : l.length ≤ 300 * j) (hm : s.size - j < m' + 1) (hsg : signI (an : Int) = true) (hab : an ≤ bn) (hb : bn ≤ 255) (_h0 : pk s j = an)
    (hr : r = if pk s (j + 3) = 93 then .ok (l ++ upto (an : Int) (bn : Int)) (j + 4) else gSpans s m' (j + 3) (l ++ upto (an : Int) (bn : Int))) (hR : RH wv Y b s (st.upTo s (j + 3))) (hK : Kp Y w wv) : ClassRel w Y b s st r (s.size - j) (.string (txt (l ++ uptoN an (bn + 1)))) wv := by
  have hu : upto (an : Int) (bn : Int) = uptoN an (bn + 1) := by simp [upto]
  have hne : upto (an : Int) (bn : Int) ≠ [] := upto_ne hsg (by omega)
  rw [hu] at hr hne
  have := uptoN_length an (bn + 1)
  exact ClassRel_step (j := j) (nj := j + 3) (m' := m') (by omega) (by omega) hij (by rw [List.length_append]; omega) (by simp [hne]) (by omega) hm hr hR hK

set_option maxRecDepth 100000 in
set_option maxHeartbeats 3200000 in
theorem Class {w : World} {Y : Nat → Prop} {b : Nat} {s : ByteArray} {st : St} {c : Int} (h : RH w Y b s st) (hs : s.size ≤ 120) (hb : st.bad = false) (hi : st.i ≤ s.size) (hd : st.bd c) (hc : c ≤ 5000) (hY : ∀ k, Y k → k < w.heap.size) (n : Nat) (hn : s.size - st.i < n) :
    Calls Tryz.prog 191 #[.pointer (some ⟨b, 0, none⟩)] w fun e w' => Kp Y w w' ∧ ClassPost Y b s st c e w' (gSpans s n st.i []) := by
  generalize hr : gSpans s n st.i [] = r
  have H0 : Hid (ClassRel w Y b s st r (s.size - st.i + 1) (.string ⟨#[]⟩) w) := by
    refine ⟨st.i, [], rfl, Kp.refl _ _, Nat.le_refl _, hi, by simp, Or.inl ⟨?_, by omega, ⟨n, hn, hr.symm⟩, Or.inl rfl⟩⟩
    rw [St.upTo_self]; exact h
  have HD := hide (And.intro hb (And.intro hi hd))
  clear h hb hi hd hn hr
  go_enter Tryz.func191, Tryz.ntmps191
  go_wp2_with fail
  go_loopg [3] (s.size - st.i + 1) (fun gk setv wv => ClassRel w Y b s st r gk setv wv)
  case atStart => exact unhide H0
  case round =>
    clear H0
    obtain ⟨j, l, rfl, hK, hij, hj, hl, hcase⟩ := hrel
    have HI := hide (And.intro hK (And.intro hij hl))
    clear hK hij hl
    rcases hcase with ⟨hR, hm, ⟨m, hm2, hg⟩, hor⟩ | ⟨hR, hl0, hp, hg⟩ | ⟨hR, hg⟩
    · obtain ⟨m', rfl⟩ : ∃ m', m = m' + 1 := ⟨m - 1, by omega⟩
      have HG := hide hg
      clear hg
      have c2 := hR.c2
      rw [St.upTo_bad, (unhide HD).1] at c2
      have HP := hide (PeekR hR hs hj)
      rw [St.upTo_bad, (unhide HD).1, St.upTo_i, pk_eq] at HP
      cases hsg : signI (pk s j) with
      | false =>
        have HS1 := hide (fun (W : World) (hW : RH W Y b s (st.upTo s j)) => SignNo hW hs hj (by rw [St.upTo_bad, (unhide HD).1, St.upTo_i, pk_eq]; exact hsg))
        have HP1 := hide (fun (W : World) (hW : RH W Y b s (st.upTo s j).spoil) => PeekR hW hs hj)
        rw [show (st.upTo s j).spoil.bad = true from rfl, peekI_bad] at HP1
        have HR := hide (gSpans_no s m' j l hsg)
        rw [← unhide HG] at HR
        have hq : (pk s j != 93) = true ∨ ((pk s j != 93) = false ∧ l = []) := by
          rcases hor with h0 | h0
          · by_cases h1 : pk s j = 93
            · exact Or.inr ⟨by simp [h1], h0⟩
            · exact Or.inl (by rw [bne_iff_ne]; exact h1)
          · exact Or.inl (by rw [bne_iff_ne]; exact h0)
        clear hsg HG hor
        generalize pk s j = a at *
        rcases hq with q1 | ⟨q1, rfl⟩
        · go_wp2_with (go_at_call 58; refine (unhide HP).mono ?_; rintro e w1 ⟨rfl, hR1, hK1, hh1⟩)
          refine (unhide HS1 _ hR1).mono ?_
          rintro e w2 ⟨rfl, hR2, hK2⟩
          go_wp2_with (go_at_call 58; refine (unhide HP1 _ hR2).mono ?_; rintro e w3 ⟨rfl, hR3, hK3, hh3⟩)
          have c3 := hR3.c2
          rw [show (st.upTo s j).spoil.bad = true from rfl] at c3
          go_loopg [3, 7] 0 (fun gk setv cv wv => setv = .string (txt l) ∧ cv = .int .i64 0 ∧ wv = w3)
          case atStart => exact ⟨rfl, rfl, rfl⟩
          case round =>
            obtain ⟨rfl, rfl, rfl⟩ := hrel
            go_wp2_with fail
            go_roundg (s.size - j)
            case measure => exact hm
            case rel => exact ⟨j, l, rfl, (((unhide HI).1.trans hK1).trans hK2).trans hK3, (unhide HI).2.1, hj, (unhide HI).2.2, Or.inr (Or.inr ⟨hR3, unhide HR⟩)⟩
        · have q2 := txt_none
          go_wp2_with (go_at_call 58; refine (unhide HP).mono ?_; rintro e w1 ⟨rfl, hR1, hK1, hh1⟩)
          refine (unhide HS1 _ hR1).mono ?_
          rintro e w2 ⟨rfl, hR2, hK2⟩
          go_wp2_with (go_at_call 58; refine (unhide HP1 _ hR2).mono ?_; rintro e w3 ⟨rfl, hR3, hK3, hh3⟩)
          have c3 := hR3.c2
          rw [show (st.upTo s j).spoil.bad = true from rfl] at c3
          go_loopg [3, 7] 0 (fun gk setv cv wv => setv = .string (txt []) ∧ cv = .int .i64 0 ∧ wv = w3)
          case atStart => exact ⟨rfl, rfl, rfl⟩
          case round =>
            obtain ⟨rfl, rfl, rfl⟩ := hrel
            go_wp2_with fail
            go_roundg (s.size - j)
            case measure => exact hm
            case rel => exact ⟨j, [], rfl, (((unhide HI).1.trans hK1).trans hK2).trans hK3, (unhide HI).2.1, hj, (unhide HI).2.2, Or.inr (Or.inr ⟨hR3, unhide HR⟩)⟩
      | true =>
        have hjs := pk_sign_lt hsg
        have habd := signI_bd hsg
        have q1 : (pk s j != 93) = true := by
          rw [bne_iff_ne]; intro e; rw [e] at hsg; revert hsg; decide
        have HS1 := hide (fun (W : World) (hW : RH W Y b s (st.upTo s j)) => SignOk hW hs hjs (St.out_le hs hc hj (St.bd_upTo (unhide HD).2.2 s j (unhide HI).2.1 hj)) (unhide HD).1 hsg)
        rw [St.upTo_took st s j (unhide HI).2.1 hjs, St.upTo_i, pk_eq] at HS1
        have HP1 := hide (fun (W : World) (hW : RH W Y b s (st.upTo s (j + 1))) => PeekR hW hs hjs)
        rw [St.upTo_bad, (unhide HD).1, St.upTo_i, pk_eq] at HP1
        by_cases h45 : pk s (j + 1) = 45
        · have hj1 : j + 1 < s.size := pk_lt (by rw [h45]; decide)
          have HT := hide (fun (W : World) (hW : RH W Y b s (st.upTo s (j + 1))) => TakeOk hW hs hj1 (St.out_le hs hc hjs (St.bd_upTo (unhide HD).2.2 s (j + 1) (Nat.le_succ_of_le (unhide HI).2.1) hjs)) (unhide HD).1)
          rw [St.upTo_took st s (j + 1) (Nat.le_succ_of_le (unhide HI).2.1) hj1] at HT
          have HP2 := hide (fun (W : World) (hW : RH W Y b s (st.upTo s (j + 2))) => PeekR hW hs hj1)
          rw [St.upTo_bad, (unhide HD).1, St.upTo_i, pk_eq] at HP2
          have HSG2 := hide (fun (W : World) => sign_any (pk s (j + 2)) W)
          rw [h45] at HP1
          have H45 := hide h45
          clear h45
          cases hs2 : signI (pk s (j + 2)) with
          | true =>
            have hj2 := pk_sign_lt hs2
            have hbbd := signI_bd hs2
            rw [hs2] at HSG2
            by_cases hlt : pk s (j + 2) < pk s j
            · have HR := hide (gSpans_bad s m' j l hsg (unhide H45) (Or.inr hlt))
              rw [← unhide HG] at HR
              have HT2 := hide (fun (W : World) (hW : RH W Y b s (st.upTo s (j + 2)).spoil) => TakeNo hW hs hj1 (Or.inl rfl))
              clear hs2 hsg HG hor H45
              generalize pk s j = a at *
              generalize pk s (j + 2) = a2 at *
              obtain ⟨an, rfl⟩ := Int.eq_ofNat_of_zero_le (show 0 ≤ a by omega)
              have hlt' : (a2 : Int) < (an : Int) := by omega
              clear hlt
              go_wp2_with (go_at_call 58; refine (unhide HP).mono ?_; rintro e w1 ⟨rfl, hR1, hK1, hh1⟩)
              refine (unhide HS1 _ hR1).mono ?_
              rintro e w2 ⟨rfl, hR2, hK2⟩
              go_wp2_with (go_at_call 58; refine (unhide HP1 _ hR2).mono ?_; rintro e w3 ⟨rfl, hR3, hK3, hh3⟩)
              refine (unhide HT _ hR3).mono ?_
              rintro e w4 ⟨rfl, hR4, hK4⟩
              go_wp2_with (first | (go_at_call 58; refine (unhide HP2 _ hR4).mono ?_; rintro e w5 ⟨rfl, hR5, hK5, hh5⟩) | (go_at_call 182; refine (unhide HSG2 _).mono ?_; rintro e w5' ⟨rfl, rfl⟩))
              refine (unhide HP2 _ hR5).mono ?_
              rintro e w6 ⟨rfl, hR6, hK6, hh6⟩
              have c6 := hR6.c2
              have f6 := hR6.fz 2
              have q3 : decide ((a2 : Int) < (an : Int)) = true := by simp; omega
              go_wp2_with fail
              have hR7 := hR6.setBad
              refine (unhide HT2 _ hR7).mono ?_
              rintro e w8 ⟨rfl, hR8, hK8⟩
              have c8 := hR8.c2
              rw [show (st.upTo s (j + 2)).spoil.spoil.bad = true from rfl] at c8
              have q5 : decide ((an : Int) ≤ 0) = false := by simp; omega
              go_wp2_with fail
              go_loopg [3, 7] 0 (fun gk setv cv wv => setv = .string (txt l) ∧ cv = .int .i64 an ∧ wv = w8)
              case atStart => exact ⟨rfl, rfl, rfl⟩
              case round =>
                obtain ⟨rfl, rfl, rfl⟩ := hrel
                go_wp2_with fail
                go_roundg (s.size - j)
                case measure => exact hm
                case rel => exact ⟨j + 2, l, rfl, (((((((unhide HI).1.trans hK1).trans hK2).trans hK3).trans hK4).trans hK5).trans hK6).trans ((Kp.set _ _ _ _ hR6.nb).trans hK8), Nat.le_trans (unhide HI).2.1 (by omega), hj1, Nat.le_trans (unhide HI).2.2 (by omega), Or.inr (Or.inr ⟨hR8, unhide HR⟩)⟩
            · have hj3 : j + 3 ≤ s.size := hj2
              have HT2 := hide (fun (W : World) (hW : RH W Y b s (st.upTo s (j + 2))) => TakeOk hW hs hj2 (St.out_le hs hc hj1 (St.bd_upTo (unhide HD).2.2 s (j + 2) (Nat.le_trans (unhide HI).2.1 (by omega)) hj1)) (unhide HD).1)
              rw [St.upTo_took st s (j + 2) (Nat.le_trans (unhide HI).2.1 (by omega)) hj2, St.upTo_i, pk_eq] at HT2
              have HR := hide (gSpans_two s m' j l hsg (unhide H45) hs2 (by omega))
              rw [← unhide HG] at HR
              have Hsg := hide hsg
              clear hs2 hsg HG hor H45
              have hge : pk s j ≤ pk s (j + 2) := by omega
              clear hlt
              generalize hpa : pk s j = a at *
              generalize pk s (j + 2) = a2 at *
              have Hpa := hide hpa
              clear hpa
              obtain ⟨an, rfl⟩ := Int.eq_ofNat_of_zero_le (show 0 ≤ a by omega)
              obtain ⟨bn, rfl⟩ := Int.eq_ofNat_of_zero_le (show 0 ≤ a2 by omega)
              have hab : an ≤ bn := by omega
              go_wp2_with (go_at_call 58; refine (unhide HP).mono ?_; rintro e w1 ⟨rfl, hR1, hK1, hh1⟩)
              refine (unhide HS1 _ hR1).mono ?_
              rintro e w2 ⟨rfl, hR2, hK2⟩
              go_wp2_with (go_at_call 58; refine (unhide HP1 _ hR2).mono ?_; rintro e w3 ⟨rfl, hR3, hK3, hh3⟩)
              refine (unhide HT _ hR3).mono ?_
              rintro e w4 ⟨rfl, hR4, hK4⟩
              go_wp2_with (first | (go_at_call 58; refine (unhide HP2 _ hR4).mono ?_; rintro e w5 ⟨rfl, hR5, hK5, hh5⟩) | (go_at_call 182; refine (unhide HSG2 _).mono ?_; rintro e w5' ⟨rfl, rfl⟩))
              refine (unhide HP2 _ hR5).mono ?_
              rintro e w6 ⟨rfl, hR6, hK6, hh6⟩
              have q3 : decide ((bn : Int) < (an : Int)) = false := by simp; omega
              go_wp2_with fail
              refine (unhide HT2 _ hR6).mono ?_
              rintro e w7 ⟨rfl, hR7, hK7⟩
              go_wp2_with fail
              go_loopg [3, 7] (bn + 1) (fun gk setv cv wv => ∃ k : Nat, cv = .int .i64 k ∧ an ≤ k ∧ k ≤ bn + 1 ∧ setv = .string (txt (l ++ uptoN an k)) ∧ bn + 1 - k ≤ gk ∧ RH wv Y b s (st.upTo s (j + 3)) ∧ Kp Y w wv)
              case atStart => exact ⟨an, rfl, Nat.le_refl _, by omega, by rw [uptoN_self, List.append_nil], by omega, hR7, ((((((unhide HI).1.trans hK1).trans hK2).trans hK3).trans hK4).trans hK5).trans (hK6.trans hK7)⟩
              case round =>
                obtain ⟨k, rfl, hk1, hk2, rfl, hgk, hR8, hK8⟩ := hrel
                have c4 := hR8.c2
                rw [St.upTo_bad, (unhide HD).1] at c4
                have HK8 := hide (And.intro hgk (And.intro hR8 hK8))
                clear hgk hR8 hK8
                by_cases hkb : k ≤ bn
                · have hul := uptoN_length an k
                  have hno : ¬ 9223372036854775807 < (txt (l ++ uptoN an k)).size + 1 := by
                    have := (unhide HI).2.2
                    rw [txt_size, List.length_append]
                    omega
                  have hcv := conv1i (k : Int) (by omega) (by omega)
                  have HSG := hide (fun (W : World) => sign_any (k : Int) W)
                  cases hsk : signI (k : Int) with
                  | true =>
                    rw [hsk] at HSG
                    have HU := hide (uptoN_yes an k hk1 hsk)
                    clear hsk hul
                    generalize uptoN an k = u at *
                    go_wp2_with (go_at_call 182; refine (unhide HSG _).mono ?_; rintro e w5 ⟨rfl, rfl⟩)
                    go_roundg (bn - k)
                    case measure => have := (unhide HK8).1; omega
                    case rel =>
                      refine ⟨k + 1, by go_num, by omega, by omega, ?_, by omega, (unhide HK8).2.1.alloc _, (unhide HK8).2.2.trans (Kp.alloc _ _ _)⟩
                      rw [unhide HU, txt_snoc, List.append_assoc]
                  | false =>
                    rw [hsk] at HSG
                    have HU := hide (uptoN_no an k hk1 hsk)
                    clear hsk hul
                    generalize uptoN an k = u at *
                    go_wp2_with (go_at_call 182; refine (unhide HSG _).mono ?_; rintro e w5 ⟨rfl, rfl⟩)
                    go_roundg (bn - k)
                    case measure => have := (unhide HK8).1; omega
                    case rel => exact ⟨k + 1, by go_num, by omega, by omega, by rw [unhide HU], by omega, (unhide HK8).2.1, (unhide HK8).2.2⟩
                · obtain rfl : k = bn + 1 := by omega
                  have hlen := uptoN_length an (bn + 1)
                  go_wp2_with fail
                  go_roundg (s.size - j)
                  case measure => omega
                  case rel => exact ClassRel_two hj3 (unhide HI).2.1 (unhide HI).2.2 hm2 (unhide Hsg) hab (by omega) (unhide Hpa) (unhide HR) (unhide HK8).2.1 (unhide HK8).2.2
          | false =>
            rw [hs2] at HSG2
            have HR := hide (gSpans_bad s m' j l hsg (unhide H45) (Or.inl hs2))
            rw [← unhide HG] at HR
            have HT2 := hide (fun (W : World) (hW : RH W Y b s (st.upTo s (j + 2)).spoil) => TakeNo hW hs hj1 (Or.inl rfl))
            clear hs2 hsg HG hor H45
            generalize pk s j = a at *
            generalize pk s (j + 2) = a2 at *
            obtain ⟨an, rfl⟩ := Int.eq_ofNat_of_zero_le (show 0 ≤ a by omega)
            go_wp2_with (go_at_call 58; refine (unhide HP).mono ?_; rintro e w1 ⟨rfl, hR1, hK1, hh1⟩)
            refine (unhide HS1 _ hR1).mono ?_
            rintro e w2 ⟨rfl, hR2, hK2⟩
            go_wp2_with (go_at_call 58; refine (unhide HP1 _ hR2).mono ?_; rintro e w3 ⟨rfl, hR3, hK3, hh3⟩)
            refine (unhide HT _ hR3).mono ?_
            rintro e w4 ⟨rfl, hR4, hK4⟩
            go_wp2_with (go_at_call 58; refine (unhide HP2 _ hR4).mono ?_; rintro e w5 ⟨rfl, hR5, hK5, hh5⟩)
            refine (unhide HSG2 _).mono ?_
            rintro e w5' ⟨rfl, rfl⟩
            have c6 := hR5.c2
            have f6 := hR5.fz 2
            go_wp2_with fail
            have hR7 := hR5.setBad
            refine (unhide HT2 _ hR7).mono ?_
            rintro e w8 ⟨rfl, hR8, hK8⟩
            have c8 := hR8.c2
            rw [show (st.upTo s (j + 2)).spoil.spoil.bad = true from rfl] at c8
            have q5 : decide ((an : Int) ≤ 0) = false := by simp; omega
            go_wp2_with fail
            go_loopg [3, 7] 0 (fun gk setv cv wv => setv = .string (txt l) ∧ cv = .int .i64 an ∧ wv = w8)
            case atStart => exact ⟨rfl, rfl, rfl⟩
            case round =>
              obtain ⟨rfl, rfl, rfl⟩ := hrel
              go_wp2_with fail
              go_roundg (s.size - j)
              case measure => exact hm
              case rel => exact ⟨j + 2, l, rfl, ((((((unhide HI).1.trans hK1).trans hK2).trans hK3).trans hK4).trans hK5).trans ((Kp.set _ _ _ _ hR5.nb).trans hK8), Nat.le_trans (unhide HI).2.1 (by omega), hj1, Nat.le_trans (unhide HI).2.2 (by omega), Or.inr (Or.inr ⟨hR8, unhide HR⟩)⟩
        · have q2 : (pk s (j + 1) == 45) = false := by simpa using h45
          have HR := hide (gSpans_one s m' j l hsg h45)
          rw [← unhide HG] at HR
          have Hsg := hide hsg
          clear h45 hsg HG hor
          generalize hpa : pk s j = a at *
          generalize hpb : pk s (j + 1) = a1 at *
          have Hpa := hide (And.intro hpa hpb)
          clear hpa hpb
          obtain ⟨an, rfl⟩ := Int.eq_ofNat_of_zero_le (show 0 ≤ a by omega)
          go_wp2_with (go_at_call 58; refine (unhide HP).mono ?_; rintro e w1 ⟨rfl, hR1, hK1, hh1⟩)
          refine (unhide HS1 _ hR1).mono ?_
          rintro e w2 ⟨rfl, hR2, hK2⟩
          go_wp2_with (go_at_call 58; refine (unhide HP1 _ hR2).mono ?_; rintro e w3 ⟨rfl, hR3, hK3, hh3⟩)
          go_loopg [3, 7] (an + 1) (fun gk setv cv wv => ∃ k : Nat, cv = .int .i64 k ∧ an ≤ k ∧ k ≤ an + 1 ∧ setv = .string (txt (l ++ uptoN an k)) ∧ an + 1 - k ≤ gk ∧ RH wv Y b s (st.upTo s (j + 1)) ∧ Kp Y w wv)
          case atStart => exact ⟨an, rfl, Nat.le_refl _, by omega, by rw [uptoN_self, List.append_nil], by omega, hR3, (((unhide HI).1.trans hK1).trans hK2).trans hK3⟩
          case round =>
            obtain ⟨k, rfl, hk1, hk2, rfl, hgk, hR4, hK4⟩ := hrel
            have c4 := hR4.c2
            rw [St.upTo_bad, (unhide HD).1] at c4
            have HK4 := hide (And.intro hgk (And.intro hR4 hK4))
            clear hgk hR4 hK4
            by_cases hkb : k ≤ an
            · have hul := uptoN_length an k
              have hno : ¬ 9223372036854775807 < (txt (l ++ uptoN an k)).size + 1 := by
                have := (unhide HI).2.2
                rw [txt_size, List.length_append]
                omega
              have hcv := conv1i (k : Int) (by omega) (by omega)
              have HSG := hide (fun (W : World) => sign_any (k : Int) W)
              cases hsk : signI (k : Int) with
              | true =>
                rw [hsk] at HSG
                have HU := hide (uptoN_yes an k hk1 hsk)
                clear hsk hul
                generalize uptoN an k = u at *
                go_wp2_with (go_at_call 182; refine (unhide HSG _).mono ?_; rintro e w5 ⟨rfl, rfl⟩)
                go_roundg (an - k)
                case measure => have := (unhide HK4).1; omega
                case rel =>
                  refine ⟨k + 1, by go_num, by omega, by omega, ?_, by omega, (unhide HK4).2.1.alloc _, (unhide HK4).2.2.trans (Kp.alloc _ _ _)⟩
                  rw [unhide HU, txt_snoc, List.append_assoc]
              | false =>
                rw [hsk] at HSG
                have HU := hide (uptoN_no an k hk1 hsk)
                clear hsk hul
                generalize uptoN an k = u at *
                go_wp2_with (go_at_call 182; refine (unhide HSG _).mono ?_; rintro e w5 ⟨rfl, rfl⟩)
                go_roundg (an - k)
                case measure => have := (unhide HK4).1; omega
                case rel => exact ⟨k + 1, by go_num, by omega, by omega, by rw [unhide HU], by omega, (unhide HK4).2.1, (unhide HK4).2.2⟩
            · obtain rfl : k = an + 1 := by omega
              have hlen := uptoN_length an (an + 1)
              go_wp2_with fail
              go_roundg (s.size - j)
              case measure => omega
              case rel => exact ClassRel_one hjs (unhide HI).2.1 (unhide HI).2.2 hm2 (unhide Hsg) habd.2 (unhide Hpa).1 (unhide Hpa).2 (unhide HR) (unhide HK4).2.1 (unhide HK4).2.2
    · have HG := hide hg
      clear hg
      have c2 := hR.c2
      rw [St.upTo_bad, (unhide HD).1] at c2
      have q1 : (pk s j != 93) = false := by simp [hp]
      have q2 : ((txt l).toList.isEmpty) = false := txt_some l hl0
      have HP := hide (PeekR hR hs hj)
      rw [St.upTo_bad, (unhide HD).1, St.upTo_i, pk_eq, hp] at HP
      have Hp := hide hp
      clear hp
      go_wp2_with (go_at_call 58; refine (unhide HP).mono ?_; rintro e w' ⟨rfl, hR1, hK1, hh1⟩)
      have hjs : j < s.size := pk_lt (by rw [unhide Hp]; decide)
      have ho : (st.upTo s j).out.size ≤ 100000 := St.out_le hs hc hj (St.bd_upTo (unhide HD).2.2 s j (unhide HI).2.1 hj)
      have HE := hide (EatOk 93 hR1 hs hjs ho (unhide HD).1 (unhide Hp))
      rw [St.upTo_took st s j (unhide HI).2.1 hjs] at HE
      refine (unhide HE).mono ?_
      rintro e w2 ⟨rfl, hR2, hK2⟩
      go_wp2_with fail
      have hPl : (st.upTo s (j + 1)).P.length ≤ 100000 := St.P_le (st := st) hs hc (unhide HD).2.1 (unhide HD).2.2
      have hY2 : ∀ k, Y k → k < w2.heap.size := fun k hk => by have := hY k hk; have := (((unhide HI).1.trans hK1).trans hK2).size; omega
      refine (Lay ⟨99, txt l, []⟩ (.slice none 0 0) hR2 hPl hY2 (World.ownsRow_nil _ _ _ _) (by intro k hk; cases hk)).mono ?_
      rintro e w3 ⟨rfl, hR3, hK3⟩
      go_wp2
      go_ret
      refine ⟨(((unhide HI).1.trans hK1).trans hK2).trans hK3, ?_⟩
      rw [unhide HG]
      exact ⟨hjs, Nat.lt_succ_of_le (unhide HI).2.1, rfl, hR3⟩
    · have c2 := hR.c2
      have HG := hide hg
      clear hg
      simp [St.spoil] at c2
      go_wp2_with fail
      have q1 : peekI s (st.upTo s j).spoil.i (st.upTo s j).spoil.bad ≠ 93 := by simp [St.spoil, peekI]
      refine (EatNo 93 hR hs hj q1).mono ?_
      rintro e w2 ⟨rfl, hR2, hK2⟩
      go_wp2_with fail
      have hPl : (st.upTo s j).spoil.spoil.P.length ≤ 100000 := St.P_le (st := st) hs hc (unhide HD).2.1 (unhide HD).2.2
      have hY2 : ∀ k, Y k → k < w2.heap.size := fun k hk => by have := hY k hk; have := ((unhide HI).1.trans hK2).size; omega
      refine (Lay ⟨99, txt l, []⟩ (.slice none 0 0) hR2 hPl hY2 (World.ownsRow_nil _ _ _ _) (by intro k hk; cases hk)).mono ?_
      rintro e w3 ⟨rfl, hR3, hK3⟩
      go_wp2
      go_ret
      refine ⟨((unhide HI).1.trans hK2).trans hK3, ?_⟩
      rw [unhide HG]
      exact ⟨⟨_, rfl⟩, ⟨_, hR3, rfl, rfl, hj, St.bd_lay (St.bd_spoil (St.bd_spoil (St.bd_upTo (unhide HD).2.2 s j (unhide HI).2.1 hj))) _⟩, (unhide HI).2.1⟩

end Go.Proofs.YtlljggefbngkeaaGreatDoor

namespace Go.Proofs.YtlljggefbngkeaaGreatDoor
open Go.RowKit

mutual
/-- a tree laid into a list of patterns: its number, and the list -/
def enc : PT → List Pat → Nat × List Pat
  | .chr l, P => (P.length, P ++ [⟨99, txt l, []⟩])
  | .seq l, P => ((encL l P).2.length, (encL l P).2 ++ [⟨115, ⟨#[]⟩, (encL l P).1⟩])
  | .alt l, P => ((encL l P).2.length, (encL l P).2 ++ [⟨97, ⟨#[]⟩, (encL l P).1⟩])
  | .rep c t, P => ((enc t P).2.length, (enc t P).2 ++ [⟨c, ⟨#[]⟩, [(enc t P).1]⟩])
def encL : List PT → List Pat → List Nat × List Pat
  | [], P => ([], P)
  | t :: l, P => ((enc t P).1 :: (encL l (enc t P).2).1, (encL l (enc t P).2).2)
end

theorem encL_nil (P : List Pat) : encL [] P = ([], P) := by rw [encL]
theorem encL_snoc : ∀ (l : List PT) (t : PT) (P : List Pat), encL (l ++ [t]) P = ((encL l P).1 ++ [(enc t (encL l P).2).1], (enc t (encL l P).2).2)
  | [], t, P => by simp [encL]
  | u :: l, t, P => by
    rw [List.cons_append, encL, encL, encL_snoc l t (enc u P).2]; rfl

theorem encL_len : ∀ (l : List PT) (P : List Pat), (encL l P).1.length = l.length
  | [], P => by rw [encL]; rfl
  | u :: l, P => by rw [encL, List.length_cons, encL_len l, List.length_cons]

/-! facts of the grammar's functions, an arm each -/
section
variable (s : ByteArray) (n i : Nat)
theorem gBase_class (h : pk s i = 91) : gBase s (n + 1) i = (gSpans s n (i + 1) []).map .chr := by rw [gBase, if_pos h]
theorem gBase_group (h : pk s i = 40) : gBase s (n + 1) i = (gAlts s n (i + 1)).bind fun l j => if pk s j = 41 then .ok (.alt l) (j + 1) else .err j := by
  rw [gBase, if_neg (by rw [h]; decide), if_pos h]
theorem gBase_group_ok {l : List PT} {j : Nat} (h : pk s i = 40) (hg : gAlts s n (i + 1) = .ok l j) (h1 : pk s j = 41) : gBase s (n + 1) i = .ok (.alt l) (j + 1) := by
  rw [gBase_group s n i h, hg]; simp [Res.bind, h1]
theorem gBase_group_no {l : List PT} {j : Nat} (h : pk s i = 40) (hg : gAlts s n (i + 1) = .ok l j) (h1 : pk s j ≠ 41) : gBase s (n + 1) i = .err j := by
  rw [gBase_group s n i h, hg]; simp [Res.bind, h1]
theorem gBase_group_err {p : Nat} (h : pk s i = 40) (hg : gAlts s n (i + 1) = .err p) : gBase s (n + 1) i = .err p := by
  rw [gBase_group s n i h, hg]; simp [Res.bind]
theorem gBase_sign (h : signI (pk s i) = true) : gBase s (n + 1) i = .ok (.chr [UInt8.ofNat (pk s i).toNat]) (i + 1) := by
  rw [gBase, if_neg (by intro e; rw [e] at h; revert h; decide), if_neg (by intro e; rw [e] at h; revert h; decide), if_pos h]
theorem gBase_none (h1 : pk s i ≠ 91) (h2 : pk s i ≠ 40) (h : signI (pk s i) = false) : gBase s (n + 1) i = .err i := by
  rw [gBase, if_neg h1, if_neg h2, if_neg (by simp [h])]
end

def BasePost (Y : Nat → Prop) (b : Nat) (s : ByteArray) (st : St) (c : Int) (e : Ending) (w' : World) : Res PT → Prop
  | .ok t j => j ≤ s.size ∧ st.i < j ∧ e = .returned (.int .i64 (enc t st.P).1) ∧ RH w' Y b s { st.upTo s j with P := (enc t st.P).2 } ∧ St.bd { st.upTo s j with P := (enc t st.P).2 } c
  | .err p => (∃ k : Nat, e = .returned (.int .i64 k)) ∧ BadAt w' Y b s p (c + 1) ∧ st.i ≤ p

/-- may a pattern end here -/
def stopI (c : Int) : Bool := decide (c = 41) || decide (c = 47)

def PatPost (Y : Nat → Prop) (b : Nat) (s : ByteArray) (st : St) (c : Int) (e : Ending) (w' : World) : Res (List PT) → Prop
  | .ok l j => j ≤ s.size ∧ st.i ≤ j ∧ (if stopI (pk s j) = true then e = .returned (.int .i64 (enc (.alt l) st.P).1) ∧ RH w' Y b s { st.upTo s j with P := (enc (.alt l) st.P).2 } ∧ St.bd { st.upTo s j with P := (enc (.alt l) st.P).2 } (c + 10)
      else (∃ k : Nat, e = .returned (.int .i64 k)) ∧ BadAt w' Y b s j (c + 10))
  | .err p => (∃ k : Nat, e = .returned (.int .i64 k)) ∧ BadAt w' Y b s p (c + 10) ∧ st.i ≤ p

end Go.Proofs.YtlljggefbngkeaaGreatDoor
