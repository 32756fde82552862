import Derived.Test.YtlljggefbngkeaaGreatDoorU06
namespace Go.Proofs.YtlljggefbngkeaaGreatDoor
open Go.RowKit

/-- what is asked of the reading of a pattern from places behind i0 -/
def PatSaid (s : ByteArray) (b : Nat) (i0 : Nat) : Prop :=
  ∀ (w : World) (Y : Nat → Prop) (st : St) (c : Int), i0 ≤ st.i → RH w Y b s st → st.bad = false → st.i ≤ s.size → st.bd c → c ≤ 4000 → (∀ k, Y k → k < w.heap.size) → ∀ n, 4 * (s.size - st.i) + 4 ≤ n →
    Calls Tryz.prog 167 #[.pointer (some ⟨b, 0, none⟩)] w fun e w' => Kp Y w w' ∧ PatPost Y b s st c e w' (gAlts s n st.i)

def BaseSaid (s : ByteArray) (b : Nat) (i0 : Nat) : Prop :=
  ∀ (w : World) (Y : Nat → Prop) (st : St) (c : Int), i0 ≤ st.i → RH w Y b s st → st.bad = false → st.i ≤ s.size → st.bd c → c ≤ 4010 → (∀ k, Y k → k < w.heap.size) → ∀ n, 4 * (s.size - st.i) + 2 ≤ n →
    Calls Tryz.prog 181 #[.pointer (some ⟨b, 0, none⟩)] w fun e w' => Kp Y w w' ∧ BasePost Y b s st c e w' (gBase s n st.i)

theorem St.up1 (st : St) (s : ByteArray) (h : st.i < s.size) : st.took s = st.upTo s (st.i + 1) := by
  have := St.upTo_took st s st.i (Nat.le_refl _) h
  rwa [St.upTo_self] at this

theorem St.upTo_upTo (st : St) (s : ByteArray) (j k : Nat) (h1 : st.i ≤ j) (h2 : j ≤ k) (hk : k ≤ s.size) : (st.upTo s j).upTo s k = st.upTo s k := by
  simp only [St.upTo]
  congr 1
  rw [ByteArray.append_assoc]
  congr 1
  apply ByteArray.ext
  rw [ByteArray.data_append, ByteArray.data_extract, ByteArray.data_extract, ByteArray.data_extract]
  apply Array.ext
  · simp; have : s.data.size = s.size := rfl; omega
  · intro x hx1 hx2
    have e : s.data.size = s.size := rfl
    simp at hx1 hx2
    rcases Nat.lt_or_ge x (j - st.i) with h | h
    · rw [Array.getElem_append_left (by simp; omega)]; simp
    · rw [Array.getElem_append_right (by simp; omega)]
      simp
      congr 1
      omega

theorem pk_bd (s : ByteArray) (i : Nat) : 0 ≤ pk s i ∧ pk s i ≤ 255 := peekI_bd s i false

theorem St.bd_lay2 {st : St} {c : Int} {s : ByteArray} (hd : st.bd c) (j : Nat) (hij : st.i < j) (hj : j ≤ s.size) (p : Pat) : St.bd { st.upTo s j with P := st.P ++ [p] } c := by
  have := St.bd_up hd s j hij hj
  unfold St.bd at *
  simp [St.upTo] at *
  omega

theorem St.up_P (st : St) (s : ByteArray) (P : List Pat) (j : Nat) (hij : st.i ≤ j) (hj : j < s.size) : St.took { st.upTo s j with P := P } s = { st.upTo s (j + 1) with P := P } := by
  have := St.upTo_took st s j hij hj
  rw [St.took_eq (st := st.upTo s j) (s := s) hj] at this
  rw [St.took_eq (st := { st.upTo s j with P := P }) (s := s) hj]
  rw [← this]

theorem St.bd_step {st : St} {s : ByteArray} {P : List Pat} {j : Nat} {c d : Int} (hd : St.bd { st.upTo s j with P := P } d) (hij : st.i ≤ j) (hj : j < s.size) (hcd : d ≤ c + 19) : St.bd { st.upTo s (j + 1) with P := P } c := by
  have h1 := St.upTo_out st s j hij (Nat.le_of_lt hj)
  have h2 := St.upTo_out st s (j + 1) (by omega) hj
  unfold St.bd at *
  simp only [St.upTo_i, St.upTo_L] at *
  rw [h1] at hd
  rw [h2]
  omega

set_option maxRecDepth 100000 in
set_option maxHeartbeats 3200000 in
theorem base_of {s : ByteArray} {b i0 : Nat} (hs : s.size ≤ 120) (hpat : PatSaid s b (i0 + 1)) : BaseSaid s b i0 := by
  intro w Y st c h0 h hb hi hd hc hY n hn
  obtain ⟨n, rfl⟩ : ∃ m, n = m + 1 := ⟨n - 1, by omega⟩
  have HP := hide (PeekR h hs hi)
  rw [hb, pk_eq] at HP
  have hpb := pk_bd s st.i
  have HD := hide (And.intro hb (And.intro hd hpat))
  clear hb hd hpat
  by_cases h91 : pk s st.i = 91
  · have hlt : st.i < s.size := pk_lt (by rw [h91]; decide)
    have HT := hide (fun (W : World) (hW : RH W Y b s st) => TakeOk hW hs hlt (St.out_le hs (by omega) hi (unhide HD).2.1) (unhide HD).1)
    rw [St.up1 st s hlt] at HT
    have HR := hide (gBase_class s n st.i h91)
    rw [h91] at HP
    clear h91
    go_enter Tryz.func181, Tryz.ntmps181
    go_wp2_with (go_at_call 58; refine (unhide HP).mono ?_; rintro e w1 ⟨rfl, hR1, hK1, hh1⟩)
    refine (unhide HT _ hR1).mono ?_
    rintro e w2 ⟨rfl, hR2, hK2⟩
    go_wp2_with fail
    have hY2 : ∀ k, Y k → k < w2.heap.size := fun k hk => by have := hY k hk; have := (hK1.trans hK2).size; omega
    refine (Class hR2 hs (unhide HD).1 hlt (St.bd_up (unhide HD).2.1 s (st.i + 1) (by omega) hlt) (by omega) hY2 n (by rw [St.upTo_i]; omega)).mono ?_
    rintro e w3 ⟨hK3, hP3⟩
    rw [St.upTo_i] at hP3
    cases hg : gSpans s n (st.i + 1) [] with
    | ok l j =>
      rw [hg] at hP3
      obtain ⟨hj1, hj2, rfl, hR3⟩ := hP3
      have hj3 : st.i < j := by rw [St.upTo_i] at hj2; omega
      rw [hg] at HR
      clear hg
      go_wp2
      go_ret
      refine ⟨(hK1.trans hK2).trans hK3, ?_⟩
      rw [unhide HR]
      refine ⟨hj1, hj3, rfl, ?_, ?_⟩
      · rw [St.upTo_upTo st s (st.i + 1) j (by omega) (by omega) hj1] at hR3
        simpa [enc, St.upTo_P] using hR3
      · simpa [enc] using St.bd_lay2 (unhide HD).2.1 j hj3 hj1 _
    | err p =>
      rw [hg] at hP3
      obtain ⟨⟨k, rfl⟩, ⟨st', hR3, hbad, hip, hps, hbd⟩, hp⟩ := hP3
      rw [hg] at HR
      clear hg
      go_wp2
      go_ret
      refine ⟨(hK1.trans hK2).trans hK3, ?_⟩
      rw [unhide HR]
      exact ⟨⟨k, rfl⟩, ⟨st', hR3, hbad, hip, hps, St.bd_mono hbd (by omega)⟩, by rw [St.upTo_i] at hp; omega⟩
  · by_cases h40 : pk s st.i = 40
    · have hlt : st.i < s.size := pk_lt (by rw [h40]; decide)
      have HT := hide (fun (W : World) (hW : RH W Y b s st) => TakeOk hW hs hlt (St.out_le hs (by omega) hi (unhide HD).2.1) (unhide HD).1)
      rw [St.up1 st s hlt] at HT
      have H40 := hide h40
      rw [h40] at HP
      clear h40 h91
      go_enter Tryz.func181, Tryz.ntmps181
      go_wp2_with (go_at_call 58; refine (unhide HP).mono ?_; rintro e w1 ⟨rfl, hR1, hK1, hh1⟩)
      refine (unhide HT _ hR1).mono ?_
      rintro e w2 ⟨rfl, hR2, hK2⟩
      go_wp2_with fail
      have hY2 : ∀ k, Y k → k < w2.heap.size := fun k hk => by have := hY k hk; have := (hK1.trans hK2).size; omega
      refine ((unhide HD).2.2 w2 Y (st.upTo s (st.i + 1)) (c - 19) (by rw [St.upTo_i]; omega) hR2 (unhide HD).1 hlt (St.bd_up (unhide HD).2.1 s (st.i + 1) (by omega) hlt) (by omega) hY2 n (by rw [St.upTo_i]; omega)).mono ?_
      rintro e w3 ⟨hK3, hP3⟩
      rw [St.upTo_i] at hP3
      have hK13 := (hK1.trans hK2).trans hK3
      cases hg : gAlts s n (st.i + 1) with
      | ok l j =>
        rw [hg] at hP3
        obtain ⟨hj1, hj2, hP3⟩ := hP3
        rw [St.upTo_i] at hj2
        by_cases h41 : pk s j = 41
        · rw [if_pos (by rw [h41]; rfl)] at hP3
          obtain ⟨rfl, hR3, hbd⟩ := hP3
          have hjs : j < s.size := pk_lt (by rw [h41]; decide)
          rw [St.upTo_upTo st s (st.i + 1) j (by omega) (by omega) hj1] at hR3 hbd
          have HE := hide (fun (W : World) (hW : RH W Y b s _) => EatOk 41 hW hs hjs (St.out_le hs (by omega) hj1 hbd) (unhide HD).1 h41)
          have HR := hide (gBase_group_ok s n st.i (unhide H40) hg h41)
          have HBD := hide hbd
          clear hg h41 hbd
          go_wp2_with fail
          refine (unhide HE _ hR3).mono ?_
          rintro e w4 ⟨rfl, hR4, hK4⟩
          go_wp2
          go_ret
          refine ⟨hK13.trans hK4, ?_⟩
          rw [unhide HR]
          have eT := St.up_P st s (enc (.alt l) (st.upTo s (st.i + 1)).P).2 j (by omega) hjs
          rw [eT] at hR4
          exact ⟨hjs, by omega, rfl, hR4, St.bd_step (unhide HBD) (by omega) hjs (by omega)⟩
        · have hB : (∃ k : Nat, e = .returned (.int .i64 k)) ∧ ∃ st', RH w3 Y b s st' ∧ st'.i = j ∧ peekI s st'.i st'.bad ≠ 41 ∧ st'.bd (c - 9) := by
            by_cases hstop : stopI (pk s j) = true
            · rw [if_pos hstop] at hP3
              exact ⟨⟨_, hP3.1⟩, _, hP3.2.1, rfl, by show peekI s j st.bad ≠ 41; rw [(unhide HD).1]; exact h41, St.bd_mono hP3.2.2 (by omega)⟩
            · rw [if_neg hstop] at hP3
              obtain ⟨hk, st', hR3, hbad, hip, hps, hbd⟩ := hP3
              exact ⟨hk, st', hR3, hip, by rw [hbad, peekI_bad]; decide, St.bd_mono hbd (by omega)⟩
          obtain ⟨⟨k, rfl⟩, st', hR3, hip, hpk, hbd⟩ := hB
          have HE := hide (fun (W : World) (hW : RH W Y b s _) => EatNo 41 hW hs (by rw [hip]; exact hj1) hpk)
          have HR := hide (gBase_group_no s n st.i (unhide H40) hg h41)
          have HBD := hide (And.intro hip hbd)
          clear hg h41 hbd hP3 hpk hip
          go_wp2_with fail
          refine (unhide HE _ hR3).mono ?_
          rintro e w4 ⟨rfl, hR4, hK4⟩
          go_wp2
          go_ret
          refine ⟨hK13.trans hK4, ?_⟩
          rw [unhide HR]
          exact ⟨⟨k, rfl⟩, ⟨_, hR4, rfl, (unhide HBD).1, hj1, St.bd_mono (unhide HBD).2 (by omega)⟩, by omega⟩
      | err p =>
        rw [hg] at hP3
        obtain ⟨⟨k, rfl⟩, ⟨st', hR3, hbad, hip, hps, hbd⟩, hp⟩ := hP3
        rw [St.upTo_i] at hp
        have HE := hide (fun (W : World) (hW : RH W Y b s _) => EatNo 41 hW hs (by rw [hip]; exact hps) (by rw [hbad, peekI_bad]; decide))
        have HR := hide (gBase_group_err s n st.i (unhide H40) hg)
        have HBD := hide (And.intro hip hbd)
        clear hg hbd hip
        go_wp2_with fail
        refine (unhide HE _ hR3).mono ?_
        rintro e w4 ⟨rfl, hR4, hK4⟩
        go_wp2
        go_ret
        refine ⟨hK13.trans hK4, ?_⟩
        rw [unhide HR]
        exact ⟨⟨k, rfl⟩, ⟨_, hR4, rfl, (unhide HBD).1, hps, St.bd_mono (unhide HBD).2 (by omega)⟩, by omega⟩
    · have q1 : (pk s st.i == 91) = false := by simpa using h91
      have q2 : (pk s st.i == 40) = false := by simpa using h40
      cases hsg : signI (pk s st.i) with
      | true =>
        have hlt := pk_sign_lt hsg
        have HT := hide (fun (W : World) (hW : RH W Y b s st) => SignOk hW hs hlt (St.out_le hs (by omega) hi (unhide HD).2.1) (unhide HD).1 hsg)
        rw [St.up1 st s hlt, pk_eq] at HT
        have HR := hide (gBase_sign s n st.i hsg)
        clear h91 h40 hsg
        generalize pk s st.i = a at *
        have hcv := conv1i a (by omega) (by omega)
        go_enter Tryz.func181, Tryz.ntmps181
        go_wp2_with (go_at_call 58; refine (unhide HP).mono ?_; rintro e w1 ⟨rfl, hR1, hK1, hh1⟩)
        refine (unhide HT _ hR1).mono ?_
        rintro e w2 ⟨rfl, hR2, hK2⟩
        go_wp2_with fail
        have hY2 : ∀ k, Y k → k < (w2.alloc (.cells #[.int .u8 a] 5)).heap.size := fun k hk => by have := hY k hk; have := (hK1.trans hK2).size; simp; omega
        refine (Lay ⟨99, ⟨#[UInt8.ofNat a.toNat]⟩, []⟩ (.slice none 0 0) (hR2.alloc _) (St.P_le (st := st) hs (by omega) hi (unhide HD).2.1) hY2 (World.ownsRow_nil _ _ _ _) (by intro k hk; cases hk)).mono ?_
        rintro e w3 ⟨rfl, hR3, hK3⟩
        go_wp2
        go_ret
        refine ⟨((hK1.trans hK2).trans (Kp.alloc _ _ _)).trans hK3, ?_⟩
        rw [unhide HR]
        refine ⟨hlt, by omega, by simp [enc, St.upTo_P], by simpa [enc, txt, St.upTo_P] using hR3, ?_⟩
        simpa [enc, txt] using St.bd_lay2 (unhide HD).2.1 (st.i + 1) (by omega) hlt _
      | false =>
        have HT := hide (fun (W : World) (hW : RH W Y b s st) => SignNo hW hs hi (by rw [(unhide HD).1, pk_eq]; exact hsg))
        have HR := hide (gBase_none s n st.i h91 h40 hsg)
        clear h91 h40 hsg
        generalize pk s st.i = a at *
        have hcv := conv1i 0 (by omega) (by omega)
        go_enter Tryz.func181, Tryz.ntmps181
        go_wp2_with (go_at_call 58; refine (unhide HP).mono ?_; rintro e w1 ⟨rfl, hR1, hK1, hh1⟩)
        refine (unhide HT _ hR1).mono ?_
        rintro e w2 ⟨rfl, hR2, hK2⟩
        go_wp2_with fail
        have hY2 : ∀ k, Y k → k < (w2.alloc (.cells #[.int .u8 0] 5)).heap.size := fun k hk => by have := hY k hk; have := (hK1.trans hK2).size; simp; omega
        refine (Lay ⟨99, ⟨#[UInt8.ofNat (0 : Int).toNat]⟩, []⟩ (.slice none 0 0) (hR2.alloc _) (St.P_le (st := st) hs (by omega) hi (unhide HD).2.1) hY2 (World.ownsRow_nil _ _ _ _) (by intro k hk; cases hk)).mono ?_
        rintro e w3 ⟨rfl, hR3, hK3⟩
        go_wp2
        go_ret
        refine ⟨((hK1.trans hK2).trans (Kp.alloc _ _ _)).trans hK3, ?_⟩
        rw [unhide HR]
        exact ⟨⟨_, rfl⟩, ⟨_, hR3, rfl, rfl, hi, St.bd_lay (St.bd_spoil (unhide HD).2.1) _⟩, Nat.le_refl _⟩

end Go.Proofs.YtlljggefbngkeaaGreatDoor
