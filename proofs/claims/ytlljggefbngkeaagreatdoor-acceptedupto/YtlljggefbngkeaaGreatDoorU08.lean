import Derived.Test.YtlljggefbngkeaaGreatDoorU07
namespace Go.Proofs.YtlljggefbngkeaaGreatDoor
open Go.RowKit

/-- may a branch end here -/
def stop2 (c : Int) : Bool := decide (c = 124) || decide (c = 41) || decide (c = 47)

/-- a variable of pattern's, and its list -/
structure LV (w : World) (a : Nat) (kind : Int) (v : Value) (ks : List Nat) : Prop where
  blk : w.heap[a]? = some (.cells #[.int .u8 kind, .string ⟨#[]⟩, v] 90 (0, 0))
  own : w.ownsRow 0 3 1 v ks.length (nums ks)

def Y1 (Y : Nat → Prop) (a : Nat) (v : Value) (k : Nat) : Prop := Y k ∨ k = a ∨ v.ownBlock = some k

theorem LV.kept {w w' : World} {a : Nat} {kind : Int} {v : Value} {ks : List Nat} {Z : Nat → Prop} (h : LV w a kind v ks) (hk : Kp Z w w') (ha : Z a) (hv : ∀ k, v.ownBlock = some k → Z k) : LV w' a kind v ks :=
  ⟨hk.at h.blk ha, own_same h.own fun k e => hk.block k (own_lt h.own k e) (hv k e)⟩
theorem LV.lt {w : World} {a : Nat} {kind : Int} {v : Value} {ks : List Nat} (h : LV w a kind v ks) {Y : Nat → Prop} (hY : ∀ k, Y k → k < w.heap.size) : ∀ k, Y1 Y a v k → k < w.heap.size := by
  intro k hk
  rcases hk with hk | hk | hk
  · exact hY k hk
  · rw [hk]; exact heap_lt h.blk
  · exact own_lt h.own k hk

/-- a number more in a variable's list -/
theorem Push {w w1 : World} {Y : Nat → Prop} {a b : Nat} {kind : Int} {v : Value} {ks : List Nat} {s : ByteArray} {st : St} {o : Obj} {g cap k : Nat} (h : LV w a kind v ks) (hR : RH w (Y1 Y a v) b s st) (ha : ¬ Y a) (hv : ∀ k, v.ownBlock = some k → ¬ Y k) (hY : ∀ k, Y k → k < w.heap.size)
    (hown : w1.ownsRow 0 3 1 (.slice (some ⟨g, 0, none⟩) (ks.length + 1) cap) (ks.length + 1) (nums ks ++ [.int .i64 (k : Int)])) (hgrow : (w.alloc o).grownBy w1 v.ownBlock) (hat : v.ownBlock = some g ∨ g = w.heap.size + 1) :
    LV (w1.setCell ⟨a, 2, none⟩ (.slice (some ⟨g, 0, none⟩) (ks.length + 1) cap)) a kind (.slice (some ⟨g, 0, none⟩) (ks.length + 1) cap) (ks ++ [k]) ∧
    RH (w1.setCell ⟨a, 2, none⟩ (.slice (some ⟨g, 0, none⟩) (ks.length + 1) cap)) (Y1 Y a (.slice (some ⟨g, 0, none⟩) (ks.length + 1) cap)) b s st ∧
    Kp Y w (w1.setCell ⟨a, 2, none⟩ (.slice (some ⟨g, 0, none⟩) (ks.length + 1) cap)) ∧ ¬ Y g := by
  have hal := heap_lt h.blk
  have hva : v.ownBlock ≠ some a := own_ne h.blk h.own (by decide)
  have hb1 : w1.heap[a]? = some (.cells #[.int .u8 kind, .string ⟨#[]⟩, v] 90 (0, 0)) := (hgrow.block a (by simp; omega) (Ne.symm hva)).trans (heap_alloc_old _ h.blk)
  have hga : Value.ownBlock (.slice (some ⟨g, 0, none⟩) (ks.length + 1) cap) ≠ some a := own_ne hb1 hown (by decide)
  have hgY : ¬ Y g := by
    rcases hat with e | e
    · exact hv g e
    · intro hy; have := hY g hy; omega
  refine ⟨⟨?_, ?_⟩, ?_, ?_, hgY⟩
  · have := heap_set hb1 2 (.slice (some ⟨g, 0, none⟩) (ks.length + 1) cap)
    simpa using this
  · have := hown.kept (grown_set w1 a 2 (.slice (some ⟨g, 0, none⟩) (ks.length + 1) cap)) (Or.inr hga)
    simpa [nums] using this
  · have h1 : RH w (fun k => Y1 Y a v k ∨ k = w.heap.size + 1) b s st := hR.reY (by intro k hk hy; rcases hy with hy | hy; exact hy; omega)
    have h2 := ((h1.alloc o).grown hgrow (by intro k e; exact Or.inl (Or.inr (Or.inr e)))).grown (grown_set w1 a 2 (.slice (some ⟨g, 0, none⟩) (ks.length + 1) cap)) (by intro k e; cases e; exact Or.inl (Or.inr (Or.inl rfl)))
    refine h2.reY ?_
    intro k _ hy
    rcases hy with hy | hy | hy
    · exact Or.inl (Or.inl hy)
    · exact Or.inl (Or.inr (Or.inl hy))
    · have : g = k := by simpa [Value.ownBlock] using hy
      subst this
      rcases hat with e | e
      · exact Or.inl (Or.inr (Or.inr e))
      · exact Or.inr e
  · exact ((Kp.alloc Y w o).trans (Kp.of_grown hgrow hv)).trans (Kp.set _ _ _ _ ha)

def InnerRel (w2 : World) (Y : Nat → Prop) (b bb : Nat) (s : ByteArray) (st : St) (P0 : List Pat) (j0 : Nat) (c : Int) (rb : Res (List PT)) (gk : Nat) (wv : World) : Prop :=
  ∃ vb ks, LV wv bb 115 vb ks ∧ (∀ k, vb.ownBlock = some k → ¬ Y k) ∧ Kp Y w2 wv ∧
    ((∃ ts j m, RH wv (Y1 Y bb vb) b s { st.upTo s j with P := (encL ts P0).2 } ∧ ks = (encL ts P0).1 ∧ St.bd { st.upTo s j with P := (encL ts P0).2 } c ∧ st.i ≤ j ∧ j0 ≤ j ∧ j ≤ s.size ∧ rb = (gBranch s m j).map (ts ++ ·) ∧ 4 * (s.size - j) + 3 ≤ m ∧ s.size - j < gk ∧ ts.length ≤ j) ∨
     (∃ st' p, RH wv (Y1 Y bb vb) b s st' ∧ st'.bad = true ∧ st'.i = p ∧ st'.bd (c + 1) ∧ st.i ≤ p ∧ p ≤ s.size ∧ ks.length ≤ 200 ∧ (rb = .err p ∨ ∃ l, rb = .ok l p ∧ stop2 (pk s p) = false)))

def OuterRel (w : World) (Y : Nat → Prop) (b ab : Nat) (s : ByteArray) (st : St) (c : Int) (r : Res (List PT)) (gk : Nat) (morev : Value) (wv : World) : Prop :=
  ∃ va ks, LV wv ab 97 va ks ∧ (∀ k, va.ownBlock = some k → ¬ Y k) ∧ Kp Y w wv ∧
    ((∃ acc j m, morev = .bool true ∧ RH wv (Y1 Y ab va) b s { st.upTo s j with P := (encL acc st.P).2 } ∧ ks = (encL acc st.P).1 ∧ St.bd { st.upTo s j with P := (encL acc st.P).2 } c ∧ st.i ≤ j ∧ j ≤ s.size ∧ r = (gAlts s m j).map (acc ++ ·) ∧ 4 * (s.size - j) + 4 ≤ m ∧ s.size - j < gk ∧ acc.length ≤ j) ∨
     (∃ acc j, morev = .bool false ∧ RH wv (Y1 Y ab va) b s { st.upTo s j with P := (encL acc st.P).2 } ∧ ks = (encL acc st.P).1 ∧ St.bd { st.upTo s j with P := (encL acc st.P).2 } (c + 1) ∧ st.i ≤ j ∧ j ≤ s.size ∧ r = .ok acc j ∧ stopI (pk s j) = true ∧ acc.length ≤ j + 1) ∨
     (∃ st' p, morev = .bool false ∧ RH wv (Y1 Y ab va) b s st' ∧ st'.bad = true ∧ st'.i = p ∧ st'.bd (c + 2) ∧ st.i ≤ p ∧ p ≤ s.size ∧ ks.length ≤ 200 ∧ (r = .err p ∨ ∃ l, r = .ok l p ∧ stopI (pk s p) = false)))

theorem stop2_no {c : Int} (h : stop2 c = false) : c ≠ 124 ∧ stopI c = false := by
  simp [stop2, stopI] at *
  omega

theorem stop2_yes {c : Int} (h : stop2 c = true) : c = 124 ∨ c = 41 ∨ c = 47 := by
  simp [stop2] at h
  omega
theorem atBase_no {c : Int} (h : stop2 c = true) : atBase c = false := by
  rcases stop2_yes h with rfl | rfl | rfl <;> rfl
theorem gBranch_stop (s : ByteArray) (n i : Nat) (h : stop2 (pk s i) = true) : gBranch s (n + 1) i = .ok [] i := by
  rw [gBranch, if_neg (by simp [atBase_no h])]

theorem stop2_bool {c : Int} (h : stop2 c = false) : (c != 124) = true ∧ (c != 41) = true ∧ (c != 47) = true := by
  simp [stop2] at h
  simp
  omega

theorem atBase_of {s : ByteArray} {n i : Nat} {t : PT} {j : Nat} (h : gBase s (n + 1) i = .ok t j) : atBase (pk s i) = true := by
  rw [gBase] at h
  by_cases h1 : pk s i = 91
  · simp [atBase, h1]
  · rw [if_neg h1] at h
    by_cases h2 : pk s i = 40
    · simp [atBase, h2]
    · rw [if_neg h2] at h
      by_cases h3 : signI (pk s i) = true
      · simp [atBase, h3]
      · rw [if_neg h3] at h; cases h

theorem gBranch_ok (s : ByteArray) (n i : Nat) {t : PT} {j : Nat} (hn : ∃ m, n = m + 1) (h : gBase s n i = .ok t j) : gBranch s (n + 1) i = (gBranch s n (gRep s t j).2).map fun l => (gRep s t j).1 :: l := by
  obtain ⟨m, rfl⟩ := hn
  rw [gBranch, if_pos (atBase_of h), h]; rfl

theorem gBranch_err (s : ByteArray) (n i : Nat) {p : Nat} (ts : List PT) (hn : ∃ m, n = m + 1) (h : gBase s n i = .err p) (hst : stop2 (pk s i) = false) :
    (gBranch s (n + 1) i).map (ts ++ ·) = .err p ∨ ∃ l, (gBranch s (n + 1) i).map (ts ++ ·) = .ok l p ∧ stop2 (pk s p) = false := by
  obtain ⟨m, rfl⟩ := hn
  by_cases hb : atBase (pk s i) = true
  · left; rw [gBranch, if_pos hb, h]; rfl
  · right
    rw [gBranch, if_neg hb]
    have hb' : pk s i ≠ 91 ∧ pk s i ≠ 40 ∧ signI (pk s i) = false := by
      simp [atBase] at hb
      exact ⟨hb.1.1, hb.1.2, hb.2⟩
    rw [gBase_none s m i hb'.1 hb'.2.1 hb'.2.2] at h
    cases h
    exact ⟨_, rfl, hst⟩

theorem St.up_up (st : St) (s : ByteArray) (P1 P2 : List Pat) (j k : Nat) (h1 : st.i ≤ j) (h2 : j ≤ k) (hk : k ≤ s.size) : ({ St.upTo { st.upTo s j with P := P1 } s k with P := P2 } : St) = { st.upTo s k with P := P2 } := by
  have := St.upTo_upTo st s j k h1 h2 hk
  simp only [St.upTo] at *
  simpa using this

theorem gAlts_eq (s : ByteArray) (n i : Nat) : gAlts s (n + 1) i = (gBranch s n i).bind fun b j => if pk s j = 124 then (gAlts s n (j + 1)).map fun l => .seq b :: l else .ok [.seq b] j := by rw [gAlts]

theorem Tryz.infoInt : (Tryz.prog.info? 3).map (fun i => (i.zero, i.size, i.bytes)) = some (some (.int .i64 0), 1, 8) := by kernel_rfl

set_option maxRecDepth 100000 in
set_option maxHeartbeats 3200000 in
theorem pattern_of {s : ByteArray} {b i0 : Nat} (hs : s.size ≤ 120) (hbase : BaseSaid s b i0) : PatSaid s b i0 := by
  intro w Y st c h0 h hb hi hd hc hY n hn
  obtain ⟨i0, hi0, hz0, hz1, hz2⟩ := info_parts Tryz.infoInt
  generalize hr : gAlts s n st.i = r
  have H0 : Hid (OuterRel w Y b w.heap.size s st c r (s.size - st.i + 1) (.bool true) (w.alloc (.cells #[.int .u8 97, .string ⟨#[]⟩, .slice none 0 0] 90))) := by
    refine ⟨.slice none 0 0, [], ⟨heap_alloc_new w _, World.ownsRow_nil _ _ _ _⟩, (by intro k hk; cases hk), Kp.alloc _ _ _, Or.inl ⟨[], st.i, n, rfl, ?_, by rw [encL_nil], ?_, Nat.le_refl _, hi, ?_, hn, by omega, by simp⟩⟩
    · rw [encL_nil, St.upTo_self]
      refine (h.reY ?_).alloc _
      intro k hk hy
      rcases hy with hy | hy | hy
      · exact hy
      · omega
      · cases hy
    · rw [encL_nil, St.upTo_self]; exact hd
    · rw [hr]; cases r <;> rfl
  have HD := hide (And.intro hb (And.intro hi (And.intro hd hbase)))
  clear h hb hi hd hn hr hbase
  go_enter Tryz.func167, Tryz.ntmps167
  go_wp2_with fail
  go_loopg [4] (s.size - st.i + 1) (fun gk mv wv => OuterRel w Y b w.heap.size s st c r gk mv wv)
  case atStart => exact unhide H0
  case round =>
    clear H0
    obtain ⟨va, ks, hLV, hva, hK, hcase⟩ := hrel
    have hYr : ∀ k, Y k → k < wr.heap.size := fun k hk => by have := hY k hk; have := hK.size; omega
    have a0 := cellOf hLV.blk 0
    have a1 := cellOf hLV.blk 1
    have a2 := cellOf hLV.blk 2
    simp at a0 a1 a2
    rcases hcase with ⟨acc, j, m, rfl, hR, rfl, hbd, hij, hj, hr, hm, hgk, hal⟩ | ⟨acc, j, rfl, hR, rfl, hbd, hij, hj, hr, hst, hal⟩ | ⟨st', p, rfl, hR, hbad, hip, hbd, hp1, hp2, hkl, hr⟩
    · obtain ⟨m, rfl⟩ : ∃ m', m = m' + 1 := ⟨m - 1, by omega⟩
      have c2 : wr.cell? ⟨b, 2, none⟩ = some (.bool false) := hR.c2.trans (by show some (Value.bool st.bad) = _; rw [(unhide HD).1])
      have haY : ¬ Y w.heap.size := fun hy => Nat.lt_irrefl _ (hY _ hy)
      have hY1 := hLV.lt hYr
      have hbY1 : ¬ Y1 Y w.heap.size va wr.heap.size := fun hy => Nat.lt_irrefl _ (hY1 _ hy)
      rw [gAlts_eq] at hr
      generalize hrb : gBranch s m j = rb at hr
      have H1 : Hid (InnerRel (wr.alloc (.cells #[.int .u8 115, .string ⟨#[]⟩, .slice none 0 0] 90)) (Y1 Y w.heap.size va) b wr.heap.size s st (encL acc st.P).2 j c rb (s.size - j + 1) (wr.alloc (.cells #[.int .u8 115, .string ⟨#[]⟩, .slice none 0 0] 90))) := by
        refine ⟨.slice none 0 0, [], ⟨heap_alloc_new wr _, World.ownsRow_nil _ _ _ _⟩, (by intro k hk; cases hk), Kp.refl _ _, Or.inl ⟨[], j, m, ?_, by rw [encL_nil], ?_, hij, Nat.le_refl _, hj, ?_, by omega, by omega, by simp⟩⟩
        · rw [encL_nil]
          refine (hR.reY ?_).alloc _
          intro k hk hy
          rcases hy with hy | hy | hy
          · exact hy
          · omega
          · cases hy
        · rw [encL_nil]; exact hbd
        · rw [hrb]; cases rb <;> rfl
      have HLVa := hide (And.intro (hLV.kept (Kp.alloc (Y1 Y w.heap.size va) wr (.cells #[.int .u8 115, .string ⟨#[]⟩, .slice none 0 0] 90)) (Or.inr (Or.inl rfl)) (fun k e => Or.inr (Or.inr e))) (And.intro hva (And.intro hK (And.intro hYr (And.intro haY (And.intro hY1 hbY1))))))
      have HW := hide (Kp.alloc Y wr (.cells #[.int .u8 115, .string ⟨#[]⟩, .slice none 0 0] 90))
      have HX := hide (And.intro hr (And.intro hij (And.intro hal hm)))
      have hgk0 := hgk
      clear hbd hr hrb hR hLV hva hK hYr hY1 hbY1 haY a0 a1 a2 hgk hij hal hm
      go_wp2_with fail
      clear c2
      rename World => wo
      go_loopg [6] (s.size - j + 1) (fun gk _ wv => InnerRel (wo.alloc (.cells #[.int .u8 115, .string ⟨#[]⟩, .slice none 0 0] 90)) (Y1 Y w.heap.size va) b wo.heap.size s st (encL acc st.P).2 j c rb gk wv)
      case atStart => exact unhide H1
      case round =>
        clear H1
        obtain ⟨vb, kb, hLVb, hvb, hKb, hcase⟩ := hrel
        have hYb : ∀ k, Y1 Y w.heap.size va k → k < wr.heap.size := fun k hk => by have := (unhide HLVa).2.2.2.2.2.1 k hk; have := hKb.size; simp at this; omega
        have b0 := cellOf hLVb.blk 0
        have b1 := cellOf hLVb.blk 1
        have b2 := cellOf hLVb.blk 2
        have fb := frozenOf hLVb.blk 2
        simp at b0 b1 b2
        rcases hcase with ⟨ts, j2, m2, hR, rfl, hbd, hij2, hjj2, hj2, hrb, hm2, hgk, htl⟩ | ⟨st', p, hR, hbad, hip, hbd, hp1, hp2, hkl, hrb⟩
        · have c2 : wr.cell? ⟨b, 2, none⟩ = some (.bool false) := hR.c2.trans (by show some (Value.bool st.bad) = _; rw [(unhide HD).1])
          obtain ⟨m2, rfl⟩ : ∃ m', m2 = m' + 1 := ⟨m2 - 1, by omega⟩
          have HP0 := hide (PeekG (i := j2) hR hs rfl hj2 (unhide HD).1)
          have HPn := hide (fun n => PeekG (i := j2) (hR.drewN n) hs rfl hj2 (unhide HD).1)
          cases hst : stop2 (pk s j2) with
          | true =>
            have HG : Hid (rb = .ok ts j2) := by
              show rb = .ok ts j2
              rw [hrb, gBranch_stop s m2 j2 hst]
              simp [Res.map]
            have HB := hide (And.intro hbd (And.intro hm2 htl))
            clear hrb hbd hm2 htl
            rcases stop2_yes hst with hp | hp | hp
            · rw [hp] at HP0 HPn
              have Hp := hide hp
              clear hp hst
              go_wp2_with (go_at_call 58; first | (refine (unhide HP0).mono ?_; rintro e w' ⟨rfl, n1, rfl⟩) | (refine (unhide HPn _).mono ?_; rintro e w' ⟨rfl, n2, rfl⟩))
              refine (Lay ⟨115, ⟨#[]⟩, (encL ts (encL acc st.P).2).1⟩ vb ((hR.reY (fun k _ hy => Or.inl hy)).drewN _) (St.P_le hs (by omega) hj2 (unhide HB).1) hYb hLVb.own hvb).mono ?_
              rintro e w3 ⟨rfl, hR3, hK3'⟩
              have hK3 := (Kp.drewN (Y1 Y w.heap.size va) wr _).trans hK3'
              clear hK3'
              have hLVa3 := ((unhide HLVa).1.kept hKb (Or.inr (Or.inl rfl)) (fun k e => Or.inr (Or.inr e))).kept hK3 (Or.inr (Or.inl rfl)) (fun k e => Or.inr (Or.inr e))
              have a0 := cellOf hLVa3.blk 0
              have a1 := cellOf hLVa3.blk 1
              have a2 := cellOf hLVa3.blk 2
              have fa := frozenOf hLVa3.blk 2
              simp at a0 a1 a2
              have hkl3 : (encL acc st.P).1.length + 1 ≤ 1000 := by rw [encL_len]; have := (unhide HX).2.2.1; omega
              have HKA := hide (encL_snoc acc (.seq ts) st.P)
              rw [show enc (.seq ts) (encL acc st.P).2 = ((encL ts (encL acc st.P).2).2.length, (encL ts (encL acc st.P).2).2 ++ [⟨115, ⟨#[]⟩, (encL ts (encL acc st.P).2).1⟩]) from by rw [enc]] at HKA
              generalize (encL acc st.P).1 = ka at *
              clear b0 b1 b2 fb c2
              go_wp2_with (at_builtin; refine wpList_append_lies _ rfl (.tmp 71) (.tmp 73) 80 rfl 0 3 i0 (.int .i64 0) 1 8 Tryz.underlying80 hi0 hz0 hz1 hz2 rfl (by decide) va ka.length (nums ka) rfl (hLVa3.own.alloc _) ⟨w3.heap.size, 0, none⟩ 1 1 [.int .i64 ((encL ts (encL acc st.P).2).2.length : Int)] rfl rfl (World.news_of_block (cs := #[.int .i64 ((encL ts (encL acc st.P).2).2.length : Int)]) (heap_alloc_new w3 _)) (by simp [Value.oneCell']) (by omega) (by unfold maxLen; omega) (by omega) (by omega) (w3.heap.size + 1) (by simp) ?_)
              intro g cap w4 hown4 hgrow4 hat4 _
              have hva3 : va.ownBlock ≠ some w.heap.size := own_ne hLVa3.blk hLVa3.own (by decide)
              have hal3 := heap_lt hLVa3.blk
              have k1 : w4.cell? ⟨w.heap.size, 2, none⟩ = some va := by rw [hgrow4.cell_far _ (by simp; omega) (Ne.symm hva3), World.cell?_alloc_past _ _ _ hal3]; exact a2
              have k2 : w4.frozen? ⟨w.heap.size, 2, none⟩ = false := by rw [hgrow4.frozen_far _ (by simp; omega) (Ne.symm hva3), World.frozen?_alloc_past _ _ _ hal3]; exact fa
              have hY3 : ∀ k, Y k → k < w3.heap.size := fun k hk => by have := hYb k (Or.inl hk); have := hK3.size; omega
              obtain ⟨hL4, hR4, hK4, hgY⟩ := Push hLVa3 hR3 (unhide HLVa).2.2.2.2.1 (unhide HLVa).2.1 hY3 hown4 hgrow4 hat4
              have HP4 := hide (PeekGR (i := j2) hR4 hs rfl hj2 (unhide HD).1)
              rw [unhide Hp] at HP4
              have HF := hide (And.intro hL4 (And.intro hK4 hgY))
              clear hL4 hK4 hgY a0 a1 a2 fa hown4 hgrow4 hat4 hLVa3
              go_wp2_with (go_at_call 58; refine (unhide HP4).mono ?_; rintro e w5 ⟨rfl, hR5, hK5⟩)
              have hjl : j2 < s.size := pk_lt (by rw [unhide Hp]; decide)
              refine (TakeOk hR5 hs hjl (St.out_le (c := c + 1) hs (by omega) hj2 (St.bd_lay (unhide HB).1 _)) (unhide HD).1).mono ?_
              rintro e w6 ⟨rfl, hR6, hK6⟩
              go_wp2_with fail
              go_roundg (s.size - j)
              case measure => exact hgk0
              case rel =>
                obtain ⟨hL4, hK4, hgY⟩ := unhide HF
                rw [St.up_P st s _ j2 hij2 hjl] at hR6
                refine ⟨_, _, (hL4.kept hK5 (Or.inr (Or.inl rfl)) (fun k e => Or.inr (Or.inr e))).kept hK6 (Or.inr (Or.inl rfl)) (fun k e => Or.inr (Or.inr e)), ?_, ?_, Or.inl ⟨acc ++ [.seq ts], j2 + 1, m, rfl, ?_, ?_, ?_, by omega, hjl, ?_, ?_, by omega, ?_⟩⟩
                · intro k e; cases e; exact hgY
                · exact ((((((unhide HLVa).2.2.1.trans (unhide HW)).trans (hKb.mono (fun k _ hy => Or.inl hy))).trans (hK3.mono (fun k _ hy => Or.inl hy))).trans hK4).trans (hK5.mono (fun k _ hy => Or.inl hy))).trans (hK6.mono (fun k _ hy => Or.inl hy))
                · rw [unhide HKA]; exact hR6
                · rw [unhide HKA]
                · rw [unhide HKA]; exact St.bd_step (St.bd_lay (unhide HB).1 _) hij2 hjl (by omega)
                · rw [(unhide HX).1, unhide HG]
                  simp only [Res.bind]
                  rw [if_pos (unhide Hp), Res.map_map]
                  simp
                · have := (unhide HX).2.2.2
                  omega
                · have := (unhide HX).2.2.1
                  rw [List.length_append]
                  simp
                  omega
            · rw [hp] at HP0 HPn
              have Hp := hide hp
              clear hp hst
              go_wp2_with (go_at_call 58; first | (refine (unhide HP0).mono ?_; rintro e w' ⟨rfl, n1, rfl⟩) | (refine (unhide HPn _).mono ?_; rintro e w' ⟨rfl, n2, rfl⟩))
              refine (Lay ⟨115, ⟨#[]⟩, (encL ts (encL acc st.P).2).1⟩ vb ((hR.reY (fun k _ hy => Or.inl hy)).drewN _) (St.P_le hs (by omega) hj2 (unhide HB).1) hYb hLVb.own hvb).mono ?_
              rintro e w3 ⟨rfl, hR3, hK3'⟩
              have hK3 := (Kp.drewN (Y1 Y w.heap.size va) wr _).trans hK3'
              clear hK3'
              have hLVa3 := ((unhide HLVa).1.kept hKb (Or.inr (Or.inl rfl)) (fun k e => Or.inr (Or.inr e))).kept hK3 (Or.inr (Or.inl rfl)) (fun k e => Or.inr (Or.inr e))
              have a0 := cellOf hLVa3.blk 0
              have a1 := cellOf hLVa3.blk 1
              have a2 := cellOf hLVa3.blk 2
              have fa := frozenOf hLVa3.blk 2
              simp at a0 a1 a2
              have hkl3 : (encL acc st.P).1.length + 1 ≤ 1000 := by rw [encL_len]; have := (unhide HX).2.2.1; omega
              have HKA := hide (encL_snoc acc (.seq ts) st.P)
              rw [show enc (.seq ts) (encL acc st.P).2 = ((encL ts (encL acc st.P).2).2.length, (encL ts (encL acc st.P).2).2 ++ [⟨115, ⟨#[]⟩, (encL ts (encL acc st.P).2).1⟩]) from by rw [enc]] at HKA
              generalize (encL acc st.P).1 = ka at *
              clear b0 b1 b2 fb c2
              go_wp2_with (at_builtin; refine wpList_append_lies _ rfl (.tmp 71) (.tmp 73) 80 rfl 0 3 i0 (.int .i64 0) 1 8 Tryz.underlying80 hi0 hz0 hz1 hz2 rfl (by decide) va ka.length (nums ka) rfl (hLVa3.own.alloc _) ⟨w3.heap.size, 0, none⟩ 1 1 [.int .i64 ((encL ts (encL acc st.P).2).2.length : Int)] rfl rfl (World.news_of_block (cs := #[.int .i64 ((encL ts (encL acc st.P).2).2.length : Int)]) (heap_alloc_new w3 _)) (by simp [Value.oneCell']) (by omega) (by unfold maxLen; omega) (by omega) (by omega) (w3.heap.size + 1) (by simp) ?_)
              intro g cap w4 hown4 hgrow4 hat4 _
              have hva3 : va.ownBlock ≠ some w.heap.size := own_ne hLVa3.blk hLVa3.own (by decide)
              have hal3 := heap_lt hLVa3.blk
              have k1 : w4.cell? ⟨w.heap.size, 2, none⟩ = some va := by rw [hgrow4.cell_far _ (by simp; omega) (Ne.symm hva3), World.cell?_alloc_past _ _ _ hal3]; exact a2
              have k2 : w4.frozen? ⟨w.heap.size, 2, none⟩ = false := by rw [hgrow4.frozen_far _ (by simp; omega) (Ne.symm hva3), World.frozen?_alloc_past _ _ _ hal3]; exact fa
              have hY3 : ∀ k, Y k → k < w3.heap.size := fun k hk => by have := hYb k (Or.inl hk); have := hK3.size; omega
              obtain ⟨hL4, hR4, hK4, hgY⟩ := Push hLVa3 hR3 (unhide HLVa).2.2.2.2.1 (unhide HLVa).2.1 hY3 hown4 hgrow4 hat4
              have HP4 := hide (PeekGR (i := j2) hR4 hs rfl hj2 (unhide HD).1)
              rw [unhide Hp] at HP4
              have HF := hide (And.intro hL4 (And.intro hK4 hgY))
              clear hL4 hK4 hgY a0 a1 a2 fa hown4 hgrow4 hat4 hLVa3
              go_wp2_with (go_at_call 58; refine (unhide HP4).mono ?_; rintro e w5 ⟨rfl, hR5, hK5⟩)
              go_roundg (s.size - j)
              case measure => exact hgk0
              case rel =>
                obtain ⟨hL4, hK4, hgY⟩ := unhide HF
                refine ⟨_, _, hL4.kept hK5 (Or.inr (Or.inl rfl)) (fun k e => Or.inr (Or.inr e)), ?_, ?_, Or.inr (Or.inl ⟨acc ++ [.seq ts], j2, rfl, ?_, ?_, ?_, hij2, hj2, ?_, ?_, ?_⟩)⟩
                · intro k e; cases e; exact hgY
                · exact (((((unhide HLVa).2.2.1.trans (unhide HW)).trans (hKb.mono (fun k _ hy => Or.inl hy))).trans (hK3.mono (fun k _ hy => Or.inl hy))).trans hK4).trans (hK5.mono (fun k _ hy => Or.inl hy))
                · rw [unhide HKA]; exact hR5
                · rw [unhide HKA]
                · rw [unhide HKA]; exact St.bd_lay (unhide HB).1 _
                · rw [(unhide HX).1, unhide HG]
                  simp only [Res.bind]
                  rw [if_neg (by rw [unhide Hp]; decide)]
                  rfl
                · rw [unhide Hp]; rfl
                · have := (unhide HX).2.2.1
                  rw [List.length_append]
                  simp
                  omega
            · rw [hp] at HP0 HPn
              have Hp := hide hp
              clear hp hst
              go_wp2_with (go_at_call 58; first | (refine (unhide HP0).mono ?_; rintro e w' ⟨rfl, n1, rfl⟩) | (refine (unhide HPn _).mono ?_; rintro e w' ⟨rfl, n2, rfl⟩))
              refine (Lay ⟨115, ⟨#[]⟩, (encL ts (encL acc st.P).2).1⟩ vb ((hR.reY (fun k _ hy => Or.inl hy)).drewN _) (St.P_le hs (by omega) hj2 (unhide HB).1) hYb hLVb.own hvb).mono ?_
              rintro e w3 ⟨rfl, hR3, hK3'⟩
              have hK3 := (Kp.drewN (Y1 Y w.heap.size va) wr _).trans hK3'
              clear hK3'
              have hLVa3 := ((unhide HLVa).1.kept hKb (Or.inr (Or.inl rfl)) (fun k e => Or.inr (Or.inr e))).kept hK3 (Or.inr (Or.inl rfl)) (fun k e => Or.inr (Or.inr e))
              have a0 := cellOf hLVa3.blk 0
              have a1 := cellOf hLVa3.blk 1
              have a2 := cellOf hLVa3.blk 2
              have fa := frozenOf hLVa3.blk 2
              simp at a0 a1 a2
              have hkl3 : (encL acc st.P).1.length + 1 ≤ 1000 := by rw [encL_len]; have := (unhide HX).2.2.1; omega
              have HKA := hide (encL_snoc acc (.seq ts) st.P)
              rw [show enc (.seq ts) (encL acc st.P).2 = ((encL ts (encL acc st.P).2).2.length, (encL ts (encL acc st.P).2).2 ++ [⟨115, ⟨#[]⟩, (encL ts (encL acc st.P).2).1⟩]) from by rw [enc]] at HKA
              generalize (encL acc st.P).1 = ka at *
              clear b0 b1 b2 fb c2
              go_wp2_with (at_builtin; refine wpList_append_lies _ rfl (.tmp 71) (.tmp 73) 80 rfl 0 3 i0 (.int .i64 0) 1 8 Tryz.underlying80 hi0 hz0 hz1 hz2 rfl (by decide) va ka.length (nums ka) rfl (hLVa3.own.alloc _) ⟨w3.heap.size, 0, none⟩ 1 1 [.int .i64 ((encL ts (encL acc st.P).2).2.length : Int)] rfl rfl (World.news_of_block (cs := #[.int .i64 ((encL ts (encL acc st.P).2).2.length : Int)]) (heap_alloc_new w3 _)) (by simp [Value.oneCell']) (by omega) (by unfold maxLen; omega) (by omega) (by omega) (w3.heap.size + 1) (by simp) ?_)
              intro g cap w4 hown4 hgrow4 hat4 _
              have hva3 : va.ownBlock ≠ some w.heap.size := own_ne hLVa3.blk hLVa3.own (by decide)
              have hal3 := heap_lt hLVa3.blk
              have k1 : w4.cell? ⟨w.heap.size, 2, none⟩ = some va := by rw [hgrow4.cell_far _ (by simp; omega) (Ne.symm hva3), World.cell?_alloc_past _ _ _ hal3]; exact a2
              have k2 : w4.frozen? ⟨w.heap.size, 2, none⟩ = false := by rw [hgrow4.frozen_far _ (by simp; omega) (Ne.symm hva3), World.frozen?_alloc_past _ _ _ hal3]; exact fa
              have hY3 : ∀ k, Y k → k < w3.heap.size := fun k hk => by have := hYb k (Or.inl hk); have := hK3.size; omega
              obtain ⟨hL4, hR4, hK4, hgY⟩ := Push hLVa3 hR3 (unhide HLVa).2.2.2.2.1 (unhide HLVa).2.1 hY3 hown4 hgrow4 hat4
              have HP4 := hide (PeekGR (i := j2) hR4 hs rfl hj2 (unhide HD).1)
              rw [unhide Hp] at HP4
              have HF := hide (And.intro hL4 (And.intro hK4 hgY))
              clear hL4 hK4 hgY a0 a1 a2 fa hown4 hgrow4 hat4 hLVa3
              go_wp2_with (go_at_call 58; refine (unhide HP4).mono ?_; rintro e w5 ⟨rfl, hR5, hK5⟩)
              go_roundg (s.size - j)
              case measure => exact hgk0
              case rel =>
                obtain ⟨hL4, hK4, hgY⟩ := unhide HF
                refine ⟨_, _, hL4.kept hK5 (Or.inr (Or.inl rfl)) (fun k e => Or.inr (Or.inr e)), ?_, ?_, Or.inr (Or.inl ⟨acc ++ [.seq ts], j2, rfl, ?_, ?_, ?_, hij2, hj2, ?_, ?_, ?_⟩)⟩
                · intro k e; cases e; exact hgY
                · exact (((((unhide HLVa).2.2.1.trans (unhide HW)).trans (hKb.mono (fun k _ hy => Or.inl hy))).trans (hK3.mono (fun k _ hy => Or.inl hy))).trans hK4).trans (hK5.mono (fun k _ hy => Or.inl hy))
                · rw [unhide HKA]; exact hR5
                · rw [unhide HKA]
                · rw [unhide HKA]; exact St.bd_lay (unhide HB).1 _
                · rw [(unhide HX).1, unhide HG]
                  simp only [Res.bind]
                  rw [if_neg (by rw [unhide Hp]; decide)]
                  rfl
                · rw [unhide Hp]; rfl
                · have := (unhide HX).2.2.1
                  rw [List.length_append]
                  simp
                  omega
          | false =>
            have hq : (pk s j2 != 124) = true ∧ (pk s j2 != 41) = true ∧ (pk s j2 != 47) = true := stop2_bool hst
            obtain ⟨q1, q2, q3⟩ := hq
            have hm3 : ∃ m3, m2 = m3 + 1 := ⟨m2 - 1, by omega⟩
            have hkbl : (encL ts (encL acc st.P).2).1.length + 1 ≤ 1000 := by rw [encL_len]; omega
            have hY2 := hLVb.lt hYb
            have HB := hide (And.intro hbd (And.intro hrb (And.intro hst (And.intro htl hm2))))
            have HBS := hide (fun N => (unhide HD).2.2.2 (wr.drewN N) _ _ c (by show _ ≤ j2; omega) (hR.drewN N) (unhide HD).1 hj2 hbd (by omega) hY2 m2 (by show 4 * (s.size - j2) + 2 ≤ m2; omega))
            clear hbd hrb hst htl hm2
            generalize hpa : pk s j2 = a at *
            have Hpa := hide hpa
            clear hpa
            go_wp2_with (go_at_call 58; first | (refine (unhide HP0).mono ?_; rintro e w' ⟨rfl, n1, rfl⟩) | (refine (unhide HPn _).mono ?_; rintro e w' ⟨rfl, n2, rfl⟩))
            refine (unhide HBS _).mono ?_
            rintro e w3 ⟨hK3', hP3⟩
            have hK3 := (Kp.drewN (Y1 (Y1 Y w.heap.size va) _ vb) wr _).trans hK3'
            have hLV3 := hLVb.kept hK3 (Or.inr (Or.inl rfl)) (fun k e => Or.inr (Or.inr e))
            have hK31 := hKb.trans (hK3.mono (fun k _ hy => Or.inl hy))
            have hY3 : ∀ k, Y1 Y w.heap.size va k → k < w3.heap.size := fun k hk => by have := hYb k hk; have := hK3.size; omega
            clear hK3' HBS b0 b1 b2 fb c2
            generalize hkb : (encL ts (encL acc st.P).2).1 = kb at *
            have HKB := hide hkb
            clear hkb
            cases hg : gBase s m2 j2 with
            | err p =>
              rw [show gBase s m2 (st.upTo s j2).i = .err p from hg] at hP3
              obtain ⟨⟨k, rfl⟩, ⟨st', hR3, hbad, hip, hps, hbd3⟩, hpi⟩ := hP3
              have HP5 := hide (PeekB hR3 hs (by rw [hip]; exact hps) hbad)
              have HG := hide (And.intro hg (And.intro hbad (And.intro hip hbd3)))
              clear hg hbad hip hbd3
              go_wp2_with fail
              refine (unhide HP5).mono ?_
              rintro e w5 ⟨rfl, hR5, hK5⟩
              have hLV5 := hLV3.kept hK5 (Or.inr (Or.inl rfl)) (fun k e => Or.inr (Or.inr e))
              have hY5 : ∀ k, Y1 Y w.heap.size va k → k < w5.heap.size := fun k hk => by have := hY3 k hk; have := hK5.size; omega
              have b2' := cellOf hLV5.blk 2
              have fb' := frozenOf hLV5.blk 2
              simp at b2'
              go_wp2_with (at_builtin; refine wpList_append_lies _ rfl (.tmp 62) (.tmp 64) 80 rfl 0 3 i0 (.int .i64 0) 1 8 Tryz.underlying80 hi0 hz0 hz1 hz2 rfl (by decide) vb kb.length (nums kb) rfl (hLV5.own.alloc _) ⟨w5.heap.size, 0, none⟩ 1 1 [.int .i64 ((k : Nat) : Int)] rfl rfl (World.news_of_block (cs := #[.int .i64 ((k : Nat) : Int)]) (heap_alloc_new w5 _)) (by simp [Value.oneCell']) (by omega) (by unfold maxLen; omega) (by omega) (by omega) (w5.heap.size + 1) (by simp) ?_)
              intro g cap w7 hown7 hgrow7 hat7 _
              have hvb3 := own_ne hLV5.blk hLV5.own (by decide)
              have hbl3 := heap_lt hLV5.blk
              have k1 : w7.cell? ⟨wo.heap.size, 2, none⟩ = some vb := by rw [hgrow7.cell_far _ (by simp; omega) (Ne.symm hvb3), World.cell?_alloc_past _ _ _ hbl3]; exact b2'
              have k2 : w7.frozen? ⟨wo.heap.size, 2, none⟩ = false := by rw [hgrow7.frozen_far _ (by simp; omega) (Ne.symm hvb3), World.frozen?_alloc_past _ _ _ hbl3]; exact fb'
              obtain ⟨hL7, hR7, hK7, hgY⟩ := Push hLV5 hR5 (unhide HLVa).2.2.2.2.2.2 hvb hY5 hown7 hgrow7 hat7
              have HF := hide (And.intro hL7 (And.intro hR7 (And.intro hK7 hgY)))
              clear hL7 hR7 hK7 hgY b2' fb' hown7 hgrow7 hat7
              go_wp2_with fail
              go_roundg (s.size - j2)
              case measure => exact hgk
              case rel =>
                obtain ⟨hL7, hR7, hK7, hgY⟩ := unhide HF
                refine ⟨_, _, hL7, ?_, (hK31.trans (hK5.mono (fun k _ hy => Or.inl hy))).trans hK7, Or.inr ⟨st', p, hR7, (unhide HG).2.1, (unhide HG).2.2.1, (unhide HG).2.2.2, ?_, hps, ?_, ?_⟩⟩
                · intro k e; cases e; exact hgY
                · have : j2 ≤ p := hpi
                  omega
                · rw [List.length_append, ← unhide HKB, encL_len]
                  have := (unhide HB).2.2.2.1
                  simp
                  omega
                · rw [(unhide HB).2.1]
                  exact gBranch_err s m2 j2 ts hm3 (unhide HG).1 (by rw [unhide Hpa]; exact (unhide HB).2.2.1)
            | ok t j3 =>
              rw [show gBase s m2 (st.upTo s j2).i = .ok t j3 from hg] at hP3
              obtain ⟨hj3, hj23, rfl, hR3, hbd3⟩ := hP3
              have hj23' : j2 < j3 := hj23
              rw [St.up_up st s _ _ j2 j3 hij2 (by omega) hj3] at hR3 hbd3
              have HP5 := hide (PeekGR (i := j3) hR3 hs rfl hj3 (unhide HD).1)
              have HGB := hide (gBranch_ok s m2 j2 hm3 hg)
              have HG := hide hbd3
              have HE := hide (encL_snoc ts (gRep s t j3).1 (encL acc st.P).2)
              clear hg hbd3 hj23
              by_cases hp1 : pk s j3 = 42
              · have hp := hp1
                clear hp1
                rw [hp] at HP5
                rw [show gRep s t j3 = (.rep 42 t, j3 + 1) from by simp [gRep, hp]] at HE HGB
                have hjl : j3 < s.size := pk_lt (by rw [hp]; decide)
                clear hp
                go_wp2_with (go_at_call 58; refine (unhide HP5).mono ?_; rintro e w5 ⟨rfl, hR5, hK5⟩)
                refine (TakeOk hR5 hs hjl (St.out_le hs (by omega) hj3 (unhide HG)) (unhide HD).1).mono ?_
                rintro e w6 ⟨rfl, hR6, hK6⟩
                rw [St.up_P st s _ j3 (by omega) hjl] at hR6
                have hK36 := hK5.trans hK6
                have hLV6 := hLV3.kept hK36 (Or.inr (Or.inl rfl)) (fun k e => Or.inr (Or.inr e))
                have hY6 := hLV6.lt (Y := Y1 Y w.heap.size va) (fun k hk => by have := hY3 k hk; have := hK36.size; omega)
                go_wp2_with fail
                refine (Lay ⟨42, ⟨#[]⟩, [(enc t (encL ts (encL acc st.P).2).2).1]⟩ (.slice (some ⟨w6.heap.size, 0, none⟩) 1 1) (hR6.alloc _) (St.P_le hs (by omega) hjl (St.bd_step (c := c) (unhide HG) (by omega) hjl (by omega))) (fun k hk => by have := hY6 k hk; simp; omega) (World.ownsRow_lit w6 _ 1 (by omega) (by unfold maxLen; omega) rfl) (by intro k e hy; have := hY6 k hy; simp [Value.ownBlock] at e; omega)).mono ?_
                rintro e w8 ⟨rfl, hR8, hK8⟩
                have hK68 := (Kp.alloc (Y1 (Y1 Y w.heap.size va) _ vb) w6 _).trans hK8
                have hLV8 := hLV6.kept hK68 (Or.inr (Or.inl rfl)) (fun k e => Or.inr (Or.inr e))
                have hY8 : ∀ k, Y1 Y w.heap.size va k → k < w8.heap.size := fun k hk => by have := hY3 k hk; have := hK36.size; have := hK68.size; omega
                have b2' := cellOf hLV8.blk 2
                have fb' := frozenOf hLV8.blk 2
                simp at b2'
                go_wp2_with (at_builtin; refine wpList_append_lies _ rfl (.tmp 62) (.tmp 64) 80 rfl 0 3 i0 (.int .i64 0) 1 8 Tryz.underlying80 hi0 hz0 hz1 hz2 rfl (by decide) vb kb.length (nums kb) rfl (hLV8.own.alloc _) ⟨w8.heap.size, 0, none⟩ 1 1 [.int .i64 (((enc t (encL ts (encL acc st.P).2).2).2.length : Nat) : Int)] rfl rfl (World.news_of_block (cs := #[.int .i64 (((enc t (encL ts (encL acc st.P).2).2).2.length : Nat) : Int)]) (heap_alloc_new w8 _)) (by simp [Value.oneCell']) (by omega) (by unfold maxLen; omega) (by omega) (by omega) (w8.heap.size + 1) (by simp) ?_)
                intro g cap w7 hown7 hgrow7 hat7 _
                have hvb3 := own_ne hLV8.blk hLV8.own (by decide)
                have hbl3 := heap_lt hLV8.blk
                have k1 : w7.cell? ⟨wo.heap.size, 2, none⟩ = some vb := by rw [hgrow7.cell_far _ (by simp; omega) (Ne.symm hvb3), World.cell?_alloc_past _ _ _ hbl3]; exact b2'
                have k2 : w7.frozen? ⟨wo.heap.size, 2, none⟩ = false := by rw [hgrow7.frozen_far _ (by simp; omega) (Ne.symm hvb3), World.frozen?_alloc_past _ _ _ hbl3]; exact fb'
                obtain ⟨hL7, hR7, hK7, hgY⟩ := Push hLV8 hR8 (unhide HLVa).2.2.2.2.2.2 hvb hY8 hown7 hgrow7 hat7
                have HF := hide (And.intro hL7 (And.intro hR7 (And.intro hK7 hgY)))
                clear hL7 hR7 hK7 hgY b2' fb' hown7 hgrow7 hat7
                go_wp2_with fail
                go_roundg (s.size - j2)
                case measure => exact hgk
                case rel =>
                  obtain ⟨hL7, hR7, hK7, hgY⟩ := unhide HF
                  refine ⟨_, _, hL7, ?_, ((hK31.trans (hK36.mono (fun k _ hy => Or.inl hy))).trans (hK68.mono (fun k _ hy => Or.inl hy))).trans hK7, Or.inl ⟨ts ++ [.rep 42 t], j3 + 1, m2, ?_, ?_, ?_, by omega, by omega, hjl, ?_, ?_, by omega, ?_⟩⟩
                  · intro k e; cases e; exact hgY
                  · rw [unhide HE, enc]; exact hR7
                  · rw [unhide HE, enc, unhide HKB]
                  · rw [unhide HE, enc]; exact St.bd_mono (St.bd_lay (St.bd_step (c := c - 1) (unhide HG) (by omega) hjl (by omega)) _) (by omega)
                  · rw [(unhide HB).2.1, unhide HGB, Res.map_map]; simp
                  · have := (unhide HB).2.2.2.2
                    omega
                  · have := (unhide HB).2.2.2.1
                    rw [List.length_append]
                    simp
                    omega
              · by_cases hp2 : pk s j3 = 43
                · have hp := hp2
                  clear hp2 hp1
                  rw [hp] at HP5
                  rw [show gRep s t j3 = (.rep 43 t, j3 + 1) from by simp [gRep, hp]] at HE HGB
                  have hjl : j3 < s.size := pk_lt (by rw [hp]; decide)
                  clear hp
                  go_wp2_with (go_at_call 58; refine (unhide HP5).mono ?_; rintro e w5 ⟨rfl, hR5, hK5⟩)
                  refine (TakeOk hR5 hs hjl (St.out_le hs (by omega) hj3 (unhide HG)) (unhide HD).1).mono ?_
                  rintro e w6 ⟨rfl, hR6, hK6⟩
                  rw [St.up_P st s _ j3 (by omega) hjl] at hR6
                  have hK36 := hK5.trans hK6
                  have hLV6 := hLV3.kept hK36 (Or.inr (Or.inl rfl)) (fun k e => Or.inr (Or.inr e))
                  have hY6 := hLV6.lt (Y := Y1 Y w.heap.size va) (fun k hk => by have := hY3 k hk; have := hK36.size; omega)
                  go_wp2_with fail
                  refine (Lay ⟨43, ⟨#[]⟩, [(enc t (encL ts (encL acc st.P).2).2).1]⟩ (.slice (some ⟨w6.heap.size, 0, none⟩) 1 1) (hR6.alloc _) (St.P_le hs (by omega) hjl (St.bd_step (c := c) (unhide HG) (by omega) hjl (by omega))) (fun k hk => by have := hY6 k hk; simp; omega) (World.ownsRow_lit w6 _ 1 (by omega) (by unfold maxLen; omega) rfl) (by intro k e hy; have := hY6 k hy; simp [Value.ownBlock] at e; omega)).mono ?_
                  rintro e w8 ⟨rfl, hR8, hK8⟩
                  have hK68 := (Kp.alloc (Y1 (Y1 Y w.heap.size va) _ vb) w6 _).trans hK8
                  have hLV8 := hLV6.kept hK68 (Or.inr (Or.inl rfl)) (fun k e => Or.inr (Or.inr e))
                  have hY8 : ∀ k, Y1 Y w.heap.size va k → k < w8.heap.size := fun k hk => by have := hY3 k hk; have := hK36.size; have := hK68.size; omega
                  have b2' := cellOf hLV8.blk 2
                  have fb' := frozenOf hLV8.blk 2
                  simp at b2'
                  go_wp2_with (at_builtin; refine wpList_append_lies _ rfl (.tmp 62) (.tmp 64) 80 rfl 0 3 i0 (.int .i64 0) 1 8 Tryz.underlying80 hi0 hz0 hz1 hz2 rfl (by decide) vb kb.length (nums kb) rfl (hLV8.own.alloc _) ⟨w8.heap.size, 0, none⟩ 1 1 [.int .i64 (((enc t (encL ts (encL acc st.P).2).2).2.length : Nat) : Int)] rfl rfl (World.news_of_block (cs := #[.int .i64 (((enc t (encL ts (encL acc st.P).2).2).2.length : Nat) : Int)]) (heap_alloc_new w8 _)) (by simp [Value.oneCell']) (by omega) (by unfold maxLen; omega) (by omega) (by omega) (w8.heap.size + 1) (by simp) ?_)
                  intro g cap w7 hown7 hgrow7 hat7 _
                  have hvb3 := own_ne hLV8.blk hLV8.own (by decide)
                  have hbl3 := heap_lt hLV8.blk
                  have k1 : w7.cell? ⟨wo.heap.size, 2, none⟩ = some vb := by rw [hgrow7.cell_far _ (by simp; omega) (Ne.symm hvb3), World.cell?_alloc_past _ _ _ hbl3]; exact b2'
                  have k2 : w7.frozen? ⟨wo.heap.size, 2, none⟩ = false := by rw [hgrow7.frozen_far _ (by simp; omega) (Ne.symm hvb3), World.frozen?_alloc_past _ _ _ hbl3]; exact fb'
                  obtain ⟨hL7, hR7, hK7, hgY⟩ := Push hLV8 hR8 (unhide HLVa).2.2.2.2.2.2 hvb hY8 hown7 hgrow7 hat7
                  have HF := hide (And.intro hL7 (And.intro hR7 (And.intro hK7 hgY)))
                  clear hL7 hR7 hK7 hgY b2' fb' hown7 hgrow7 hat7
                  go_wp2_with fail
                  go_roundg (s.size - j2)
                  case measure => exact hgk
                  case rel =>
                    obtain ⟨hL7, hR7, hK7, hgY⟩ := unhide HF
                    refine ⟨_, _, hL7, ?_, ((hK31.trans (hK36.mono (fun k _ hy => Or.inl hy))).trans (hK68.mono (fun k _ hy => Or.inl hy))).trans hK7, Or.inl ⟨ts ++ [.rep 43 t], j3 + 1, m2, ?_, ?_, ?_, by omega, by omega, hjl, ?_, ?_, by omega, ?_⟩⟩
                    · intro k e; cases e; exact hgY
                    · rw [unhide HE, enc]; exact hR7
                    · rw [unhide HE, enc, unhide HKB]
                    · rw [unhide HE, enc]; exact St.bd_mono (St.bd_lay (St.bd_step (c := c - 1) (unhide HG) (by omega) hjl (by omega)) _) (by omega)
                    · rw [(unhide HB).2.1, unhide HGB, Res.map_map]; simp
                    · have := (unhide HB).2.2.2.2
                      omega
                    · have := (unhide HB).2.2.2.1
                      rw [List.length_append]
                      simp
                      omega
                · by_cases hp3 : pk s j3 = 63
                  · have hp := hp3
                    clear hp3 hp1 hp2
                    rw [hp] at HP5
                    rw [show gRep s t j3 = (.rep 63 t, j3 + 1) from by simp [gRep, hp]] at HE HGB
                    have hjl : j3 < s.size := pk_lt (by rw [hp]; decide)
                    clear hp
                    go_wp2_with (go_at_call 58; refine (unhide HP5).mono ?_; rintro e w5 ⟨rfl, hR5, hK5⟩)
                    refine (TakeOk hR5 hs hjl (St.out_le hs (by omega) hj3 (unhide HG)) (unhide HD).1).mono ?_
                    rintro e w6 ⟨rfl, hR6, hK6⟩
                    rw [St.up_P st s _ j3 (by omega) hjl] at hR6
                    have hK36 := hK5.trans hK6
                    have hLV6 := hLV3.kept hK36 (Or.inr (Or.inl rfl)) (fun k e => Or.inr (Or.inr e))
                    have hY6 := hLV6.lt (Y := Y1 Y w.heap.size va) (fun k hk => by have := hY3 k hk; have := hK36.size; omega)
                    go_wp2_with fail
                    refine (Lay ⟨63, ⟨#[]⟩, [(enc t (encL ts (encL acc st.P).2).2).1]⟩ (.slice (some ⟨w6.heap.size, 0, none⟩) 1 1) (hR6.alloc _) (St.P_le hs (by omega) hjl (St.bd_step (c := c) (unhide HG) (by omega) hjl (by omega))) (fun k hk => by have := hY6 k hk; simp; omega) (World.ownsRow_lit w6 _ 1 (by omega) (by unfold maxLen; omega) rfl) (by intro k e hy; have := hY6 k hy; simp [Value.ownBlock] at e; omega)).mono ?_
                    rintro e w8 ⟨rfl, hR8, hK8⟩
                    have hK68 := (Kp.alloc (Y1 (Y1 Y w.heap.size va) _ vb) w6 _).trans hK8
                    have hLV8 := hLV6.kept hK68 (Or.inr (Or.inl rfl)) (fun k e => Or.inr (Or.inr e))
                    have hY8 : ∀ k, Y1 Y w.heap.size va k → k < w8.heap.size := fun k hk => by have := hY3 k hk; have := hK36.size; have := hK68.size; omega
                    have b2' := cellOf hLV8.blk 2
                    have fb' := frozenOf hLV8.blk 2
                    simp at b2'
                    go_wp2_with (at_builtin; refine wpList_append_lies _ rfl (.tmp 62) (.tmp 64) 80 rfl 0 3 i0 (.int .i64 0) 1 8 Tryz.underlying80 hi0 hz0 hz1 hz2 rfl (by decide) vb kb.length (nums kb) rfl (hLV8.own.alloc _) ⟨w8.heap.size, 0, none⟩ 1 1 [.int .i64 (((enc t (encL ts (encL acc st.P).2).2).2.length : Nat) : Int)] rfl rfl (World.news_of_block (cs := #[.int .i64 (((enc t (encL ts (encL acc st.P).2).2).2.length : Nat) : Int)]) (heap_alloc_new w8 _)) (by simp [Value.oneCell']) (by omega) (by unfold maxLen; omega) (by omega) (by omega) (w8.heap.size + 1) (by simp) ?_)
                    intro g cap w7 hown7 hgrow7 hat7 _
                    have hvb3 := own_ne hLV8.blk hLV8.own (by decide)
                    have hbl3 := heap_lt hLV8.blk
                    have k1 : w7.cell? ⟨wo.heap.size, 2, none⟩ = some vb := by rw [hgrow7.cell_far _ (by simp; omega) (Ne.symm hvb3), World.cell?_alloc_past _ _ _ hbl3]; exact b2'
                    have k2 : w7.frozen? ⟨wo.heap.size, 2, none⟩ = false := by rw [hgrow7.frozen_far _ (by simp; omega) (Ne.symm hvb3), World.frozen?_alloc_past _ _ _ hbl3]; exact fb'
                    obtain ⟨hL7, hR7, hK7, hgY⟩ := Push hLV8 hR8 (unhide HLVa).2.2.2.2.2.2 hvb hY8 hown7 hgrow7 hat7
                    have HF := hide (And.intro hL7 (And.intro hR7 (And.intro hK7 hgY)))
                    clear hL7 hR7 hK7 hgY b2' fb' hown7 hgrow7 hat7
                    go_wp2_with fail
                    go_roundg (s.size - j2)
                    case measure => exact hgk
                    case rel =>
                      obtain ⟨hL7, hR7, hK7, hgY⟩ := unhide HF
                      refine ⟨_, _, hL7, ?_, ((hK31.trans (hK36.mono (fun k _ hy => Or.inl hy))).trans (hK68.mono (fun k _ hy => Or.inl hy))).trans hK7, Or.inl ⟨ts ++ [.rep 63 t], j3 + 1, m2, ?_, ?_, ?_, by omega, by omega, hjl, ?_, ?_, by omega, ?_⟩⟩
                      · intro k e; cases e; exact hgY
                      · rw [unhide HE, enc]; exact hR7
                      · rw [unhide HE, enc, unhide HKB]
                      · rw [unhide HE, enc]; exact St.bd_mono (St.bd_lay (St.bd_step (c := c - 1) (unhide HG) (by omega) hjl (by omega)) _) (by omega)
                      · rw [(unhide HB).2.1, unhide HGB, Res.map_map]; simp
                      · have := (unhide HB).2.2.2.2
                        omega
                      · have := (unhide HB).2.2.2.1
                        rw [List.length_append]
                        simp
                        omega
                  · have hq3 : (pk s j3 == 42) = false ∧ (pk s j3 == 43) = false ∧ (pk s j3 == 63) = false := by simp; omega
                    obtain ⟨q4, q5, q6⟩ := hq3
                    rw [show gRep s t j3 = (t, j3) from by simp [gRep]; omega] at HE HGB
                    clear hp1 hp2 hp3
                    generalize pk s j3 = a3 at *
                    go_wp2_with fail
                    refine (unhide HP5).mono ?_
                    rintro e w5 ⟨rfl, hR5, hK5⟩
                    have hLV5 := hLV3.kept hK5 (Or.inr (Or.inl rfl)) (fun k e => Or.inr (Or.inr e))
                    have hY5 : ∀ k, Y1 Y w.heap.size va k → k < w5.heap.size := fun k hk => by have := hY3 k hk; have := hK5.size; omega
                    have b2' := cellOf hLV5.blk 2
                    have fb' := frozenOf hLV5.blk 2
                    simp at b2'
                    go_wp2_with (at_builtin; refine wpList_append_lies _ rfl (.tmp 62) (.tmp 64) 80 rfl 0 3 i0 (.int .i64 0) 1 8 Tryz.underlying80 hi0 hz0 hz1 hz2 rfl (by decide) vb kb.length (nums kb) rfl (hLV5.own.alloc _) ⟨w5.heap.size, 0, none⟩ 1 1 [.int .i64 (((enc t (encL ts (encL acc st.P).2).2).1 : Nat) : Int)] rfl rfl (World.news_of_block (cs := #[.int .i64 (((enc t (encL ts (encL acc st.P).2).2).1 : Nat) : Int)]) (heap_alloc_new w5 _)) (by simp [Value.oneCell']) (by omega) (by unfold maxLen; omega) (by omega) (by omega) (w5.heap.size + 1) (by simp) ?_)
                    intro g cap w7 hown7 hgrow7 hat7 _
                    have hvb3 := own_ne hLV5.blk hLV5.own (by decide)
                    have hbl3 := heap_lt hLV5.blk
                    have k1 : w7.cell? ⟨wo.heap.size, 2, none⟩ = some vb := by rw [hgrow7.cell_far _ (by simp; omega) (Ne.symm hvb3), World.cell?_alloc_past _ _ _ hbl3]; exact b2'
                    have k2 : w7.frozen? ⟨wo.heap.size, 2, none⟩ = false := by rw [hgrow7.frozen_far _ (by simp; omega) (Ne.symm hvb3), World.frozen?_alloc_past _ _ _ hbl3]; exact fb'
                    obtain ⟨hL7, hR7, hK7, hgY⟩ := Push hLV5 hR5 (unhide HLVa).2.2.2.2.2.2 hvb hY5 hown7 hgrow7 hat7
                    have HF := hide (And.intro hL7 (And.intro hR7 (And.intro hK7 hgY)))
                    clear hL7 hR7 hK7 hgY b2' fb' hown7 hgrow7 hat7
                    go_wp2_with fail
                    go_roundg (s.size - j2)
                    case measure => exact hgk
                    case rel =>
                      obtain ⟨hL7, hR7, hK7, hgY⟩ := unhide HF
                      refine ⟨_, _, hL7, ?_, (hK31.trans (hK5.mono (fun k _ hy => Or.inl hy))).trans hK7, Or.inl ⟨ts ++ [t], j3, m2, ?_, ?_, ?_, by omega, by omega, hj3, ?_, ?_, by omega, ?_⟩⟩
                      · intro k e; cases e; exact hgY
                      · rw [unhide HE]; exact hR7
                      · rw [unhide HE, unhide HKB]
                      · rw [unhide HE]; exact unhide HG
                      · rw [(unhide HB).2.1, unhide HGB, Res.map_map]; simp
                      · have := (unhide HB).2.2.2.2
                        omega
                      · have := (unhide HB).2.2.2.1
                        rw [List.length_append]
                        simp
                        omega
        · have c2 : wr.cell? ⟨b, 2, none⟩ = some (.bool true) := hR.c2.trans (by rw [hbad])
          have HB := hide (And.intro hbad (And.intro hip (And.intro hbd (And.intro hrb hkl))))
          clear hbad hip hbd hrb hkl
          go_wp2_with fail
          refine (Lay ⟨115, ⟨#[]⟩, kb⟩ vb (hR.reY (fun k _ hy => Or.inl hy)) (St.P_le hs (by omega) (by rw [(unhide HB).2.1]; exact hp2) (unhide HB).2.2.1) hYb hLVb.own hvb).mono ?_
          rintro e w3 ⟨rfl, hR3, hK3⟩
          have hLVa3 := ((unhide HLVa).1.kept hKb (Or.inr (Or.inl rfl)) (fun k e => Or.inr (Or.inr e))).kept hK3 (Or.inr (Or.inl rfl)) (fun k e => Or.inr (Or.inr e))
          have a0 := cellOf hLVa3.blk 0
          have a1 := cellOf hLVa3.blk 1
          have a2 := cellOf hLVa3.blk 2
          have fa := frozenOf hLVa3.blk 2
          simp at a0 a1 a2
          have hkl3 : (encL acc st.P).1.length + 1 ≤ 1000 := by rw [encL_len]; have := (unhide HX).2.2.1; omega
          generalize hka : (encL acc st.P).1 = ka at *
          have HKA := hide hka
          clear b0 b1 b2 fb c2 hka
          go_wp2_with (at_builtin; refine wpList_append_lies _ rfl (.tmp 71) (.tmp 73) 80 rfl 0 3 i0 (.int .i64 0) 1 8 Tryz.underlying80 hi0 hz0 hz1 hz2 rfl (by decide) va ka.length (nums ka) rfl (hLVa3.own.alloc _) ⟨w3.heap.size, 0, none⟩ 1 1 [.int .i64 (st'.P.length : Int)] rfl rfl (World.news_of_block (cs := #[.int .i64 (st'.P.length : Int)]) (heap_alloc_new w3 _)) (by simp [Value.oneCell']) (by omega) (by unfold maxLen; omega) (by omega) (by omega) (w3.heap.size + 1) (by simp) ?_)
          intro g cap w4 hown4 hgrow4 hat4 _
          have hva3 : va.ownBlock ≠ some w.heap.size := own_ne hLVa3.blk hLVa3.own (by decide)
          have hal3 := heap_lt hLVa3.blk
          have k1 : w4.cell? ⟨w.heap.size, 2, none⟩ = some va := by rw [hgrow4.cell_far _ (by simp; omega) (Ne.symm hva3), World.cell?_alloc_past _ _ _ hal3]; exact a2
          have k2 : w4.frozen? ⟨w.heap.size, 2, none⟩ = false := by rw [hgrow4.frozen_far _ (by simp; omega) (Ne.symm hva3), World.frozen?_alloc_past _ _ _ hal3]; exact fa
          have hY3 : ∀ k, Y k → k < w3.heap.size := fun k hk => by have := hYb k (Or.inl hk); have := hK3.size; omega
          obtain ⟨hL4, hR4, hK4, hgY⟩ := Push hLVa3 hR3 (unhide HLVa).2.2.2.2.1 (unhide HLVa).2.1 hY3 hown4 hgrow4 hat4
          have HP4 := hide (PeekB hR4 hs (by show st'.i ≤ s.size; rw [(unhide HB).2.1]; exact hp2) (unhide HB).1)
          have HF := hide (And.intro hL4 (And.intro hK4 hgY))
          clear hL4 hK4 hgY a0 a1 a2 fa hown4 hgrow4 hat4 hLVa3
          go_wp2_with (go_at_call 58; refine (unhide HP4).mono ?_; rintro e w5 ⟨rfl, hR5, hK5⟩)
          go_roundg (s.size - j)
          case measure => exact hgk0
          case rel =>
            obtain ⟨hL4, hK4, hgY⟩ := unhide HF
            refine ⟨_, _, hL4.kept hK5 (Or.inr (Or.inl rfl)) (fun k e => Or.inr (Or.inr e)), ?_, ?_, Or.inr (Or.inr ⟨_, p, rfl, hR5, (unhide HB).1, (unhide HB).2.1, ?_, hp1, hp2, ?_, ?_⟩)⟩
            · intro k e; cases e; exact hgY
            · exact (((((unhide HLVa).2.2.1.trans (unhide HW)).trans (hKb.mono (fun k _ hy => Or.inl hy))).trans (hK3.mono (fun k _ hy => Or.inl hy))).trans hK4).trans (hK5.mono (fun k _ hy => Or.inl hy))
            · exact St.bd_mono (St.bd_lay (unhide HB).2.2.1 _) (by omega)
            · have := (unhide HX).2.2.1
              rw [List.length_append, ← unhide HKA, encL_len]
              simp
              omega
            · rw [(unhide HX).1]
              rcases (unhide HB).2.2.2.1 with e | ⟨l, e, hst⟩
              · left; rw [e]; rfl
              · right
                rw [e]
                simp only [Res.bind]
                rw [if_neg (stop2_no hst).1]
                exact ⟨_, rfl, (stop2_no hst).2⟩
    · have HX := hide (And.intro hbd (And.intro hr hst))
      clear hbd hr hst
      go_wp2_with fail
      refine (Lay ⟨97, ⟨#[]⟩, (encL acc st.P).1⟩ va (hR.reY (fun k _ hy => Or.inl hy)) (St.P_le hs (by omega) hj (unhide HX).1) hYr hLV.own hva).mono ?_
      rintro e w3 ⟨rfl, hR3, hK3⟩
      go_wp2
      go_ret
      refine ⟨hK.trans hK3, ?_⟩
      rw [(unhide HX).2.1]
      refine ⟨hj, hij, ?_⟩
      rw [if_pos (unhide HX).2.2]
      refine ⟨by simp [enc], by simpa [enc] using hR3, ?_⟩
      have := St.bd_lay (unhide HX).1 ⟨97, ⟨#[]⟩, (encL acc st.P).1⟩
      simpa [enc] using St.bd_mono this (by omega)
    · have HX := hide (And.intro hbd (And.intro hr (And.intro hbad hip)))
      clear hbd hr hbad hip
      go_wp2_with fail
      refine (Lay ⟨97, ⟨#[]⟩, ks⟩ va (hR.reY (fun k _ hy => Or.inl hy)) (St.P_le hs (by omega) (by rw [(unhide HX).2.2.2]; exact hp2) (unhide HX).1) hYr hLV.own hva).mono ?_
      rintro e w3 ⟨rfl, hR3, hK3⟩
      go_wp2
      go_ret
      refine ⟨hK.trans hK3, ?_⟩
      have hB : BadAt w3 Y b s p (c + 10) := ⟨_, hR3, (unhide HX).2.2.1, (unhide HX).2.2.2, hp2, St.bd_mono (St.bd_lay (unhide HX).1 _) (by omega)⟩
      rcases (unhide HX).2.1 with hr | ⟨l, hr, hst⟩
      · rw [hr]; exact ⟨⟨_, rfl⟩, hB, hp1⟩
      · rw [hr]
        refine ⟨hp2, hp1, ?_⟩
        rw [if_neg (by simp [hst])]
        exact ⟨⟨_, rfl⟩, hB⟩

end Go.Proofs.YtlljggefbngkeaaGreatDoor
