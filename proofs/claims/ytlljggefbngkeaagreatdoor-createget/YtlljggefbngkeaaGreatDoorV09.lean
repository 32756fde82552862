import Derived.Test.YtlljggefbngkeaaGreatDoorV07
import Derived.Test.YtlljggefbngkeaaGreatDoorV06
import Derived.Lib.SliceRun
import Derived.Test.YtlljggefbngkeaaGreatDoorV08
import Derived.BigRegion
namespace Go.Proofs.YtlljggefbngkeaaGreatDoor
open Go.RowKit

theorem Tryz.infoPtr : (Tryz.prog.info? 116).map (fun i => (i.zero, i.size, i.bytes)) = some (some (.pointer none), 1, 8) := by kernel_rfl

theorem gSpans_lt (s : ByteArray) : ∀ n i (l0 l : List UInt8) j, gSpans s n i l0 = .ok l j → i < j
  | 0, i, l0, l, j, h => by rw [gSpans] at h; cases h
  | n + 1, i, l0, l, j, h => by
    rw [gSpans] at h
    split at h
    · split at h
      · split at h
        · split at h
          · cases h; omega
          · have := gSpans_lt s n _ _ _ _ h; omega
        · cases h
      · split at h
        · cases h; omega
        · have := gSpans_lt s n _ _ _ _ h; omega
    · cases h

theorem gRep_le (s : ByteArray) (t : PT) (j : Nat) : j ≤ (gRep s t j).2 := by
  unfold gRep
  split
  · exact Nat.le_succ _
  · exact Nat.le_refl _

theorem g_lt (s : ByteArray) : ∀ n, (∀ i t j, gBase s n i = .ok t j → i < j) ∧ (∀ i l j, gBranch s n i = .ok l j → i ≤ j) ∧ (∀ i l j, gAlts s n i = .ok l j → i ≤ j)
  | 0 => ⟨fun i t j h => (by rw [gBase] at h; cases h), fun i l j h => (by rw [gBranch] at h; cases h), fun i l j h => (by rw [gAlts] at h; cases h)⟩
  | n + 1 => by
    obtain ⟨h1, h2, h3⟩ := g_lt s n
    refine ⟨fun i t j h => ?_, fun i l j h => ?_, fun i l j h => ?_⟩
    · rw [gBase] at h
      split at h
      · cases hg : gSpans s n (i + 1) [] with
        | err p => rw [hg] at h; cases h
        | ok l j' =>
          rw [hg] at h
          cases h
          have := gSpans_lt s n _ _ _ _ hg
          omega
      · split at h
        · cases hg : gAlts s n (i + 1) with
          | err p => rw [hg] at h; cases h
          | ok l j' =>
            rw [hg] at h
            have := h3 _ _ _ hg
            simp only [Res.bind] at h
            split at h
            · cases h; omega
            · cases h
        · split at h
          · cases h; omega
          · cases h
    · rw [gBranch] at h
      split at h
      · cases hg : gBase s n i with
        | err p => rw [hg] at h; cases h
        | ok t j' =>
          rw [hg] at h
          simp only [Res.bind] at h
          cases hb : gBranch s n (gRep s t j').2 with
          | err p => rw [hb] at h; cases h
          | ok l' j'' =>
            rw [hb] at h
            cases h
            have := h1 _ _ _ hg
            have := h2 _ _ _ hb
            have := gRep_le s t j'
            omega
      · cases h; omega
    · rw [gAlts] at h
      cases hg : gBranch s n i with
      | err p => rw [hg] at h; cases h
      | ok l' j' =>
        rw [hg] at h
        have := h2 _ _ _ hg
        simp only [Res.bind] at h
        split at h
        · cases hb : gAlts s n (j' + 1) with
          | err p => rw [hb] at h; cases h
          | ok l' j'' =>
            rw [hb] at h
            cases h
            have := h3 _ _ _ hb
            omega
        · cases h; omega

theorem TRL.push {w : World} {Y : Nat → Prop} {t : PT} {g : Nat} (ht : TR w Y t g) : ∀ {l : List PT} {gs : List Nat}, TRL w Y l gs → TRL w Y (l ++ [t]) (gs ++ [g])
  | [], [], _ => by rw [List.nil_append, List.nil_append, TRL, TRL]; exact ⟨ht, trivial⟩
  | u :: l, k :: gs, h => by rw [List.cons_append, List.cons_append, TRL] at *; exact ⟨h.1, TRL.push ht h.2⟩
  | [], k :: ks, h => by simp [TRL] at h
  | t :: l, [], h => by simp [TRL] at h

/-- one more element is appended to a row that is being made: what lay outside it and a set of blocks lies there still; so does what has been made since -/
theorem push_keep {wr w3 w5 : World} {b g5 m cap : Nat} {v : Value} {o : Obj} {X : Nat → Prop} (hvl : ∀ k, v.ownBlock = some k → k < wr.heap.size) (hX : ∀ k, X k → k < wr.heap.size) (hb : X b)
    (hg3 : wr.grownBy w3 (some b)) (hgrow5 : (w3.alloc o).grownBy w5 v.ownBlock) (hat5 : v.ownBlock = some g5 ∨ g5 = w3.heap.size + 1) :
    (∀ {T : World → (Nat → Prop) → Prop}, Loc T → T wr (fun k => X k ∨ v.ownBlock = some k) → T w5 (fun k => X k ∨ (Value.slice (some ⟨g5, 0, none⟩) m cap).ownBlock = some k)) ∧
    (∀ {T : World → (Nat → Prop) → Prop}, Loc T → T w3 (fun k => k < wr.heap.size) → T w5 (fun k => X k ∨ (Value.slice (some ⟨g5, 0, none⟩) m cap).ownBlock = some k)) ∧
    (∀ k, k < w3.heap.size → v.ownBlock ≠ some k → w5.heap[k]? = w3.heap[k]?) := by
  have hs3 := hg3.size
  have ha3 : (w3.alloc o).heap.size = w3.heap.size + 1 := by simp
  have old5 : ∀ k, k < w3.heap.size → v.ownBlock ≠ some k → w5.heap[k]? = w3.heap[k]? := fun k hk hne => by
    rw [hgrow5.block k (by omega) (Ne.symm hne)]
    exact (World.grownBy_alloc w3 o none).block k hk (by simp)
  have hob : ∀ k, (Value.slice (some ⟨g5, 0, none⟩) m cap).ownBlock = some k ↔ g5 = k := fun k => by simp [Value.ownBlock]
  refine ⟨fun {T} L h => ?_, fun {T} L h => ?_, old5⟩
  · have h1 : T wr (fun k => (X k ∨ v.ownBlock = some k) ∨ (X k ∨ (Value.slice (some ⟨g5, 0, none⟩) m cap).ownBlock = some k)) := by
      refine L.reY (fun k hk hz => ?_) h
      rcases hz with hz | hz | hz
      · exact hz
      · exact Or.inl hz
      · have := (hob k).1 hz
        subst this
        rcases hat5 with h | h
        · exact Or.inr h
        · omega
    refine L.reY (fun k hk hz => Or.inr hz) (L.kept (w' := w5) (fun k hk hz => ?_) h1)
    rw [old5 k (by omega) (fun e => hz (Or.inl (Or.inr e)))]
    exact hg3.block k hk (fun e => hz (Or.inl (Or.inl (by cases e; exact hb))))
  · have h1 : T w3 (fun k => k < wr.heap.size ∨ (X k ∨ (Value.slice (some ⟨g5, 0, none⟩) m cap).ownBlock = some k)) := by
      refine L.reY (fun k hk hz => ?_) h
      rcases hz with hz | hz | hz
      · exact hz
      · exact hX k hz
      · have := (hob k).1 hz
        subst this
        rcases hat5 with h | h
        · exact hvl _ h
        · omega
    refine L.reY (fun k hk hz => Or.inr hz) (L.kept (w' := w5) (fun k hk hz => ?_) h1)
    exact old5 k hk (fun e => hz (Or.inl (hvl k e)))

theorem push_grown {w wr w3 w5 : World} {b : Nat} {v : Value} {o : Obj} (hvn : ∀ k, v.ownBlock = some k → ¬ k < w.heap.size) (hg : w.grownBy wr (some b)) (hg3 : wr.grownBy w3 (some b)) (hgrow5 : (w3.alloc o).grownBy w5 v.ownBlock) : w.grownBy w5 (some b) :=
  ((hg.trans hg3).trans (World.grownBy_alloc w3 o _)).andThen hgrow5 (fun k e => Or.inl (by have := hvn k e; omega))

theorem push_vn {w wr w3 : World} {b g5 m cap : Nat} {v : Value} (hvn : ∀ k, v.ownBlock = some k → ¬ k < w.heap.size) (hg : w.grownBy wr (some b)) (hg3 : wr.grownBy w3 (some b)) (hat5 : v.ownBlock = some g5 ∨ g5 = w3.heap.size + 1) : ∀ k, (Value.slice (some ⟨g5, 0, none⟩) m cap).ownBlock = some k → ¬ k < w.heap.size := by
  intro k e
  have : g5 = k := by simpa [Value.ownBlock] using e
  subst this
  rcases hat5 with h | h
  · exact hvn _ h
  · have := hg.size
    have := hg3.size
    omega

/-- a copy of a row -/
def ClonePost (w : World) (gs : List Nat) (e : Ending) (w' : World) : Prop :=
  ∃ v', e = .returned v' ∧ w'.ownsRow 0 116 1 v' gs.length (ptrs gs) ∧ w.grownBy w' none ∧ ∀ k, v'.ownBlock = some k → w.heap.size ≤ k

theorem ptrs_length (gs : List Nat) : (ptrs gs).length = gs.length := by simp [ptrs]

set_option maxRecDepth 100000 in
set_option maxHeartbeats 1600000 in
theorem pclone {w : World} {v : Value} {gs : List Nat} (hv : w.ownsRow 0 116 1 v gs.length (ptrs gs)) (h0 : gs = [] → v = .slice none 0 0) (hl : gs.length ≤ 1000) :
    Calls Tryz.prog 162 #[v] w fun e w' => ClonePost w gs e w' := by
  obtain ⟨i1, hi1, hz0, hz1, hz2⟩ := info_parts Tryz.infoPtr
  have qT : ∀ (w : World) (a : Option Addr) (n c n' c' : Nat), (binOp .eql 162 (.slice a n c) (.slice none n' c')).run Tryz.prog w = .ok (.bool a.isNone) w := fun w a n c n' c' => Lib.run_eql_slice_nil w _ _ a n c n' c' Tryz.underlying162
  by_cases hg : gs = []
  · obtain rfl := h0 hg
    subst hg
    clear hv
    go_enter Tryz.func162, Tryz.ntmps162
    go_wp2
    go_ret
    exact ⟨_, rfl, World.ownsRow_nil _ _ _ _, World.grownBy.refl _ _, fun k e => by cases e⟩
  · have hpos : 0 < gs.length := List.length_pos_iff.2 hg
    obtain ⟨g, cap, rfl, _, hlt⟩ := hv.form hpos
    have HV := hide hv
    have hnews : ∀ j u, (ptrs gs)[j]? = some u → (w.alloc (.cells #[] 116)).cell? ((⟨g, 0, none⟩ : Addr).add j) = some u := by
      intro j u hu
      have hj : j < gs.length := by have := (List.getElem?_eq_some_iff.1 hu).1; simpa [ptrs] using this
      have hadd : (⟨g, 0, none⟩ : Addr).add j = ⟨g, j, none⟩ := by unfold Addr.add; split <;> simp_all
      rw [hadd, World.cell?_alloc_past _ _ _ hlt, hv.cellAt j (by omega)]
      exact hu
    have hone : ∀ u ∈ ptrs gs, u.oneCell' = true := by
      intro u hu
      simp only [ptrs, List.mem_map] at hu
      obtain ⟨k, _, rfl⟩ := hu
      rfl
    have HN := hide (And.intro hnews hone)
    clear hv hnews hone h0 hg
    go_enter Tryz.func162, Tryz.ntmps162
    go_wp2_with (at_builtin; refine wpList_append_lies _ rfl (.tmp 5) (.tmp 6) 162 rfl 0 116 i1 _ 1 8 Tryz.underlying162 hi1 hz0 hz1 hz2 rfl (by decide) (.slice (some ⟨w.heap.size, 0, none⟩) 0 0) 0 [] rfl (World.ownsRow_lit w #[] 0 (Nat.zero_le _) (by unfold maxLen; omega) rfl) ⟨g, 0, none⟩ gs.length cap (ptrs gs) rfl (by rw [ptrs_length]; omega) (unhide HN).1 (unhide HN).2 hpos (by unfold maxLen; omega) (by omega) (Nat.zero_le _) _ rfl ?_)
    intro g5 cap5 w5 hown5 hgrow5 hat5 hlt5
    go_wp2
    go_ret
    refine ⟨_, rfl, by simpa using hown5, (World.grownBy_alloc w _ none).andThen hgrow5 (fun k e => Or.inl ?_), ?_⟩
    · simp [Value.ownBlock] at e
      omega
    · intro k e
      simp [Value.ownBlock] at e hat5
      omega

/-- several patterns joined to one -/
def JPost (w : World) (Y : Nat → Prop) (t : PT) (e : Ending) (w' : World) : Prop := ∃ g, e = .returned (.pointer (some ⟨g, 0, none⟩)) ∧ w.grownBy w' none ∧ TR w' Y t g

theorem TRL.len {w : World} {Y : Nat → Prop} : ∀ {l : List PT} {gs : List Nat}, TRL w Y l gs → gs.length = l.length
  | [], [], _ => rfl
  | u :: l, k :: gs, h => by rw [TRL] at h; simp [TRL.len h.2]
  | [], k :: ks, h => by simp [TRL] at h
  | t :: l, [], h => by simp [TRL] at h

/-- a row (1) or a choice (2) -/
def pJoin (how : Int) (l : List PT) : PT := if how = 1 then pSeq l else pAlt l

theorem pJoin_one (how : Int) (t : PT) : pJoin how [t] = t := by unfold pJoin; split <;> rfl
theorem pJoin_TR {how : Int} (hh : how = 1 ∨ how = 2) {l : List PT} (hl : l.length ≠ 1) {w : World} {Y : Nat → Prop} {g : Nat} {v : Value} {gs : List Nat} (h0 : ¬ Y g) (h1 : w.heap[g]? = some (pblk how 0 v)) (h2 : PV w Y v gs) (h3 : TRL w Y l gs) : TR w Y (pJoin how l) g := by
  have e : pJoin how l = if how = 1 then .seq l else .alt l := by
    match l, hl with
    | [], _ => rfl
    | [t], h => exact absurd rfl h
    | t :: u :: l, _ => rfl
  rw [e]
  rcases hh with rfl | rfl
  · rw [if_pos rfl, TR]; exact ⟨h0, v, gs, h1, h2, h3⟩
  · rw [if_neg (by decide), TR]; exact ⟨h0, v, gs, h1, h2, h3⟩

set_option maxRecDepth 100000 in
set_option maxHeartbeats 1600000 in
theorem pjoined {w : World} {Y : Nat → Prop} {v : Value} {gs : List Nat} {l : List PT} (how : Int) (hh : how = 1 ∨ how = 2) (hv : w.ownsRow 0 116 1 v gs.length (ptrs gs)) (h0 : gs = [] → v = .slice none 0 0) (hl : gs.length ≤ 1000) (hT : TRL w Y l gs) (hY : ∀ k, Y k → k < w.heap.size) :
    Calls Tryz.prog 144 #[.int .i64 how, v] w fun e w' => JPost w Y (pJoin how l) e w' := by
  have hlen := hT.len
  by_cases h1 : gs.length = 1
  · obtain ⟨g, rfl⟩ := List.length_eq_one_iff.1 h1
    obtain ⟨t, rfl⟩ := List.length_eq_one_iff.1 (hlen.symm.trans h1)
    obtain ⟨k, cap, rfl, _, hlt⟩ := hv.form (by simp)
    have c0 := hv.cellAt 0 (by simp)
    simp [ptrs] at c0
    rw [TRL] at hT
    have HT := hide hT.1
    clear hT hv h0 hlen
    simp only [List.length_singleton] at *
    go_enter Tryz.func144, Tryz.ntmps144
    go_wp2
    go_ret
    refine ⟨g, rfl, World.grownBy.refl _ _, ?_⟩
    rw [pJoin_one]
    exact unhide HT
  · obtain ⟨ao, cp, rfl⟩ := own_slice hv
    have q1 : ((gs.length : Int) == 1) = false := by rw [beq_eq_false_iff_ne]; omega
    have HC := hide (pclone hv h0 hl)
    have HT := hide hT
    have hl1 : l.length ≠ 1 := by omega
    clear hv h0 hT h1 hlen
    go_enter Tryz.func144, Tryz.ntmps144
    go_wp2_with fail
    refine (unhide HC).mono ?_
    rintro e w1 ⟨v1, rfl, hown1, hg1, hn1⟩
    obtain ⟨ao1, cp1, rfl⟩ := own_slice hown1
    go_wp2
    go_ret
    have hg := hg1.trans (World.grownBy_alloc w1 (pblk how 0 (.slice ao1 gs.length cp1)) none)
    refine ⟨w1.heap.size, rfl, hg, ?_⟩
    have hs1 := hg1.size
    refine pJoin_TR hh hl1 (fun hy => by have := hY _ hy; omega) (heap_alloc_new w1 _) ⟨hown1.alloc _, fun k e hy => by have := hY _ hy; have := hn1 k e; omega⟩ ?_
    exact TRL.kept (fun k hk _ => hg.block k hk (by simp)) (unhide HT)

set_option maxHeartbeats 800000 in
theorem prow {w : World} {Y : Nat → Prop} {v : Value} {gs : List Nat} {l : List PT} (hv : w.ownsRow 0 116 1 v gs.length (ptrs gs)) (h0 : gs = [] → v = .slice none 0 0) (hl : gs.length ≤ 1000) (hT : TRL w Y l gs) (hY : ∀ k, Y k → k < w.heap.size) :
    Calls Tryz.prog 108 #[v] w fun e w' => JPost w Y (pSeq l) e w' := by
  have H := hide (pjoined 1 (Or.inl rfl) hv h0 hl hT hY)
  rw [show pJoin 1 l = pSeq l from rfl] at H
  clear hv h0 hT hY
  go_enter Tryz.func108, Tryz.ntmps108
  go_wp2_with fail
  refine (unhide H).mono ?_
  rintro e w1 ⟨g, rfl, hg, hT⟩
  go_wp2
  go_ret
  exact ⟨g, rfl, hg, hT⟩

set_option maxHeartbeats 800000 in
theorem pchoice {w : World} {Y : Nat → Prop} {v : Value} {gs : List Nat} {l : List PT} (hv : w.ownsRow 0 116 1 v gs.length (ptrs gs)) (h0 : gs = [] → v = .slice none 0 0) (hl : gs.length ≤ 1000) (hT : TRL w Y l gs) (hY : ∀ k, Y k → k < w.heap.size) :
    Calls Tryz.prog 135 #[v] w fun e w' => JPost w Y (pAlt l) e w' := by
  have H := hide (pjoined 2 (Or.inr rfl) hv h0 hl hT hY)
  rw [show pJoin 2 l = pAlt l from rfl] at H
  clear hv h0 hT hY
  go_enter Tryz.func135, Tryz.ntmps135
  go_wp2_with fail
  refine (unhide H).mono ?_
  rintro e w1 ⟨g, rfl, hg, hT⟩
  go_wp2
  go_ret
  exact ⟨g, rfl, hg, hT⟩

end Go.Proofs.YtlljggefbngkeaaGreatDoor

namespace Go.Proofs.YtlljggefbngkeaaGreatDoor
open Go.RowKit

def BrRel (w : World) (b : Nat) (s : ByteArray) (i : Nat) (r : Res (List PT)) (next : Nat → Nat → Res (List PT)) (need : Nat) (gk : Nat) (vv : Value) (wv : World) : Prop :=
  ∃ gs ts j m, wv.ownsRow 0 116 1 vv gs.length (ptrs gs) ∧ (gs = [] → vv = .slice none 0 0) ∧ (∀ k, vv.ownBlock = some k → ¬ k < w.heap.size) ∧ w.grownBy wv (some b) ∧
    wv.heap[b]? = some (qblk s j) ∧ TRL wv (fun k => k < w.heap.size ∨ vv.ownBlock = some k) (nfL ts) gs ∧ r = (next m j).map (ts ++ ·) ∧ 4 * (s.size - j) + need ≤ m ∧ i ≤ j ∧ j ≤ s.size ∧ s.size - j < gk ∧ gs.length ≤ j

set_option maxRecDepth 100000 in
set_option maxHeartbeats 3200000 in
theorem qbranch_of {s : ByteArray} {b i0 : Nat} (hs : s.size ≤ 120) (hbase : QBaseSaid s b i0) (w : World) (i : Nat) (h0 : i0 ≤ i) (h : w.heap[b]? = some (qblk s i)) (hi : i ≤ s.size) (n : Nat) (hn : 4 * (s.size - i) + 3 ≤ n) :
    Calls Tryz.prog 199 #[.pointer (some ⟨b, 0, none⟩)] w fun e w' => QPost b s w e w' ((gBranch s n i).map .seq) := by
  obtain ⟨i1, hi1, hz0, hz1, hz2⟩ := info_parts Tryz.infoPtr
  generalize hr : gBranch s n i = r
  have hbl := heap_lt h
  have H0 : Hid (BrRel w b s i r (gBranch s) 3 (s.size - i + 1) (.slice none 0 0) w) := by
    refine ⟨[], [], i, n, World.ownsRow_nil _ _ _ _, fun _ => rfl, (by intro k hk; cases hk), World.grownBy.refl _ _, h, by rw [nfL, TRL]; trivial, ?_, hn, Nat.le_refl _, hi, by omega, by simp⟩
    rw [hr]; cases r <;> rfl
  have HD := hide hbase
  clear h hr hn hbase
  go_enter Tryz.func199, Tryz.ntmps199
  go_wp2_with fail
  go_loopg [3] (s.size - i + 1) (fun gk vv wv => BrRel w b s i r (gBranch s) 3 gk vv wv)
  case atStart => exact unhide H0
  case round =>
    clear H0
    obtain ⟨gs, ts, j, m, hown, hnil, hvn, hg, hqb, hTL, hr, hm, hij, hj, hgk, hgl⟩ := hrel
    obtain ⟨m, rfl⟩ : ∃ m', m = m' + 1 := ⟨m - 1, by omega⟩
    obtain ⟨ao, cp, rfl⟩ := own_slice hown
    have HA := hide (qatBase hqb hs hj)
    have HF := hide (And.intro hown (And.intro hnil (And.intro hvn (And.intro hg (And.intro hqb (And.intro hTL hr))))))
    clear hown hnil hvn hg hqb hTL hr
    cases hat : atBase (pk s j) with
    | false =>
      rw [hat] at HA
      have HR : Hid (r = .ok ts j) := by
        show r = _
        rw [(unhide HF).2.2.2.2.2.2, gBranch, if_neg (by simp [hat])]
        simp [Res.map]
      have HW := hide (fun n1 => prow (w := wr.drewN n1) (v := .slice ao gs.length cp) (gs := gs) (Y := fun k => k < w.heap.size) (unhide HF).1 (unhide HF).2.1 (by omega) (TRL.kept (w := wr) (w' := wr.drewN n1) (fun _ _ _ => rfl) (TRL.reY (w := wr) (fun k _ hk => Or.inl hk) (unhide HF).2.2.2.2.2.1)) (fun k hk => Nat.lt_of_lt_of_le hk (unhide HF).2.2.2.1.size))
      clear hat
      go_wp2_with fail
      refine (unhide HA).mono ?_
      rintro e w1 ⟨rfl, n1, rfl⟩
      go_wp2_with fail
      refine (unhide HW n1).mono ?_
      rintro e w2 ⟨g, rfl, hg2, hT2⟩
      go_wp2
      go_ret
      rw [unhide HR]
      obtain ⟨hown, hnil, hvn, hg, hqb, hTL, _⟩ := unhide HF
      refine ⟨hj, (hg.trans (grown_drewN' _ n1 _)).andThen hg2 (fun k e => by cases e), (hg2.block b (heap_lt hqb) (by simp)).trans hqb, g, rfl, ?_⟩
      rw [nf]
      exact hT2
    | true =>
      rw [hat] at HA
      have Hat := hide hat
      have HBs := hide (fun n1 => unhide HD (wr.drewN n1) j (by omega) (unhide HF).2.2.2.2.1 hj hat m (by omega))
      clear hat
      go_wp2_with fail
      refine (unhide HA).mono ?_
      rintro e w1 ⟨rfl, n1, rfl⟩
      go_wp2_with fail
      refine (unhide HBs n1).mono ?_
      rintro e w2 hP2
      cases hg : gBase s m j with
      | err p =>
        rw [hg] at hP2
        obtain ⟨hp, hg2, hq2, rfl⟩ := hP2
        have HR : Hid (r = .err p) := by
          show r = _
          rw [(unhide HF).2.2.2.2.2.2, gBranch, if_pos (unhide Hat), hg]
          rfl
        clear hg HBs HA
        go_wp2
        go_ret
        rw [unhide HR]
        exact ⟨hp, ((unhide HF).2.2.2.1.trans (grown_drewN' _ _ _)).trans hg2, hq2, rfl⟩
      | ok t j2 =>
        rw [hg] at hP2
        obtain ⟨hj2, hg2, hq2, g, rfl, hT⟩ := hP2
        have hjj := (g_lt s m).1 _ _ _ hg
        have HR : Hid (r = (gBranch s m (gRep s t j2).2).map (fun l => ts ++ (gRep s t j2).1 :: l)) := by
          show r = _
          rw [(unhide HF).2.2.2.2.2.2, gBranch, if_pos (unhide Hat), hg]
          simp only [Res.bind, Res.map_map]
        obtain ⟨hown, hnil, hvn, hgw, hqb, hTL, _⟩ := unhide HF
        have hg2' : wr.grownBy w2 (some b) := (grown_drewN' wr n1 _).trans hg2
        have hws := hg2'.size
        have hT' : TR w2 (fun k => k < wr.heap.size) (nf t) g := hT
        have HRp := hide (fun (W : World) (hW : W.heap = w2.heap) => qrepeated (w := W) (Y := fun k => k < wr.heap.size) (by rw [hW]; exact hq2) hs hj2 (TR.kept (fun k _ _ => by rw [hW]) hT') (fun k hk => by rw [hW]; exact Nat.lt_of_lt_of_le hk hws) (by show b < wr.heap.size; have := hgw.size; omega))
        have hvb : (Value.slice ao gs.length cp).ownBlock ≠ some b := own_ne hqb hown (by decide)
        have hown2 : w2.ownsRow 0 116 1 (.slice ao gs.length cp) gs.length (ptrs gs) := own_same hown (fun k e => grown_heap hg2' k (own_lt hown k e) (fun e' => hvb (by rw [e, e'])))
        have hglen : gs.length + 1 ≤ 1000 := by omega
        have HK := hide (And.intro hown2 (And.intro hg2' (And.intro hT' hq2)))
        clear hg HBs HA hT hT' hq2 hown hqb hTL hgw hg2 hown2 hvn hnil
        go_wp2_with fail
        refine (unhide HRp w2 rfl).mono ?_
        rintro e w3 ⟨hj3, hg3, hq3, g3, rfl, hT3⟩
        have hown3 := own_same (unhide HK).1 (fun k e => grown_heap hg3 k (own_lt (unhide HK).1 k e) (fun e' => hvb (by rw [e, e'])))
        have HK3 := hide (And.intro hg3 (And.intro hq3 hT3))
        clear hg3 hq3 hT3
        go_wp2_with (at_builtin; refine wpList_append_lies _ rfl (.tmp 11) (.tmp 15) 162 rfl 0 116 i1 _ 1 8 Tryz.underlying162 hi1 hz0 hz1 hz2 rfl (by decide) (.slice ao gs.length cp) gs.length (ptrs gs) rfl (hown3.alloc _) ⟨w3.heap.size, 0, none⟩ 1 1 [.pointer (some ⟨g3, 0, none⟩)] rfl rfl (World.news_of_block (cs := #[.pointer (some ⟨g3, 0, none⟩)]) (heap_alloc_new w3 _)) (by simp [Value.oneCell']) (by omega) (by unfold maxLen; omega) (by omega) (by omega) (w3.heap.size + 1) (by simp) ?_)
        intro g5 cap w5 hown5 hgrow5 hat5 hlt5
        go_wp2_with fail
        go_roundg (s.size - j)
        case measure => exact hgk
        case rel =>
          obtain ⟨hown, hnil, hvn, hgw, hqb, hTL, _⟩ := unhide HF
          obtain ⟨hg3, hq3, hT3⟩ := unhide HK3
          have hgr : wr.grownBy w3 (some b) := (unhide HK).2.1.trans hg3
          obtain ⟨k1, k2, k3⟩ := push_keep (m := gs.length + 1) (cap := cap) (X := fun k => k < w.heap.size) (own_lt hown) (fun k hk => Nat.lt_of_lt_of_le hk hgw.size) hbl hgr hgrow5 hat5
          have hlt := gRep_le s t j2
          refine ⟨gs ++ [g3], ts ++ [(gRep s t j2).1], (gRep s t j2).2, m, by simpa [ptrs] using hown5, (fun e => by simp at e), push_vn hvn hgw hgr hat5, push_grown hvn hgw hgr hgrow5, (k3 b (heap_lt hq3) hvb).trans hq3, ?_, ?_, by omega, by omega, hj3, by omega, by simp; omega⟩
          · rw [nfL_app, nfL, nfL]
            exact TRL.push (k2 (TR.loc _ _) hT3) (k1 (TRL.loc _ _) hTL)
          · rw [unhide HR]
            simp

end Go.Proofs.YtlljggefbngkeaaGreatDoor

namespace Go.Proofs.YtlljggefbngkeaaGreatDoor
open Go.RowKit

set_option maxRecDepth 100000 in
set_option maxHeartbeats 3200000 in
theorem qpattern_of {s : ByteArray} {b i0 : Nat} (hs : s.size ≤ 120) (hbase : QBaseSaid s b i0) : QPatSaid s b i0 := by
  intro w i h0 h hi n hn
  obtain ⟨i1, hi1, hz0, hz1, hz2⟩ := info_parts Tryz.infoPtr
  generalize hr : gAlts s n i = r
  have hbl := heap_lt h
  have H0 : Hid (BrRel w b s i r (gAlts s) 4 (s.size - i + 1) (.slice none 0 0) w) := by
    refine ⟨[], [], i, n, World.ownsRow_nil _ _ _ _, fun _ => rfl, (by intro k hk; cases hk), World.grownBy.refl _ _, h, by rw [nfL, TRL]; trivial, ?_, hn, Nat.le_refl _, hi, by omega, by simp⟩
    rw [hr]; cases r <;> rfl
  have HD := hide (fun w i a b c n d => qbranch_of hs hbase w i a b c n d)
  clear h hr hn hbase
  go_enter Tryz.func195, Tryz.ntmps195
  go_wp2_with fail
  go_loopg [3] (s.size - i + 1) (fun gk vv wv => BrRel w b s i r (gAlts s) 4 gk vv wv)
  case atStart => exact unhide H0
  case round =>
    clear H0
    obtain ⟨gs, ts, j, m, hown, hnil, hvn, hg, hqb, hTL, hr, hm, hij, hj, hgk, hgl⟩ := hrel
    obtain ⟨m, rfl⟩ : ∃ m', m = m' + 1 := ⟨m - 1, by omega⟩
    obtain ⟨ao, cp, rfl⟩ := own_slice hown
    have HBr := hide (unhide HD wr j (by omega) hqb hj m (by omega))
    have HF := hide (And.intro hown (And.intro hnil (And.intro hvn (And.intro hg (And.intro hqb (And.intro hTL hr))))))
    clear hown hnil hvn hg hqb hTL hr
    go_wp2_with fail
    refine (unhide HBr).mono ?_
    rintro e w2 hP2
    cases hg : gBranch s m j with
    | err p =>
      rw [hg] at hP2
      obtain ⟨hp, hg2, hq2, rfl⟩ := hP2
      have HR : Hid (r = .err p) := by
        show r = _
        rw [(unhide HF).2.2.2.2.2.2, gAlts, hg]
        rfl
      clear hg HBr
      go_wp2
      go_ret
      rw [unhide HR]
      exact ⟨hp, (unhide HF).2.2.2.1.trans hg2, hq2, rfl⟩
    | ok t j2 =>
      rw [hg] at hP2
      obtain ⟨hj2, hg2, hq2, g, rfl, hT⟩ := hP2
      have hjj := (g_lt s m).2.1 _ _ _ hg
      have HR : Hid (r = if pk s j2 = 124 then (gAlts s m (j2 + 1)).map (fun l => ts ++ .seq t :: l) else .ok (ts ++ [.seq t]) j2) := by
        show r = _
        rw [(unhide HF).2.2.2.2.2.2, gAlts, hg]
        simp only [Res.bind]
        split
        · rw [Res.map_map]
        · rfl
      obtain ⟨hown, hnil, hvn, hgw, hqb, hTL, _⟩ := unhide HF
      have hws := hg2.size
      have hvb : (Value.slice ao gs.length cp).ownBlock ≠ some b := own_ne hqb hown (by decide)
      have hown2 : w2.ownsRow 0 116 1 (.slice ao gs.length cp) gs.length (ptrs gs) := own_same hown (fun k e => grown_heap hg2 k (own_lt hown k e) (fun e' => hvb (by rw [e, e'])))
      have hglen : gs.length + 1 ≤ 1000 := by omega
      have HK := hide (And.intro hg2 (And.intro hT hq2))
      clear hg HBr hT hq2 hown hqb hTL hgw hg2 hvn hnil
      go_wp2_with (at_builtin; refine wpList_append_lies _ rfl (.tmp 9) (.tmp 11) 162 rfl 0 116 i1 _ 1 8 Tryz.underlying162 hi1 hz0 hz1 hz2 rfl (by decide) (.slice ao gs.length cp) gs.length (ptrs gs) rfl (hown2.alloc _) ⟨w2.heap.size, 0, none⟩ 1 1 [.pointer (some ⟨g, 0, none⟩)] rfl rfl (World.news_of_block (cs := #[.pointer (some ⟨g, 0, none⟩)]) (heap_alloc_new w2 _)) (by simp [Value.oneCell']) (by omega) (by unfold maxLen; omega) (by omega) (by omega) (w2.heap.size + 1) (by simp) ?_)
      intro g5 cap w5 hown5 hgrow5 hat5 hlt5
      have HP : Hid (w5.ownsRow 0 116 1 (.slice (some ⟨g5, 0, none⟩) (gs.length + 1) cap) (gs ++ [g]).length (ptrs (gs ++ [g])) ∧ (∀ k, (Value.slice (some ⟨g5, 0, none⟩) (gs.length + 1) cap).ownBlock = some k → ¬ k < w.heap.size) ∧ w.grownBy w5 (some b) ∧ w5.heap[b]? = some (qblk s j2) ∧ TRL w5 (fun k => k < w.heap.size ∨ (Value.slice (some ⟨g5, 0, none⟩) (gs.length + 1) cap).ownBlock = some k) (nfL (ts ++ [.seq t])) (gs ++ [g])) := by
        obtain ⟨hown, hnil, hvn, hgw, hqb, hTL, _⟩ := unhide HF
        obtain ⟨hg2, hT, hq2⟩ := unhide HK
        obtain ⟨k1, k2, k3⟩ := push_keep (m := gs.length + 1) (cap := cap) (X := fun k => k < w.heap.size) (own_lt hown) (fun k hk => Nat.lt_of_lt_of_le hk hgw.size) hbl hg2 hgrow5 hat5
        refine ⟨by simpa [ptrs] using hown5, push_vn hvn hgw hg2 hat5, push_grown hvn hgw hg2 hgrow5, (k3 b (heap_lt hq2) hvb).trans hq2, ?_⟩
        rw [nfL_app, nfL, nfL]
        exact TRL.push (k2 (TR.loc _ _) hT) (k1 (TRL.loc _ _) hTL)
      clear hown5 hgrow5 hat5 hown2 HF HK
      by_cases h124 : pk s j2 = 124
      · have hnl : j2 < s.size := pk_lt (by rw [h124]; decide)
        have HT := hide (qtake_ok 124 (unhide HP).2.2.2.1 hs hnl h124)
        rw [if_pos h124] at HR
        clear h124
        go_wp2_with fail
        refine (unhide HT).mono ?_
        rintro e w6 ⟨rfl, h6, g6⟩
        go_wp2_with fail
        go_roundg (s.size - j)
        case measure => exact hgk
        case rel =>
          obtain ⟨k1, k2, k3, k4, k5⟩ := unhide HP
          refine ⟨gs ++ [g], ts ++ [.seq t], j2 + 1, m, own_same k1 (fun k e => grown_heap g6 k (own_lt k1 k e) (fun e' => k2 k e (by omega))), (fun e => by simp at e), k2, k3.trans g6, h6, TRL.kept (fun k hk hz => grown_heap g6 k hk (fun e => hz (Or.inl (by omega)))) k5, ?_, by omega, by omega, hnl, by omega, by simp; omega⟩
          rw [unhide HR]
          simp
      · have HT := hide (qtake_no 124 (unhide HP).2.2.2.1 hs hj2 h124)
        rw [if_neg h124] at HR
        have HC := hide (fun n6 => pchoice (w := w5.drewN n6) (v := .slice (some ⟨g5, 0, none⟩) (gs.length + 1) cap) (gs := gs ++ [g]) (l := nfL (ts ++ [.seq t])) (Y := fun k => k < w.heap.size) (unhide HP).1 (fun e => by simp at e) (by simp; omega) (TRL.kept (w := w5) (w' := w5.drewN n6) (fun _ _ _ => rfl) (TRL.reY (w := w5) (fun k _ hk => Or.inl hk) (unhide HP).2.2.2.2)) (fun k hk => Nat.lt_of_lt_of_le hk (unhide HP).2.2.1.size))
        clear h124
        go_wp2_with fail
        refine (unhide HT).mono ?_
        rintro e w6 ⟨rfl, n6, rfl⟩
        go_wp2_with fail
        refine (unhide HC n6).mono ?_
        rintro e w7 ⟨g7, rfl, hg7, hT7⟩
        go_wp2
        go_ret
        rw [unhide HR]
        obtain ⟨k1, k2, k3, k4, k5⟩ := unhide HP
        refine ⟨hj2, (k3.trans (grown_drewN' _ n6 _)).andThen hg7 (fun k e => by cases e), (hg7.block b (heap_lt k4) (by simp)).trans k4, g7, rfl, ?_⟩
        rw [nf]
        exact hT7

theorem qpat_all {s : ByteArray} {b : Nat} (hs : s.size ≤ 120) : ∀ d i0, s.size + 1 - i0 ≤ d → QPatSaid s b i0
  | 0, i0, hd => fun w i h0 _ hi => by omega
  | d + 1, i0, hd => qpattern_of hs (qbase_of hs (qpat_all hs d (i0 + 1) (by omega)))

theorem qpattern {s : ByteArray} {b : Nat} (hs : s.size ≤ 120) : QPatSaid s b 0 := qpat_all hs (s.size + 1) 0 (by omega)

/-- what the program's reader of patterns answers: a tree in new memory and the place behind it; or nil, and the place that is to blame -/
def ReadPost (s : ByteArray) (w : World) (e : Ending) (w' : World) : Res (List PT) → Prop
  | .ok l j => j ≤ s.size ∧ w.grownBy w' none ∧ ∃ g : Nat, e = .returned (.tuple #[.pointer (some ⟨g, 0, none⟩), .int .i64 (j : Int)]) ∧ TR w' (fun k => k < w.heap.size) (nf (.alt l)) g
  | .err p => p ≤ s.size ∧ w.grownBy w' none ∧ e = .returned (.tuple #[.pointer none, .int .i64 (p : Int)])

set_option maxRecDepth 100000 in
set_option maxHeartbeats 1600000 in
theorem qread {w : World} {s : ByteArray} {i : Nat} (hs : s.size ≤ 120) (hi : i ≤ s.size) (n : Nat) (hn : 4 * (s.size - i) + 4 ≤ n) :
    Calls Tryz.prog 187 #[.string s, .int .i64 (i : Int)] w fun e w' => ReadPost s w e w' (gAlts s n i) := by
  have HP := hide (qpattern (b := w.heap.size) hs (w.alloc (qblk s i)) i (Nat.zero_le _) (heap_alloc_new w _) hi n hn)
  generalize hr : gAlts s n i = r at HP
  clear hr hn
  go_enter Tryz.func187, Tryz.ntmps187
  go_wp2_with fail
  refine (unhide HP).mono ?_
  rintro e w1 hP1
  cases r with
  | err p =>
    obtain ⟨hp, hg, hq, rfl⟩ := hP1
    have c1 := cellOf hq 1
    simp at c1
    have HG := hide (And.intro hp hg)
    clear hq hg HP hp
    go_wp2_with fail
    go_region
    all_goals
      go_wp2
      go_ret2
      obtain ⟨hp, hg⟩ := unhide HG
      exact ⟨hp, ((World.grownBy_alloc w _ none).andThen hg (fun k e => Or.inl (by cases e; exact Nat.le_refl _))).trans (grown_drew' _ _), rfl⟩
  | ok l j =>
    obtain ⟨hj, hg, hq, g, rfl, hT⟩ := hP1
    have c1 := cellOf hq 1
    simp at c1
    have HG := hide (And.intro hj (And.intro hg hT))
    clear hq hg HP hj hT
    go_wp2_with fail
    go_region
    all_goals
      go_wp2
      go_ret2
      obtain ⟨hj, hg, hT⟩ := unhide HG
      refine ⟨hj, ((World.grownBy_alloc w _ none).andThen hg (fun k e => Or.inl (by cases e; exact Nat.le_refl _))).trans (grown_drew' _ _), g, rfl, ?_⟩
      exact TR.kept (w := w1) (w' := w1.drew) (fun _ _ _ => rfl) (TR.reY (fun k _ hk => by simp; omega) hT)

end Go.Proofs.YtlljggefbngkeaaGreatDoor

namespace Go.Proofs.YtlljggefbngkeaaGreatDoor
open Go.RowKit

/-- a lens of the program's: kind, parts, joints, pattern, written, view, default, its place -/
def lblk (kind : Int) (pv jv pat : Value) (wr vw df : ByteArray) (at_ : Nat) : Obj := .cells #[.int .i64 kind, pv, jv, pat, .string wr, .string vw, .string df, .int .i64 (at_ : Int)] 118 (0, 0)
/-- one that is made of parts -/
def pblk2 (kind : Int) (pv jv : Value) : Obj := lblk kind pv jv (.pointer none) ⟨#[]⟩ ⟨#[]⟩ ⟨#[]⟩ 0

/-- the parts' row -/
def LW (w : World) (Y : Nat → Prop) (v : Value) (gs : List Nat) : Prop := w.ownsRow 0 54 1 v gs.length (ptrs gs) ∧ ∀ k, v.ownBlock = some k → ¬ Y k
/-- the joints' row -/
def JW (w : World) (Y : Nat → Prop) (v : Value) (ps : List Nat) : Prop := w.ownsRow 0 3 1 v ps.length (nums ps) ∧ ∀ k, v.ownBlock = some k → ¬ Y k

theorem LW.kept {w w' : World} {Y : Nat → Prop} {v : Value} {gs : List Nat} (h : LW w Y v gs) (hk : ∀ k, k < w.heap.size → ¬ Y k → w'.heap[k]? = w.heap[k]?) : LW w' Y v gs :=
  ⟨own_same h.1 fun k e => hk k (own_lt h.1 k e) (h.2 k e), h.2⟩
theorem LW.reY {w : World} {Y Z : Nat → Prop} {v : Value} {gs : List Nat} (h : LW w Y v gs) (hZ : ∀ k, k < w.heap.size → Z k → Y k) : LW w Z v gs :=
  ⟨h.1, fun k e hz => h.2 k e (hZ k (own_lt h.1 k e) hz)⟩
theorem JW.kept {w w' : World} {Y : Nat → Prop} {v : Value} {gs : List Nat} (h : JW w Y v gs) (hk : ∀ k, k < w.heap.size → ¬ Y k → w'.heap[k]? = w.heap[k]?) : JW w' Y v gs :=
  ⟨own_same h.1 fun k e => hk k (own_lt h.1 k e) (h.2 k e), h.2⟩
theorem JW.reY {w : World} {Y Z : Nat → Prop} {v : Value} {gs : List Nat} (h : JW w Y v gs) (hZ : ∀ k, k < w.heap.size → Z k → Y k) : JW w Z v gs :=
  ⟨h.1, fun k e hz => h.2 k e (hZ k (own_lt h.1 k e) hz)⟩

section
variable (s : ByteArray)
mutual
/-- a lens's tree in memory, outside Y -/
def LR (w : World) (Y : Nat → Prop) : LT → Nat → Prop
  | .same l i j, g => ¬ Y g ∧ ∃ p, w.heap[g]? = some (lblk 0 (.slice none 0 0) (.slice none 0 0) (.pointer (some ⟨p, 0, none⟩)) (s.extract i j) ⟨#[]⟩ ⟨#[]⟩ 0) ∧ TR w Y (nf (.alt l)) p
  | .fixed l i j v d a, g => ¬ Y g ∧ ∃ p, w.heap[g]? = some (lblk 1 (.slice none 0 0) (.slice none 0 0) (.pointer (some ⟨p, 0, none⟩)) (s.extract i j) (txt v) (txt d) a) ∧ TR w Y (nf (.alt l)) p
  | .swap at_ a b, g => ¬ Y g ∧ ∃ v jv ga gb, w.heap[g]? = some (pblk2 2 v jv) ∧ LW w Y v [ga, gb] ∧ JW w Y jv [at_] ∧ LR w Y a ga ∧ LR w Y b gb
  | .group a, g => ¬ Y g ∧ ∃ v ga, w.heap[g]? = some (pblk2 3 v (.slice none 0 0)) ∧ LW w Y v [ga] ∧ LR w Y a ga
  | .many at_ a, g => ¬ Y g ∧ ∃ v jv ga, w.heap[g]? = some (pblk2 4 v jv) ∧ LW w Y v [ga] ∧ JW w Y jv [at_] ∧ LR w Y a ga
  | .row l ps, g => ¬ Y g ∧ ∃ v jv gs, w.heap[g]? = some (pblk2 5 v jv) ∧ LW w Y v gs ∧ JW w Y jv ps ∧ LRL w Y l gs
  | .choice l ps, g => ¬ Y g ∧ ∃ v jv gs, w.heap[g]? = some (pblk2 6 v jv) ∧ LW w Y v gs ∧ JW w Y jv ps ∧ LRL w Y l gs
def LRL (w : World) (Y : Nat → Prop) : List LT → List Nat → Prop
  | [], [] => True
  | t :: l, g :: gs => LR w Y t g ∧ LRL w Y l gs
  | _, _ => False
end

variable {s}
mutual
theorem LR.kept {w w' : World} {Y : Nat → Prop} (hk : ∀ k, k < w.heap.size → ¬ Y k → w'.heap[k]? = w.heap[k]?) : ∀ {t : LT} {g : Nat}, LR s w Y t g → LR s w' Y t g
  | .same l i j, g, h => by
    rw [LR] at *
    obtain ⟨h0, p, h1, h2⟩ := h
    exact ⟨h0, p, (hk g (heap_lt h1) h0).trans h1, h2.kept hk⟩
  | .fixed l i j v d a, g, h => by
    rw [LR] at *
    obtain ⟨h0, p, h1, h2⟩ := h
    exact ⟨h0, p, (hk g (heap_lt h1) h0).trans h1, h2.kept hk⟩
  | .swap at_ a b, g, h => by
    rw [LR] at *
    obtain ⟨h0, v, jv, ga, gb, h1, h2, h3, h4, h5⟩ := h
    exact ⟨h0, v, jv, ga, gb, (hk g (heap_lt h1) h0).trans h1, h2.kept hk, h3.kept hk, LR.kept hk h4, LR.kept hk h5⟩
  | .group a, g, h => by
    rw [LR] at *
    obtain ⟨h0, v, ga, h1, h2, h4⟩ := h
    exact ⟨h0, v, ga, (hk g (heap_lt h1) h0).trans h1, h2.kept hk, LR.kept hk h4⟩
  | .many at_ a, g, h => by
    rw [LR] at *
    obtain ⟨h0, v, jv, ga, h1, h2, h3, h4⟩ := h
    exact ⟨h0, v, jv, ga, (hk g (heap_lt h1) h0).trans h1, h2.kept hk, h3.kept hk, LR.kept hk h4⟩
  | .row l ps, g, h => by
    rw [LR] at *
    obtain ⟨h0, v, jv, gs, h1, h2, h3, h4⟩ := h
    exact ⟨h0, v, jv, gs, (hk g (heap_lt h1) h0).trans h1, h2.kept hk, h3.kept hk, LRL.kept hk h4⟩
  | .choice l ps, g, h => by
    rw [LR] at *
    obtain ⟨h0, v, jv, gs, h1, h2, h3, h4⟩ := h
    exact ⟨h0, v, jv, gs, (hk g (heap_lt h1) h0).trans h1, h2.kept hk, h3.kept hk, LRL.kept hk h4⟩
theorem LRL.kept {w w' : World} {Y : Nat → Prop} (hk : ∀ k, k < w.heap.size → ¬ Y k → w'.heap[k]? = w.heap[k]?) : ∀ {l : List LT} {gs : List Nat}, LRL s w Y l gs → LRL s w' Y l gs
  | [], [], _ => by rw [LRL]; trivial
  | t :: l, g :: gs, h => by rw [LRL] at *; exact ⟨LR.kept hk h.1, LRL.kept hk h.2⟩
  | [], k :: ks, h => by simp [LRL] at h
  | t :: l, [], h => by simp [LRL] at h
end

mutual
theorem LR.reY {w : World} {Y Z : Nat → Prop} (hZ : ∀ k, k < w.heap.size → Z k → Y k) : ∀ {t : LT} {g : Nat}, LR s w Y t g → LR s w Z t g
  | .same l i j, g, h => by
    rw [LR] at *
    obtain ⟨h0, p, h1, h2⟩ := h
    exact ⟨fun hz => h0 (hZ g (heap_lt h1) hz), p, h1, h2.reY hZ⟩
  | .fixed l i j v d a, g, h => by
    rw [LR] at *
    obtain ⟨h0, p, h1, h2⟩ := h
    exact ⟨fun hz => h0 (hZ g (heap_lt h1) hz), p, h1, h2.reY hZ⟩
  | .swap at_ a b, g, h => by
    rw [LR] at *
    obtain ⟨h0, v, jv, ga, gb, h1, h2, h3, h4, h5⟩ := h
    exact ⟨fun hz => h0 (hZ g (heap_lt h1) hz), v, jv, ga, gb, h1, h2.reY hZ, h3.reY hZ, LR.reY hZ h4, LR.reY hZ h5⟩
  | .group a, g, h => by
    rw [LR] at *
    obtain ⟨h0, v, ga, h1, h2, h4⟩ := h
    exact ⟨fun hz => h0 (hZ g (heap_lt h1) hz), v, ga, h1, h2.reY hZ, LR.reY hZ h4⟩
  | .many at_ a, g, h => by
    rw [LR] at *
    obtain ⟨h0, v, jv, ga, h1, h2, h3, h4⟩ := h
    exact ⟨fun hz => h0 (hZ g (heap_lt h1) hz), v, jv, ga, h1, h2.reY hZ, h3.reY hZ, LR.reY hZ h4⟩
  | .row l ps, g, h => by
    rw [LR] at *
    obtain ⟨h0, v, jv, gs, h1, h2, h3, h4⟩ := h
    exact ⟨fun hz => h0 (hZ g (heap_lt h1) hz), v, jv, gs, h1, h2.reY hZ, h3.reY hZ, LRL.reY hZ h4⟩
  | .choice l ps, g, h => by
    rw [LR] at *
    obtain ⟨h0, v, jv, gs, h1, h2, h3, h4⟩ := h
    exact ⟨fun hz => h0 (hZ g (heap_lt h1) hz), v, jv, gs, h1, h2.reY hZ, h3.reY hZ, LRL.reY hZ h4⟩
theorem LRL.reY {w : World} {Y Z : Nat → Prop} (hZ : ∀ k, k < w.heap.size → Z k → Y k) : ∀ {l : List LT} {gs : List Nat}, LRL s w Y l gs → LRL s w Z l gs
  | [], [], _ => by rw [LRL]; trivial
  | t :: l, g :: gs, h => by rw [LRL] at *; exact ⟨LR.reY hZ h.1, LRL.reY hZ h.2⟩
  | [], k :: ks, h => by simp [LRL] at h
  | t :: l, [], h => by simp [LRL] at h
end

theorem LRL.push {w : World} {Y : Nat → Prop} {t : LT} {g : Nat} (ht : LR s w Y t g) : ∀ {l : List LT} {gs : List Nat}, LRL s w Y l gs → LRL s w Y (l ++ [t]) (gs ++ [g])
  | [], [], _ => by rw [List.nil_append, List.nil_append, LRL, LRL]; exact ⟨ht, trivial⟩
  | u :: l, k :: gs, h => by rw [List.cons_append, List.cons_append, LRL] at *; exact ⟨h.1, LRL.push ht h.2⟩
  | [], k :: ks, h => by simp [LRL] at h
  | t :: l, [], h => by simp [LRL] at h
theorem LRL.len {w : World} {Y : Nat → Prop} : ∀ {l : List LT} {gs : List Nat}, LRL s w Y l gs → gs.length = l.length
  | [], [], _ => rfl
  | u :: l, k :: gs, h => by rw [LRL] at h; simp [LRL.len h.2]
  | [], k :: ks, h => by simp [LRL] at h
  | t :: l, [], h => by simp [LRL] at h
end

/-- what a reader of lenses answers: a tree in new memory and the place behind it; or nil, and the place that is to blame -/
def SPost (b : Nat) (s : ByteArray) (w : World) (e : Ending) (w' : World) : Res LT → Prop
  | .ok t j => j ≤ s.size ∧ w.grownBy w' (some b) ∧ w'.heap[b]? = some (sblk s j) ∧ ∃ g, e = .returned (.pointer (some ⟨g, 0, none⟩)) ∧ LR s w' (fun k => k < w.heap.size) t g
  | .err p => p ≤ s.size ∧ w.grownBy w' (some b) ∧ w'.heap[b]? = some (sblk s p) ∧ e = .returned (.pointer none)

theorem SPost.from_ {b : Nat} {s : ByteArray} {w w1 : World} {e : Ending} {w' : World} {r : Res LT} (hg : w.grownBy w1 (some b)) (h : SPost b s w1 e w' r) : SPost b s w e w' r := by
  cases r with
  | ok t j =>
    obtain ⟨h1, h2, h3, g, h4, h5⟩ := h
    exact ⟨h1, hg.trans h2, h3, g, h4, LR.reY (fun k _ hk => Nat.lt_of_lt_of_le hk hg.size) h5⟩
  | err p =>
    obtain ⟨h1, h2, h3, h4⟩ := h
    exact ⟨h1, hg.trans h2, h3, h4⟩

theorem pe_eq {s : ByteArray} {i : Nat} {c : Int} (hc : 0 < c) : pe s i = c ↔ pk s i = c := by
  unfold pe
  split
  · exact Iff.rfl
  · have : pk s i = 0 := by simp [pk]; omega
    rw [this]
    omega

theorem skipB_idem (s : ByteArray) (i : Nat) (hi : i ≤ s.size) : skipB s (skipB s i) = skipB s i := by
  by_cases hb : blankI (pk s (skipB s i)) = true
  · exfalso
    have key : ∀ n i, i + n = s.size → blankI (pk s (skipN s n i)) = false := by
      intro n
      induction n with
      | zero => intro i h; rw [skipN]; have : pk s i = 0 := (by simp [pk]; omega); rw [this]; rfl
      | succ n ih =>
        intro i h
        rw [skipN]
        split
        · exact ih (i + 1) (by omega)
        · rename_i h2
          simpa using h2
    have := key (s.size - i) i (by omega)
    rw [skipB] at hb
    rw [this] at hb
    cases hb
  · exact skipB_stop s _ (by simpa using hb)

end Go.Proofs.YtlljggefbngkeaaGreatDoor

namespace Go.Proofs.YtlljggefbngkeaaGreatDoor
open Go.RowKit

/-- a text in quotes -/
def QtPost (b : Nat) (s : ByteArray) (w : World) (a : Nat) (e : Ending) (w' : World) : Res (List UInt8) → Prop
  | .ok l j => j ≤ s.size ∧ w.grownBy w' (some b) ∧ w'.heap[b]? = some (sblk s j) ∧ e = .returned (.tuple #[.string (txt l), .int .i64 (a : Int), .bool true])
  | .err p => p ≤ s.size ∧ w.grownBy w' (some b) ∧ w'.heap[b]? = some (sblk s p) ∧ ∃ x y, e = .returned (.tuple #[.string x, .int .i64 y, .bool false])

theorem sset {w : World} {b : Nat} {s : ByteArray} {i : Nat} (h : w.heap[b]? = some (sblk s i)) (j : Nat) : (w.setCell ⟨b, 1, none⟩ (.int .i64 (j : Int))).heap[b]? = some (sblk s j) := by
  have := heap_set h 1 (.int .i64 (j : Int))
  simpa [sblk] using this

set_option maxRecDepth 100000 in
set_option maxHeartbeats 1600000 in
theorem squoted {w : World} {b : Nat} {s : ByteArray} {i : Nat} (h : w.heap[b]? = some (sblk s i)) (hs : s.size ≤ 120) (hi : i ≤ s.size) :
    Calls Tryz.prog 196 #[.pointer (some ⟨b, 0, none⟩)] w fun e w' => QtPost b s w (skipB s i) e w' (gQuoted s (skipB s i)) := by
  have hbd := (skipB_bd s i hi).2
  by_cases h34 : pk s (skipB s i) = 34
  · have hlt : skipB s i < s.size := pk_lt (by rw [h34]; decide)
    have HT := hide (stake_ok 34 (by decide) (by decide) h hs hi ((pe_eq (by decide)).2 h34))
    have HR : Hid (gQuoted s (skipB s i) = if pk s (signsE s (skipB s i + 1)) = 34 then .ok (sub s.data.toList (skipB s i + 1) (signsE s (skipB s i + 1))) (signsE s (skipB s i + 1) + 1) else .err (signsE s (skipB s i + 1))) := by
      show _ = _
      rw [gQuoted, if_pos h34]
    rw [unhide HR]
    clear HR h h34
    generalize skipB s i = a at *
    generalize hen : signsE s (a + 1) = en
    have Hen := hide hen
    clear hen
    generalize hrr : (if pk s en = 34 then Res.ok (sub s.data.toList (a + 1) en) (en + 1) else Res.err en) = rr
    have HRR := hide hrr
    clear hrr
    go_enter Tryz.func196, Tryz.ntmps196
    go_wp2_with fail
    refine (unhide HT).mono ?_
    rintro e w1 ⟨rfl, h1, g1⟩
    have c1 := cellOf h1 1
    simp at c1
    have HB := hide (And.intro h1 g1)
    clear h1 g1
    go_wp2_with fail
    go_loopg [14] (s.size - a) (fun k _ wv => ∃ j, a + 1 ≤ j ∧ j ≤ s.size ∧ s.size - j ≤ k ∧ signsE s j = en ∧ wv.heap[b]? = some (sblk s j) ∧ w.grownBy wv (some b))
    case atStart => exact ⟨a + 1, Nat.le_refl _, hlt, by omega, unhide Hen, (unhide HB).1, (unhide HB).2⟩
    case round =>
      obtain ⟨j, haj, hj, hk, hsk, hb, hg⟩ := hrel
      have HI := hide (And.intro hk (And.intro hsk (And.intro hb hg)))
      have c0 := cellOf hb 0
      have d1 := cellOf hb 1
      have fz := frozenOf hb 1
      clear hk hsk hb hg c1
      simp at c0 d1
      by_cases hlt2 : j < s.size
      · have hd : (j : Int) < (s.size : Int) := by omega
        have hpk : pk s j = (s[j].toNat : Int) := by simp [pk, hlt2]
        have hpb : 0 ≤ (s[j].toNat : Int) ∧ (s[j].toNat : Int) ≤ 255 := by rw [← hpk]; exact pk_bd s j
        have HC := hide (fun W : World => isSign_any (s[j].toNat : Int) hpb.1 hpb.2 W)
        cases hsg : signI (pk s j) with
        | true =>
          have HS : Hid (signI (s[j].toNat : Int) = true) := by rw [← hpk]; exact hsg
          rw [unhide HS] at HC
          have Hsg := hide hsg
          clear hpk hsg HS hpb
          go_wp2_with fail
          go_quiet (first | (go_at_call 201; refine Calls.quiet_of_same (unhide HC _)))
          go_wp2_with fail
          go_roundg (gk - 1)
          case measure => have := (unhide HI).1; omega
          case rel =>
            obtain ⟨hk, hsk, hb, hg⟩ := unhide HI
            refine ⟨j + 1, by omega, by omega, by omega, ?_, ?_, ?_⟩
            · rw [← hsk, signsE_step s j hlt2 (unhide Hsg)]
            · have h1 := sset (w := wr.drewN nq) hb (j + 1)
              simpa using h1
            · exact (hg.trans (grown_drewN' _ nq _)).trans (grown_set _ _ _ _)
        | false =>
          have HS : Hid (signI (s[j].toNat : Int) = false) := by rw [← hpk]; exact hsg
          rw [unhide HS] at HC
          have hen : en = j := by rw [← (unhide HI).2.1]; exact signsE_stop s j hsg
          clear hpk hsg HS hpb
          subst hen
          go_wp2_with fail
          go_quiet (first | (go_at_call 201; refine Calls.quiet_of_same (unhide HC _)))
          have hb1 : (a : Int) + 1 ≤ (en : Int) := by omega
          have hb2 : (en : Int) ≤ (s.size : Int) := by omega
          go_wp2_with fail
          go_quiet (fail)
          by_cases h34 : pk s en = 34
          · have hel : en < s.size := pk_lt (by rw [h34]; decide)
            have HCl := hide (fun n => sclose_ok (w := wr.drewN n) 34 (by decide) (unhide HI).2.2.1 hs hj ((pe_eq (by decide)).2 h34))
            have H34 := hide h34
            clear h34
            go_wp2_with fail
            refine (unhide HCl _).mono ?_
            rintro e w5 ⟨rfl, h5, g5⟩
            go_wp2
            go_ret3
            rw [← unhide HRR, if_pos (unhide H34)]
            refine ⟨hel, ((unhide HI).2.2.2.trans (grown_drewN' _ _ _)).trans g5, h5, ?_⟩
            rw [txt_sub]
            simp
          · have HCl := hide (fun n => sclose_no (w := wr.drewN n) 34 (unhide HI).2.2.1 hs hj (fun e => h34 ((pe_eq (by decide)).1 e)))
            have H34 := hide h34
            clear h34
            go_wp2_with fail
            refine (unhide HCl _).mono ?_
            rintro e w5 ⟨rfl, n5, rfl⟩
            go_wp2
            go_ret3
            rw [← unhide HRR, if_neg (unhide H34)]
            exact ⟨hj, (unhide HI).2.2.2.trans (grown_drewN' _ _ _), (unhide HI).2.2.1, _, _, rfl⟩
      · have hd : decide ((j : Int) < (s.size : Int)) = false := by simp; omega
        have hen : en = j := by rw [← (unhide HI).2.1]; exact signsE_stop s j (by simp [pk, hlt2]; rfl)
        subst hen
        go_wp2_with fail
        go_quiet (fail)
        have hb1 : (a : Int) + 1 ≤ (en : Int) := by omega
        have hb2 : (en : Int) ≤ (s.size : Int) := by omega
        go_wp2_with fail
        go_quiet (fail)
        by_cases h34 : pk s en = 34
        · have hel : en < s.size := pk_lt (by rw [h34]; decide)
          have HCl := hide (fun n => sclose_ok (w := wr.drewN n) 34 (by decide) (unhide HI).2.2.1 hs hj ((pe_eq (by decide)).2 h34))
          have H34 := hide h34
          clear h34
          go_wp2_with fail
          refine (unhide HCl _).mono ?_
          rintro e w5 ⟨rfl, h5, g5⟩
          go_wp2
          go_ret3
          rw [← unhide HRR, if_pos (unhide H34)]
          refine ⟨hel, ((unhide HI).2.2.2.trans (grown_drewN' _ _ _)).trans g5, h5, ?_⟩
          rw [txt_sub]
          simp
        · have HCl := hide (fun n => sclose_no (w := wr.drewN n) 34 (unhide HI).2.2.1 hs hj (fun e => h34 ((pe_eq (by decide)).1 e)))
          have H34 := hide h34
          clear h34
          go_wp2_with fail
          refine (unhide HCl _).mono ?_
          rintro e w5 ⟨rfl, n5, rfl⟩
          go_wp2
          go_ret3
          rw [← unhide HRR, if_neg (unhide H34)]
          exact ⟨hj, (unhide HI).2.2.2.trans (grown_drewN' _ _ _), (unhide HI).2.2.1, _, _, rfl⟩
  · have HT := hide (stake_no 34 (by decide) (by decide) h hs hi (fun e => h34 ((pe_eq (by decide)).1 e)))
    have HR : Hid (gQuoted s (skipB s i) = .err (skipB s i)) := by
      show _ = _
      rw [gQuoted, if_neg h34]
    clear h h34
    go_enter Tryz.func196, Tryz.ntmps196
    go_wp2_with fail
    refine (unhide HT).mono ?_
    rintro e w1 ⟨rfl, h1, g1⟩
    go_wp2
    go_ret3
    rw [unhide HR]
    exact ⟨hbd, g1, h1, _, _, rfl⟩

end Go.Proofs.YtlljggefbngkeaaGreatDoor

namespace Go.Proofs.YtlljggefbngkeaaGreatDoor
open Go.RowKit

/-- what stands behind a pattern that is seen as one text -/
def gFixed (s : ByteArray) (l : List PT) (i0 j0 i : Nat) : Res LT :=
  (gQuoted s (skipB s i)).bind fun v k => (gQuoted s (skipB s k)).bind fun d m => .ok (.fixed l i0 j0 v d (skipB s k)) m

theorem lblk_fixed {w : World} {g p : Nat} {wr vw df : ByteArray} {at_ : Nat} (h : w.heap[g]? = some (lblk 0 (.slice none 0 0) (.slice none 0 0) (.pointer (some ⟨p, 0, none⟩)) wr ⟨#[]⟩ ⟨#[]⟩ 0)) :
    ((((w.setCell ⟨g, 0, none⟩ (.int .i64 1)).setCell ⟨g, 5, none⟩ (.string vw)).setCell ⟨g, 6, none⟩ (.string df)).setCell ⟨g, 7, none⟩ (.int .i64 (at_ : Int))).heap[g]? = some (lblk 1 (.slice none 0 0) (.slice none 0 0) (.pointer (some ⟨p, 0, none⟩)) wr vw df at_) := by
  have h1 := heap_set h 0 (.int .i64 1)
  have h2 := heap_set h1 5 (.string vw)
  have h3 := heap_set h2 6 (.string df)
  have h4 := heap_set h3 7 (.int .i64 (at_ : Int))
  simpa [lblk] using h4

set_option maxRecDepth 100000 in
set_option maxHeartbeats 1600000 in
theorem sfixed {w0 w : World} {b g p : Nat} {s : ByteArray} {i i0 j0 : Nat} {l : List PT} (hg0 : w0.grownBy w (some b)) (hb0 : b < w0.heap.size) (hgp : w0.heap.size ≤ g) (h : w.heap[b]? = some (sblk s i)) (hs : s.size ≤ 120) (hi : i ≤ s.size)
    (hp : w.heap[g]? = some (lblk 0 (.slice none 0 0) (.slice none 0 0) (.pointer (some ⟨p, 0, none⟩)) (s.extract i0 j0) ⟨#[]⟩ ⟨#[]⟩ 0)) (hT : TR w (fun k => k < w0.heap.size ∨ k = g) (nf (.alt l)) p) :
    Calls Tryz.prog 189 #[.pointer (some ⟨b, 0, none⟩), .pointer (some ⟨g, 0, none⟩)] w fun e w' => SPost b s w0 e w' (gFixed s l i0 j0 i) := by
  have HQ := hide (squoted h hs hi)
  have HP := hide (And.intro hg0 (And.intro hp hT))
  generalize hrr : gFixed s l i0 j0 i = rr
  unfold gFixed at hrr
  clear h hg0 hp hT
  go_enter Tryz.func189, Tryz.ntmps189
  go_wp2_with fail
  refine (unhide HQ).mono ?_
  rintro e w1 hP1
  cases hq : gQuoted s (skipB s i) with
  | err p1 =>
    rw [hq] at hP1 hrr
    obtain ⟨h1, h2, h3, x, y, rfl⟩ := hP1
    have HR := hide hrr
    clear hrr hq HQ
    go_wp2
    go_ret
    rw [← unhide HR]
    exact ⟨h1, (unhide HP).1.trans h2, h3, rfl⟩
  | ok v k =>
    rw [hq] at hP1 hrr
    obtain ⟨h1, h2, h3, rfl⟩ := hP1
    simp only [Res.bind] at hrr
    have HQ2 := hide (squoted h3 hs h1)
    have HW1 := hide h2
    clear hq HQ h2 h3
    go_wp2_with fail
    refine (unhide HQ2).mono ?_
    rintro e w2 hP2
    cases hq : gQuoted s (skipB s k) with
    | err p1 =>
      rw [hq] at hP2 hrr
      obtain ⟨h1, h2, h3, x, y, rfl⟩ := hP2
      have HR := hide hrr
      clear hrr hq HQ2
      go_wp2
      go_ret
      rw [← unhide HR]
      exact ⟨h1, ((unhide HP).1.trans (unhide HW1)).trans h2, h3, rfl⟩
    | ok d m =>
      rw [hq] at hP2 hrr
      obtain ⟨h1, h2, h3, rfl⟩ := hP2
      simp only at hrr
      have hg12 := (unhide HW1).trans h2
      have hp2 : w2.heap[g]? = some (lblk 0 (.slice none 0 0) (.slice none 0 0) (.pointer (some ⟨p, 0, none⟩)) (s.extract i0 j0) ⟨#[]⟩ ⟨#[]⟩ 0) := (grown_heap hg12 g (heap_lt (unhide HP).2.1) (by omega)).trans (unhide HP).2.1
      have HR := hide hrr
      have HW2 := hide (And.intro h3 (And.intro hg12 hp2))
      have c0 := cellOf hp2 0
      have c5 := cellOf hp2 5
      have c6 := cellOf hp2 6
      have c7 := cellOf hp2 7
      simp at c0 c5 c6 c7
      have f0 := frozenOf hp2 0
      have f5 := frozenOf hp2 5
      have f6 := frozenOf hp2 6
      have f7 := frozenOf hp2 7
      clear hrr hq HQ2 h2 h3 hp2 hg12
      go_wp2
      go_ret
      rw [← unhide HR]
      obtain ⟨h3, hg12, hp2⟩ := unhide HW2
      obtain ⟨hg0, hp, hT⟩ := unhide HP
      have k1 := lblk_fixed (vw := txt v) (df := txt d) (at_ := skipB s k) hp2
      have hset : w2.grownBy ((((w2.setCell ⟨g, 0, none⟩ (.int .i64 1)).setCell ⟨g, 5, none⟩ (.string (txt v))).setCell ⟨g, 6, none⟩ (.string (txt d))).setCell ⟨g, 7, none⟩ (.int .i64 ((skipB s k : Nat) : Int))) (some g) :=
        (((grown_set _ _ _ _).trans (grown_set _ _ _ _)).trans (grown_set _ _ _ _)).trans (grown_set _ _ _ _)
      refine ⟨h1, (hg0.trans hg12).andThen hset (fun k e => Or.inl (by cases e; exact hgp)), (grown_heap hset b (heap_lt h3) (by omega)).trans h3, g, rfl, ?_⟩
      rw [LR]
      refine ⟨by omega, p, k1, ?_⟩
      refine TR.reY (fun k _ hk => Or.inl hk) (TR.kept (fun k hk hz => ?_) hT)
      rw [grown_heap hset k (Nat.lt_of_lt_of_le hk hg12.size) (fun e => hz (Or.inr e))]
      exact grown_heap hg12 k hk (fun e => hz (Or.inl (by omega)))

end Go.Proofs.YtlljggefbngkeaaGreatDoor

namespace Go.Proofs.YtlljggefbngkeaaGreatDoor
open Go.RowKit

theorem SPost.ptr {b : Nat} {s : ByteArray} {w w' : World} {e : Ending} {r : Res LT} (h : SPost b s w e w' r) : ∃ a, e = .returned (.pointer a) := by
  cases r with
  | ok t j => obtain ⟨_, _, _, g, he, _⟩ := h; exact ⟨_, he⟩
  | err p => exact ⟨_, h.2.2.2⟩

theorem gPlain_eq (s : ByteArray) (n i : Nat) : gPlain s n i = (gAlts s n (i + 1)).bind fun l j => if pk s j = 47 then (if pk s (skipB s (j + 1)) = 34 then gFixed s l i (j + 1) (j + 1) else .ok (.same l i (j + 1)) (skipB s (j + 1))) else .err j := rfl

set_option maxRecDepth 100000 in
set_option maxHeartbeats 3200000 in
theorem spattern {w : World} {b : Nat} {s : ByteArray} {i : Nat} (h : w.heap[b]? = some (sblk s (i + 1))) (hs : s.size ≤ 120) (hi : i + 1 ≤ s.size) :
    Calls Tryz.prog 175 #[.pointer (some ⟨b, 0, none⟩)] w fun e w' => SPost b s w e w' (gPlain s (4 * s.size + 4) i) := by
  have HR := hide (fun W : World => qread (w := W) hs hi (4 * s.size + 4) (by omega))
  have c0 := cellOf h 0
  have c1 := cellOf h 1
  have f1 := frozenOf h 1
  simp at c0 c1
  have hbl := heap_lt h
  have HB := hide h
  generalize hrr : gPlain s (4 * s.size + 4) i = rr
  rw [gPlain_eq] at hrr
  clear h
  cases hg : gAlts s (4 * s.size + 4) (i + 1) with
  | err p =>
    rw [hg] at HR hrr
    have HRR := hide hrr
    clear hg hrr
    go_enter Tryz.func175, Tryz.ntmps175
    go_wp2_with fail
    go_region_law (go_simp; go_at_call 187; refine (unhide HR _).mono ?_; rintro e w1 ⟨hp, hg1, rfl⟩; have hb1 := (hg1.block b hbl (by simp)).trans (unhide HB); have c11 := cellOf hb1 1; simp at c11; have f11 := frozenOf hb1 1)
    all_goals
      go_wp2
      go_ret
      rw [← unhide HRR]
      refine ⟨hp, ((grown_drew' w (some b)).andThen hg1 (fun k e => by cases e)).trans (grown_set _ _ _ _), sset hb1 p, rfl⟩
  | ok l j =>
    rw [hg] at HR hrr
    have hlt := (g_lt s _).2.2 _ _ _ hg
    simp only [Res.bind] at hrr
    clear hg
    go_enter Tryz.func175, Tryz.ntmps175
    go_wp2_with fail
    go_region_law (go_simp; go_at_call 187; refine (unhide HR _).mono ?_; rintro e w1 ⟨hj, hg1, p, rfl, hT1⟩; have hb1 := (hg1.block b hbl (by simp)).trans (unhide HB); have c11 := cellOf hb1 1; simp at c11; have f11 := frozenOf hb1 1)
    all_goals
      have hb2 := sset hb1 j
      have hg2 : w.grownBy (w1.setCell ⟨b, 1, none⟩ (.int .i64 (j : Int))) (some b) := ((grown_drew' w (some b)).andThen hg1 (fun k e => by cases e)).trans (grown_set _ _ _ _)
      have hT2 : TR (w1.setCell ⟨b, 1, none⟩ (.int .i64 (j : Int))) (fun k => k < w.heap.size) (nf (.alt l)) p := TR.kept (fun k hk hz => Below.heap_setCell _ _ _ _ (fun e => hz (by show k < w.heap.size; simp at e; omega))) hT1
      by_cases h47 : pk s j = 47
      · have hjl : j < s.size := pk_lt (by rw [h47]; decide)
        have HCl := hide (sclose_ok 47 (by decide) hb2 hs hj ((pe_eq (by decide)).2 h47))
        rw [if_pos h47] at hrr
        have HG := hide (And.intro hg2 hT2)
        clear h47 hb2 hg2 hT2 hT1 hg1 hb1
        go_wp2_with fail
        refine (unhide HCl).mono ?_
        rintro e w3 ⟨rfl, hb3, hg3⟩
        have d0 := cellOf hb3 0
        have d1 := cellOf hb3 1
        simp at d0 d1
        have HB3 := hide (And.intro hb3 hg3)
        clear hb3 hg3
        have hb1 : (i : Int) ≤ (j : Int) + 1 := by omega
        have hb2 : (j : Int) + 1 ≤ (s.size : Int) := by omega
        have hb4 : (w3.alloc (lblk 0 (.slice none 0 0) (.slice none 0 0) (.pointer (some ⟨p, 0, none⟩)) (s.extract i (j + 1)) ⟨#[]⟩ ⟨#[]⟩ 0)).drew.heap[b]? = some (sblk s (j + 1)) := heap_alloc_old _ (unhide HB3).1
        have hg4 : w.grownBy (w3.alloc (lblk 0 (.slice none 0 0) (.slice none 0 0) (.pointer (some ⟨p, 0, none⟩)) (s.extract i (j + 1)) ⟨#[]⟩ ⟨#[]⟩ 0)).drew (some b) := (((unhide HG).1.trans (unhide HB3).2).trans (World.grownBy_alloc _ _ _)).trans (grown_drew' _ _)
        have hT4 : TR (w3.alloc (lblk 0 (.slice none 0 0) (.slice none 0 0) (.pointer (some ⟨p, 0, none⟩)) (s.extract i (j + 1)) ⟨#[]⟩ ⟨#[]⟩ 0)).drew (fun k => k < w.heap.size ∨ k = w3.heap.size) (nf (.alt l)) p := by
          have hs3 := (unhide HB3).2.size
          refine TR.kept (fun k hk hz => ?_) (TR.reY (Z := fun k => k < w.heap.size ∨ k = w3.heap.size) (fun k hk hz => hz.elim id (fun e => by omega)) (unhide HG).2)
          exact (Below.heap_alloc w3 _ k (Nat.lt_of_lt_of_le hk hs3)).trans (grown_heap (unhide HB3).2 k hk (fun e => hz (Or.inl (by omega))))
        have hp4 : (w3.alloc (lblk 0 (.slice none 0 0) (.slice none 0 0) (.pointer (some ⟨p, 0, none⟩)) (s.extract i (j + 1)) ⟨#[]⟩ ⟨#[]⟩ 0)).drew.heap[w3.heap.size]? = some (lblk 0 (.slice none 0 0) (.slice none 0 0) (.pointer (some ⟨p, 0, none⟩)) (s.extract i (j + 1)) ⟨#[]⟩ ⟨#[]⟩ 0) := heap_alloc_new w3 _
        have hws : w.heap.size ≤ w3.heap.size := Nat.le_trans (unhide HG).1.size (unhide HB3).2.size
        have HPk := hide (speek hb4 hs hjl)
        have H4 := hide (And.intro hg4 (And.intro hT4 hp4))
        have hsk := (skipB_bd s (j + 1) hjl).2
        have Hid1 := hide (skipB_idem s (j + 1) hjl)
        clear hb4 hg4 hT4 hp4 HB3 HG HCl
        by_cases h34 : pk s (skipB s (j + 1)) = 34
        · have hq : (pe s (skipB s (j + 1)) == 34) = true := by rw [beq_iff_eq]; exact (pe_eq (by decide)).2 h34
          rw [if_pos h34] at hrr
          have HRR := hide hrr
          clear h34 hrr
          generalize pe s (skipB s (j + 1)) = a at *
          generalize hske : skipB s (j + 1) = sk at *
          have Hsk := hide hske
          clear hske
          go_wp2_with fail
          go_region
          all_goals
            go_wp2_with fail
            refine (unhide HPk).mono ?_
            rintro e w5 ⟨rfl, hb5, hg5⟩
            obtain ⟨hg4, hT4, hp4⟩ := unhide H4
            have HF := hide (sfixed (hg4.trans hg5) hbl hws hb5 hs hsk ((grown_heap hg5 _ (heap_lt hp4) (by omega)).trans hp4) (TR.kept (fun k hk hz => grown_heap hg5 k hk (fun e => hz (Or.inl (by omega)))) hT4))
            clear hg4 hT4 hp4 hb5 hg5
            go_wp2_with fail
            refine (unhide HF).mono ?_
            rintro e w6 hP6
            obtain ⟨a6, rfl⟩ := hP6.ptr
            have HP6 := hide hP6
            clear hP6
            go_wp2
            go_ret
            rw [← unhide HRR]
            have hx := unhide HP6
            unfold gFixed at hx ⊢
            rw [unhide Hid1] at hx
            rw [unhide Hsk]
            exact hx
        · have hq : (pe s (skipB s (j + 1)) == 34) = false := by rw [beq_eq_false_iff_ne]; exact fun e => h34 ((pe_eq (by decide)).1 e)
          rw [if_neg h34] at hrr
          have HRR := hide hrr
          clear h34 hrr
          generalize pe s (skipB s (j + 1)) = a at *
          generalize skipB s (j + 1) = sk at *
          go_wp2_with fail
          go_region
          all_goals
            go_wp2_with fail
            refine (unhide HPk).mono ?_
            rintro e w5 ⟨rfl, hb5, hg5⟩
            go_wp2
            go_ret
            rw [← unhide HRR]
            obtain ⟨hg4, hT4, hp4⟩ := unhide H4
            refine ⟨hsk, hg4.trans hg5, hb5, w3.heap.size, rfl, ?_⟩
            rw [LR]
            exact ⟨by omega, p, (grown_heap hg5 _ (heap_lt hp4) (by omega)).trans hp4, TR.reY (fun k _ hk => Or.inl hk) (TR.kept (fun k hk hz => grown_heap hg5 k hk (fun e => hz (Or.inl (by omega)))) hT4)⟩
      · have HCl := hide (sclose_no 47 hb2 hs hj (fun e => h47 ((pe_eq (by decide)).1 e)))
        rw [if_neg h47] at hrr
        have HG := hide (And.intro hb2 hg2)
        have HRR := hide hrr
        clear h47 hb2 hg2 hT2 hT1 hg1 hb1 hrr
        go_wp2_with fail
        refine (unhide HCl).mono ?_
        rintro e w3 ⟨rfl, n3, rfl⟩
        go_wp2
        go_ret
        rw [← unhide HRR]
        exact ⟨hj, (unhide HG).2.trans (grown_drewN' _ _ _), (unhide HG).1, rfl⟩

end Go.Proofs.YtlljggefbngkeaaGreatDoor
