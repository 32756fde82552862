import Derived.Test.YtlljggefbngkeaaGreatDoorU17
namespace Go.Proofs.YtlljggefbngkeaaGreatDoor
open Go.RowKit

def QPatSaid (s : ByteArray) (b i0 : Nat) : Prop :=
  ∀ (w : World) (i : Nat), i0 ≤ i → w.heap[b]? = some (qblk s i) → i ≤ s.size → ∀ n, 4 * (s.size - i) + 4 ≤ n →
    Calls Tryz.prog 195 #[.pointer (some ⟨b, 0, none⟩)] w fun e w' => QPost b s w e w' ((gAlts s n i).map .alt)
def QBaseSaid (s : ByteArray) (b i0 : Nat) : Prop :=
  ∀ (w : World) (i : Nat), i0 ≤ i → w.heap[b]? = some (qblk s i) → i ≤ s.size → atBase (pk s i) = true → ∀ n, 4 * (s.size - i) + 2 ≤ n →
    Calls Tryz.prog 203 #[.pointer (some ⟨b, 0, none⟩)] w fun e w' => QPost b s w e w' (gBase s n i)

theorem grown_heap {w w' : World} {b : Nat} (hg : w.grownBy w' (some b)) (k : Nat) (hk : k < w.heap.size) (hne : k ≠ b) : w'.heap[k]? = w.heap[k]? := hg.block k hk (by simp; exact hne)

theorem QPost.from_ {b : Nat} {s : ByteArray} {w w1 : World} {e : Ending} {w' : World} {r : Res PT} (hg : w.grownBy w1 (some b)) (h : QPost b s w1 e w' r) : QPost b s w e w' r := by
  cases r with
  | ok t j =>
    obtain ⟨h1, h2, h3, g, h4, h5⟩ := h
    exact ⟨h1, hg.trans h2, h3, g, h4, TR.reY (fun k _ hk => Nat.lt_of_lt_of_le hk hg.size) h5⟩
  | err p =>
    obtain ⟨h1, h2, h3, h4⟩ := h
    exact ⟨h1, hg.trans h2, h3, h4⟩

set_option maxRecDepth 100000 in
set_option maxHeartbeats 1600000 in
theorem qbracketed {w : World} {b : Nat} {s : ByteArray} {i n : Nat} (h : w.heap[b]? = some (qblk s i)) (hs : s.size ≤ 120) (hi : i ≤ s.size) (hpat : QPatSaid s b i) (hn : 4 * (s.size - i) + 4 ≤ n) :
    Calls Tryz.prog 207 #[.pointer (some ⟨b, 0, none⟩)] w fun e w' => QPost b s w e w' ((gAlts s n i).bind fun l j => if pk s j = 41 then .ok (.alt l) (j + 1) else .err j) := by
  have HP := hide (hpat w i (Nat.le_refl _) h hi n hn)
  generalize hrr : ((gAlts s n i).bind fun l j => if pk s j = 41 then Res.ok (PT.alt l) (j + 1) else Res.err j) = rr
  have hbl := heap_lt h
  clear h hpat
  go_enter Tryz.func207, Tryz.ntmps207
  go_wp2_with fail
  refine (unhide HP).mono ?_
  rintro e w1 hP1
  cases hg : gAlts s n i with
  | err p =>
    rw [hg] at hP1
    obtain ⟨hp, hg1, hq1, rfl⟩ := hP1
    rw [hg] at hrr
    have HR := hide hrr
    clear hg HP hrr
    go_wp2
    go_ret
    rw [← unhide HR]
    exact ⟨hp, hg1, hq1, rfl⟩
  | ok l j =>
    rw [hg] at hP1
    obtain ⟨hj, hg1, hq1, g, rfl, hT⟩ := hP1
    have HT := hide hT
    rw [hg] at hrr
    simp only [Res.bind] at hrr
    clear hg HP hT
    by_cases h41 : pk s j = 41
    · have hjs : j < s.size := pk_lt (by rw [h41]; decide)
      have HTk := hide (qtake_ok 41 hq1 hs hjs h41)
      rw [if_pos h41] at hrr
      have HR := hide hrr
      clear h41 hrr
      go_wp2_with fail
      refine (unhide HTk).mono ?_
      rintro e w2 ⟨rfl, hq2, hg2⟩
      go_wp2
      go_ret
      rw [← unhide HR]
      refine ⟨hjs, hg1.trans hg2, hq2, g, rfl, ?_⟩
      exact TR.kept (fun k hk hy => grown_heap hg2 k hk (fun e => hy (by show k < w.heap.size; omega))) (unhide HT)
    · have HTk := hide (qtake_no 41 hq1 hs hj h41)
      rw [if_neg h41] at hrr
      have HR := hide hrr
      clear h41 hrr
      go_wp2_with fail
      refine (unhide HTk).mono ?_
      rintro e w2 ⟨rfl, n2, rfl⟩
      go_wp2
      go_ret
      rw [← unhide HR]
      exact ⟨hj, hg1.trans (grown_drewN' _ _ _), hq1, rfl⟩

/-- the pattern of one sign -/
def SignPost (a : Int) (w : World) (e : Ending) (w' : World) : Prop := ∃ g, e = .returned (.pointer (some ⟨g, 0, none⟩)) ∧ w.grownBy w' none ∧ TR w' (fun k => k < w.heap.size) (.chr [UInt8.ofNat a.toNat]) g

set_option maxRecDepth 100000 in
set_option maxHeartbeats 800000 in
theorem psign (a : Int) (hsg : signI a = true) (w : World) : Calls Tryz.prog 158 #[.int .u8 a] w fun e w' => SignPost a w e w' := by
  obtain ⟨lo, hi', e1, e2, h1, h2, hrep⟩ := setRep_span a a hsg hsg (Int.le_refl _)
  have HSp := hide (fun W => pspan a a lo hi' e1 e2 h1 h2 W)
  have hu : upto a a = [UInt8.ofNat a.toNat] := by
    have hb := signI_bd hsg
    rw [upto, uptoN_yes _ _ (Nat.le_refl _) (by rw [show ((a.toNat : Nat) : Int) = a by omega]; exact hsg), uptoN_self]
    rfl
  rw [hu] at hrep
  have HR := hide hrep
  clear hsg e1 e2 hrep hu
  go_enter Tryz.func158, Tryz.ntmps158
  go_wp2_with fail
  refine (unhide HSp _).mono ?_
  rintro e w3 ⟨rfl, n3, rfl⟩
  go_wp2
  go_ret
  refine ⟨w.heap.size, rfl, (grown_drewN' w n3 none).trans (World.grownBy_alloc _ _ _), ?_⟩
  rw [TR]
  exact ⟨Nat.lt_irrefl _, _, unhide HR, heap_alloc_new (w.drewN n3) _⟩

set_option maxRecDepth 100000 in
set_option maxHeartbeats 1600000 in
theorem qbase_of {s : ByteArray} {b i0 : Nat} (hs : s.size ≤ 120) (hpat : QPatSaid s b (i0 + 1)) : QBaseSaid s b i0 := by
  intro w i h0 h hi hat n hn
  obtain ⟨n, rfl⟩ : ∃ m, n = m + 1 := ⟨n - 1, by omega⟩
  have hbl := heap_lt h
  by_cases h91 : pk s i = 91
  · have hlt : i < s.size := pk_lt (by rw [h91]; decide)
    have HT := hide (qtake_ok 91 h hs hlt h91)
    have HG := hide (gBase_class s n i h91)
    clear h hat h91 hpat
    go_enter Tryz.func203, Tryz.ntmps203
    go_wp2_with fail
    refine (unhide HT).mono ?_
    rintro e w1 ⟨rfl, hq1, hg1⟩
    go_wp2_with fail
    refine (qspans hq1 hs hlt n (by omega)).mono ?_
    rintro e w2 hP2
    rw [← unhide HG] at hP2
    have he : ∃ a, e = .returned (.pointer a) := by
      cases hg : gBase s (n + 1) i with
      | ok t j => rw [hg] at hP2; obtain ⟨_, _, _, g, he, _⟩ := hP2; exact ⟨_, he⟩
      | err p => rw [hg] at hP2; exact ⟨_, hP2.2.2.2⟩
    obtain ⟨a, rfl⟩ := he
    have HP2 := hide hP2
    clear hP2
    go_wp2
    go_ret
    exact QPost.from_ hg1 (unhide HP2)
  · by_cases h40 : pk s i = 40
    · have hlt : i < s.size := pk_lt (by rw [h40]; decide)
      have HT1 := hide (qtake_no 91 h hs hi h91)
      have HT := hide (fun n => qtake_ok 40 (w := w.drewN n) h hs hlt h40)
      have HG := hide (gBase_group s n i h40)
      have Hpat := hide hpat
      clear h hat h91 h40 hpat
      go_enter Tryz.func203, Tryz.ntmps203
      go_wp2_with fail
      refine (unhide HT1).mono ?_
      rintro e w0 ⟨rfl, n0, rfl⟩
      go_wp2_with fail
      refine (unhide HT _).mono ?_
      rintro e w1 ⟨rfl, hq1, hg1⟩
      go_wp2_with fail
      refine (qbracketed (n := n) hq1 hs hlt (fun w i' hi' => unhide Hpat w i' (by omega)) (by omega)).mono ?_
      rintro e w2 hP2
      rw [← unhide HG] at hP2
      have he : ∃ a, e = .returned (.pointer a) := by
        cases hg : gBase s (n + 1) i with
        | ok t j => rw [hg] at hP2; obtain ⟨_, _, _, g, he, _⟩ := hP2; exact ⟨_, he⟩
        | err p => rw [hg] at hP2; exact ⟨_, hP2.2.2.2⟩
      obtain ⟨a, rfl⟩ := he
      have HP2 := hide hP2
      clear hP2
      go_wp2
      go_ret
      exact QPost.from_ ((grown_drewN' w n0 _).trans hg1) (unhide HP2)
    · have hsg : signI (pk s i) = true := by
        simp [atBase, h91, h40] at hat
        exact hat
      have hlt := pk_sign_lt hsg
      have HT1 := hide (qtake_no 91 h hs hi h91)
      have HT2 := hide (fun n => qtake_no 40 (w := w.drewN n) h hs hi h40)
      have HP := hide (fun n => qpeek (w := w.drewN n) h hs hi)
      have HSg := hide (fun W => psign (pk s i) hsg W)
      have HG := hide (gBase_sign s n i hsg)
      have c1 := cellOf h 1
      have fz := frozenOf h 1
      simp at c1
      have HB := hide h
      clear h hat h91 h40 hpat hsg
      generalize pk s i = a at *
      go_enter Tryz.func203, Tryz.ntmps203
      go_wp2_with fail
      refine (unhide HT1).mono ?_
      rintro e w0 ⟨rfl, n0, rfl⟩
      go_wp2_with fail
      refine (unhide HT2 _).mono ?_
      rintro e w1 ⟨rfl, n1, rfl⟩
      rw [World.drewN_drewN]
      go_wp2_with fail
      refine (unhide HP _).mono ?_
      rintro e w2 ⟨rfl, n2, rfl⟩
      go_wp2_with fail
      refine (unhide HSg _).mono ?_
      rintro e w3 ⟨g, rfl, hg3, hT3⟩
      go_wp2
      go_ret
      rw [unhide HG]
      have hb1 : ((w.drewN (n0 + n1 + n2)).setCell ⟨b, 1, none⟩ (.int .i64 ((i : Int) + 1))).heap[b]? = some (qblk s (i + 1)) := by
        have := qset (w := w.drewN (n0 + n1 + n2)) (unhide HB) (i + 1)
        simpa using this
      have hg0 : w.grownBy ((w.drewN (n0 + n1 + n2)).setCell ⟨b, 1, none⟩ (.int .i64 ((i : Int) + 1))) (some b) := (grown_drewN' w _ _).trans (grown_set _ _ _ _)
      have hg1 : w.grownBy w3 (some b) := hg0.andThen hg3 (fun k e => by cases e)
      refine ⟨hlt, hg1, (hg3.block b (heap_lt hb1) (by simp)).trans hb1, g, rfl, ?_⟩
      rw [nf]
      exact TR.reY (fun k _ hk => Nat.lt_of_lt_of_le hk hg0.size) hT3

/-- a base with its sign of repetition -/
def RepPost (b : Nat) (s : ByteArray) (w : World) (Y : Nat → Prop) (t : PT) (j : Nat) (e : Ending) (w' : World) : Prop :=
  (gRep s t j).2 ≤ s.size ∧ w.grownBy w' (some b) ∧ w'.heap[b]? = some (qblk s (gRep s t j).2) ∧ ∃ g, e = .returned (.pointer (some ⟨g, 0, none⟩)) ∧ TR w' Y (nf (gRep s t j).1) g

set_option maxRecDepth 100000 in
set_option maxHeartbeats 1600000 in
theorem qrepeated {w : World} {b : Nat} {s : ByteArray} {j g : Nat} {Y : Nat → Prop} {t : PT} (h : w.heap[b]? = some (qblk s j)) (hs : s.size ≤ 120) (hj : j ≤ s.size) (hT : TR w Y (nf t) g) (hY : ∀ k, Y k → k < w.heap.size) (hb : Y b) :
    Calls Tryz.prog 204 #[.pointer (some ⟨b, 0, none⟩), .pointer (some ⟨g, 0, none⟩)] w fun e w' => RepPost b s w Y t j e w' := by
  have HP := hide (qpeek h hs hj)
  have c1 := cellOf h 1
  have fz := frozenOf h 1
  simp at c1
  have HB := hide (And.intro h hT)
  clear h hT
  have step : ∀ (c : Int) (kind : Int) (n : Nat), pk s j = c → (c = 42 ∨ c = 43 ∨ c = 63) → repKind c = kind → j < s.size →
      RepPost b s w Y t j (.returned (.pointer (some ⟨w.heap.size + 1, 0, none⟩))) ((((w.drewN n).setCell ⟨b, 1, none⟩ (.int .i64 ((j : Int) + 1))).alloc (.cells #[.pointer (some ⟨g, 0, none⟩)] 116)).alloc (pblk kind 0 (.slice (some ⟨w.heap.size, 0, none⟩) 1 1))) := by
    intro c kind n hc hc3 hk hlt
    have hb1 : ((w.drewN n).setCell ⟨b, 1, none⟩ (.int .i64 ((j : Int) + 1))).heap[b]? = some (qblk s (j + 1)) := by
      have := qset (w := w.drewN n) (unhide HB).1 (j + 1)
      simpa using this
    have hg1 : w.grownBy ((w.drewN n).setCell ⟨b, 1, none⟩ (.int .i64 ((j : Int) + 1))) (some b) := (grown_drewN' w n _).trans (grown_set _ _ _ _)
    have hsz : ((w.drewN n).setCell ⟨b, 1, none⟩ (.int .i64 ((j : Int) + 1))).heap.size = w.heap.size := by simp [World.setCell]
    generalize ((w.drewN n).setCell ⟨b, 1, none⟩ (.int .i64 ((j : Int) + 1))) = W at *
    have hgr : gRep s t j = (.rep c t, j + 1) := by rw [gRep, hc, if_pos hc3]
    unfold RepPost
    rw [hgr]
    refine ⟨hlt, (hg1.trans (World.grownBy_alloc _ _ _)).trans (World.grownBy_alloc _ _ _), heap_alloc_old _ (heap_alloc_old _ hb1), w.heap.size + 1, rfl, ?_⟩
    rw [nf, TR]
    have hnew := alloc2_at W (.cells #[.pointer (some ⟨g, 0, none⟩)] 116) (pblk kind 0 (.slice (some ⟨w.heap.size, 0, none⟩) 1 1))
    rw [hsz] at hnew
    refine ⟨fun hy => by have := hY _ hy; omega, .slice (some ⟨w.heap.size, 0, none⟩) 1 1, g, by rw [hk]; exact hnew, ⟨?_, fun k e hy => ?_⟩, ?_⟩
    · have := (World.ownsRow_lit (base := 0) (e := 116) (size := 1) W #[.pointer (some ⟨g, 0, none⟩)] 1 (by omega) (by unfold maxLen; omega) rfl).alloc (pblk kind 0 (.slice (some ⟨w.heap.size, 0, none⟩) 1 1))
      rw [hsz] at this
      exact this
    · have := hY k hy
      simp [Value.ownBlock] at e
      omega
    · refine TR.kept (fun k hk hy => ?_) (unhide HB).2
      rw [Below.heap_alloc _ _ _ (by simp [hsz]; omega), Below.heap_alloc _ _ _ (by omega)]
      exact grown_heap hg1 k hk (fun e => hy (e ▸ hb))
  have HS := hide step
  clear step
  by_cases h42 : pk s j = 42
  · have hlt : j < s.size := pk_lt (by rw [h42]; decide)
    have HF := hide (fun n => unhide HS 42 3 n h42 (Or.inl rfl) rfl hlt)
    rw [h42] at HP
    clear h42 HS
    go_enter Tryz.func204, Tryz.ntmps204
    go_wp2_with (go_at_call 205; refine (unhide HP).mono ?_; rintro e w1 ⟨rfl, n, rfl⟩)
    go_ret
    exact unhide HF n
  · by_cases h43 : pk s j = 43
    · have hlt : j < s.size := pk_lt (by rw [h43]; decide)
      have HF := hide (fun n => unhide HS 43 4 n h43 (Or.inr (Or.inl rfl)) rfl hlt)
      rw [h43] at HP
      clear h42 h43 HS
      go_enter Tryz.func204, Tryz.ntmps204
      go_wp2_with (go_at_call 205; refine (unhide HP).mono ?_; rintro e w1 ⟨rfl, n, rfl⟩)
      go_ret
      exact unhide HF n
    · by_cases h63 : pk s j = 63
      · have hlt : j < s.size := pk_lt (by rw [h63]; decide)
        have HF := hide (fun n => unhide HS 63 5 n h63 (Or.inr (Or.inr rfl)) rfl hlt)
        rw [h63] at HP
        clear h42 h43 h63 HS
        go_enter Tryz.func204, Tryz.ntmps204
        go_wp2_with (go_at_call 205; refine (unhide HP).mono ?_; rintro e w1 ⟨rfl, n, rfl⟩)
        go_ret
        exact unhide HF n
      · have q1 : (pk s j == 42) = false := by simpa using h42
        have q2 : (pk s j == 43) = false := by simpa using h43
        have q3 : (pk s j == 63) = false := by simpa using h63
        have HR : Hid (gRep s t j = (t, j)) := by show gRep s t j = _; simp [gRep, h42, h43, h63]
        clear h42 h43 h63 HS
        generalize pk s j = a at *
        go_enter Tryz.func204, Tryz.ntmps204
        go_wp2_with (go_at_call 205; refine (unhide HP).mono ?_; rintro e w1 ⟨rfl, n, rfl⟩)
        go_ret
        unfold RepPost
        rw [unhide HR]
        exact ⟨hj, grown_drewN' _ _ _, (unhide HB).1, g, rfl, TR.kept (w := w) (w' := w.drewN n) (fun _ _ _ => rfl) (unhide HB).2⟩

end Go.Proofs.YtlljggefbngkeaaGreatDoor

namespace Go.Proofs.YtlljggefbngkeaaGreatDoor
open Go.RowKit

/-- the machine's block -/
def mblk (v : Value) (st en : Int) : Obj := .cells #[v, .int .i64 st, .int .i64 en] 185 (0, 0)

theorem Tryz.infoState : (Tryz.prog.info? 190).map (fun i => (i.zero, i.size, i.bytes)) = some (some (.agg #[.int .u64 0, .int .i64 0, .slice none 0 0]), 3, 40) := by kernel_rfl

theorem mblk_v {w : World} {b : Nat} {v : Value} {st en : Int} (h : w.heap[b]? = some (mblk v st en)) (v' : Value) : (w.setCell ⟨b, 0, none⟩ v').heap[b]? = some (mblk v' st en) := by
  have := heap_set h 0 v'
  simpa [mblk] using this

set_option maxRecDepth 100000 in
set_option maxHeartbeats 1600000 in
theorem madd_low {w : World} {b : Nat} {st en : Int} {pv : Value} {n : Nat} {xs : List Value} (sn nx : Int) (sv : Value) (h : w.heap[b]? = some (mblk pv st en))
    (hown : w.ownsRow 0 190 3 pv n xs) (hn : n ≤ 100000) (h1 : sv.oneCell' = true) :
    Calls Tryz.prog 140 #[.pointer (some ⟨b, 0, none⟩), .agg #[.int .u64 sn, .int .i64 nx, sv]] w fun e w' => ∃ g cap, e = .returned (.int .i64 n) ∧
      w'.heap[b]? = some (mblk (.slice (some ⟨g, 0, none⟩) (n + 1) cap) st en) ∧ w'.ownsRow 0 190 3 (.slice (some ⟨g, 0, none⟩) (n + 1) cap) (n + 1) (xs ++ [.int .u64 sn, .int .i64 nx, sv]) ∧
      (pv.ownBlock = some g ∨ w.heap.size ≤ g) ∧ Fr (fun k => k = b ∨ pv.ownBlock = some k) w w' := by
  obtain ⟨i0, hi0, hz0, hz1, hz2⟩ := info_parts Tryz.infoState
  have c5 := cellOf h 0
  have fz := frozenOf h 0
  have hbl := heap_lt h
  have hne := own_ne h hown (by decide)
  have hne2 : pv.ownBlock ≠ some w.heap.size := fun e => Nat.lt_irrefl _ (hown.lt _ e).2
  have HB := hide h
  clear h
  simp at c5
  have hone : ∀ u ∈ [Value.int .u64 sn, .int .i64 nx, sv], u.oneCell' = true := by
    intro u hu
    simp at hu
    rcases hu with rfl | rfl | rfl
    · rfl
    · rfl
    · exact h1
  clear h1
  have cz2 : ∀ o o', ((w.alloc o).alloc o').cell? ⟨b, 0, none⟩ = some pv := fun o o' => by rw [World.cell?_alloc_past _ _ _ (by simp; omega), World.cell?_alloc_past _ _ _ hbl]; exact c5
  have fz1 : ∀ o, (w.alloc o).frozen? ⟨b, 0, none⟩ = false := fun o => by rw [World.frozen?_alloc_past _ _ _ hbl]; exact fz
  have fz2 : ∀ o o', ((w.alloc o).alloc o').frozen? ⟨b, 0, none⟩ = false := fun o o' => by rw [World.frozen?_alloc_past _ _ _ (by simp; omega)]; exact fz1 o
  go_enter Tryz.func140, Tryz.ntmps140
  go_wp2_with fail
  go_region_law
    (refine step_append_lies _ (by rfl) _ _ _ (by rfl) 0 190 i0 _ 3 40 Tryz.underlying183 hi0 hz0 hz1 hz2 rfl (by omega) pv n xs (by rfl) (((hown.alloc _).alloc _).drew)
        ⟨w.heap.size + 1, 0, none⟩ 1 1 [.int .u64 sn, .int .i64 nx, sv] (by rfl) (by rfl) (World.news_of_block (cs := #[.int .u64 sn, .int .i64 nx, sv]) (t := 190) (fr := (0, 0)) (alloc2_at w _ _)) hone
        (by omega) (by unfold maxLen; omega) (by omega) (by simp) (w.heap.size + 2) (by simp) ?_; intro g cap w1 hown1 hgrow hat hlt; have k1 : w1.cell? ⟨b, 0, none⟩ = some pv := (by rw [hgrow.cell_far _ (by simp; omega) (Ne.symm hne)]; exact cz2 _ _); have k2 : w1.frozen? ⟨b, 0, none⟩ = false := (by rw [hgrow.frozen_far _ (by simp; omega) (Ne.symm hne)]; exact fz2 _ _))
  all_goals
    go_wp2
    go_ret
    have hb1 : w1.heap[b]? = some (mblk pv st en) := (hgrow.block b (by simp [drew_heap]; omega) (Ne.symm hne)).trans (heap_alloc_old _ (heap_alloc_old _ (unhide HB)))
    refine ⟨g, cap, rfl, mblk_v hb1 _, hown1.kept (grown_set w1 b 0 _) (Or.inr (own_ne hb1 hown1 (by decide))), ?_, ?_⟩
    · rcases hat with hat | hat
      · exact Or.inl hat
      · exact Or.inr (by omega)
    · exact ((((Fr.alloc _ w _).trans (Fr.alloc _ _ _)).trans (Fr.drew _ _)).trans (Fr.of_grown hgrow (fun k e _ => Or.inr e))).trans (Fr.set w1 b 0 _ (Or.inl rfl))

end Go.Proofs.YtlljggefbngkeaaGreatDoor

namespace Go.Proofs.YtlljggefbngkeaaGreatDoor
open Go.RowKit

/-- a state of the machine: its signs, where it goes with one of them, where it goes without any -/
structure MSt where
  set : List UInt8
  nx : Nat
  free : List Nat

/-- the states' cells; their lists lie in rows of their own, outside Y -/
def SR (w : World) (Y : Nat → Prop) (S : List MSt) (xs : List Value) : Prop :=
  ∀ j p, S[j]? = some p → ∃ v, (∃ n : Nat, SetRep n p.set ∧ xs[3 * j]? = some (.int .u64 (n : Int))) ∧ xs[3 * j + 1]? = some (.int .i64 (p.nx : Int)) ∧ xs[3 * j + 2]? = some v ∧
    w.ownsRow 0 3 1 v p.free.length (nums p.free) ∧ ∀ k, v.ownBlock = some k → ¬ Y k

/-- the machine and all that it holds -/
structure MO (w : World) (Y : Nat → Prop) (b : Nat) (S : List MSt) (st en : Nat) (pv : Value) (xs : List Value) : Prop where
  blk : w.heap[b]? = some (mblk pv st en)
  own : w.ownsRow 0 190 3 pv S.length xs
  free : SR w Y S xs
  nb : ¬ Y b
  np : ∀ k, pv.ownBlock = some k → ¬ Y k

def MH (w : World) (Y : Nat → Prop) (b : Nat) (S : List MSt) (st en : Nat) : Prop := ∃ pv xs, MO w Y b S st en pv xs

section
variable {w w' : World} {Y Z : Nat → Prop} {b : Nat} {S : List MSt} {st en : Nat}

theorem MH.reY (h : MH w Y b S st en) (hZ : ∀ k, k < w.heap.size → Z k → Y k) : MH w Z b S st en := by
  obtain ⟨pv, xs, h⟩ := h
  exact ⟨pv, xs, {
    blk := h.blk
    own := h.own
    free := fun j p hp => by
      obtain ⟨v, h1, h2, h3, h4, h5⟩ := h.free j p hp
      exact ⟨v, h1, h2, h3, h4, fun k hk hz => h5 k hk (hZ k (own_lt h4 k hk) hz)⟩
    nb := fun hz => h.nb (hZ b (heap_lt h.blk) hz)
    np := fun k hk hz => h.np k hk (hZ k (own_lt h.own k hk) hz) }⟩

/-- what is written lies in Y -/
theorem MH.kept (h : MH w Y b S st en) (key : ∀ k, k < w.heap.size → ¬ Y k → w'.heap[k]? = w.heap[k]?) : MH w' Y b S st en := by
  obtain ⟨pv, xs, h⟩ := h
  exact ⟨pv, xs, {
    blk := (key b (heap_lt h.blk) h.nb).trans h.blk
    own := own_same h.own fun k hk => key k (own_lt h.own k hk) (h.np k hk)
    free := fun j p hp => by
      obtain ⟨v, h1, h2, h3, h4, h5⟩ := h.free j p hp
      exact ⟨v, h1, h2, h3, own_same h4 fun k hk => key k (own_lt h4 k hk) (h5 k hk), h5⟩
    nb := h.nb
    np := h.np }⟩

theorem MH.grown {r : Option Nat} (h : MH w Y b S st en) (hg : w.grownBy w' r) (hr : ∀ k, r = some k → Y k) : MH w' Y b S st en :=
  h.kept fun k hk hy => hg.block k hk (fun e => hy (hr k e.symm))
theorem MH.alloc (h : MH w Y b S st en) (o : Obj) : MH (w.alloc o) Y b S st en := h.grown (World.grownBy_alloc w o none) (fun _ h => by cases h)
theorem MH.drewN (h : MH w Y b S st en) (n : Nat) : MH (w.drewN n) Y b S st en := h.grown (grown_drewN' w n none) (fun _ h => by cases h)
theorem MH.drew (h : MH w Y b S st en) : MH w.drew Y b S st en := h.grown (grown_drew' w none) (fun _ h => by cases h)
theorem MH.lt (h : MH w Y b S st en) : b < w.heap.size := by obtain ⟨pv, xs, h⟩ := h; exact heap_lt h.blk
theorem MH.nb (h : MH w Y b S st en) : ¬ Y b := by obtain ⟨pv, xs, h⟩ := h; exact h.nb

theorem MAdd (p : MSt) (n : Nat) (sv : Value) (hset : SetRep n p.set) (h : MH w Y b S st en) (hn : S.length ≤ 100000) (hsv : w.ownsRow 0 3 1 sv p.free.length (nums p.free)) (hsy : ∀ k, sv.ownBlock = some k → ¬ Y k) (hY : ∀ k, Y k → k < w.heap.size) :
    Calls Tryz.prog 140 #[.pointer (some ⟨b, 0, none⟩), .agg #[.int .u64 (n : Int), .int .i64 (p.nx : Int), sv]] w fun e w' => e = .returned (.int .i64 (S.length : Int)) ∧ MH w' Y b (S ++ [p]) st en ∧ Kp Y w w' := by
  obtain ⟨pv, xs, h⟩ := h
  refine (madd_low n p.nx sv h.blk h.own hn (own_one hsv)).mono ?_
  rintro e w' ⟨g, cap, rfl, hb, ho, hg, hf⟩
  have key : ∀ k, k < w.heap.size → k ≠ b → pv.ownBlock ≠ some k → w'.heap[k]? = w.heap[k]? := fun k hk h1 h2 => hf.block k hk (fun e => e.elim h1 h2)
  have hx := h.blk
  refine ⟨rfl, ⟨.slice (some ⟨g, 0, none⟩) (S.length + 1) cap, xs ++ [.int .u64 (n : Int), .int .i64 (p.nx : Int), sv], ?_⟩, Kp.of_fr hf (fun k _ hy e => e.elim (fun e => h.nb (e ▸ hy)) (fun e => h.np k e hy))⟩
  exact {
    blk := hb
    own := by simpa using ho
    free := by
      intro j q hq
      have hlen := h.own.1
      rcases Nat.lt_or_ge j S.length with hj | hj
      · have hq' : S[j]? = some q := by rw [List.getElem?_append_left hj] at hq; exact hq
        obtain ⟨v, h1, h2, h3, h4, h5⟩ := h.free j q hq'
        refine ⟨v, ?_, ?_, ?_, own_same h4 fun k hk => key k (own_lt h4 k hk) (fun e => own_ne hx h4 (by decide) (by rw [hk, e])) (own_ty h4 h.own (by decide) k hk), h5⟩
        · obtain ⟨n1, h6, h7⟩ := h1
          exact ⟨n1, h6, by rw [List.getElem?_append_left (by omega)]; exact h7⟩
        · rw [List.getElem?_append_left (by omega)]; exact h2
        · rw [List.getElem?_append_left (by omega)]; exact h3
      · have hj' : j = S.length := by
          have := (List.getElem?_eq_some_iff.1 hq).1
          simp at this
          omega
        subst hj'
        have hq' : q = p := by simpa using hq.symm
        subst hq'
        refine ⟨sv, ?_, ?_, ?_, own_same hsv fun k hk => key k (own_lt hsv k hk) (fun e => own_ne hx hsv (by decide) (by rw [hk, e])) (own_ty hsv h.own (by decide) k hk), hsy⟩
        · exact ⟨n, hset, by rw [List.getElem?_append_right (by omega), show 3 * S.length - xs.length = 0 by omega]; rfl⟩
        · rw [List.getElem?_append_right (by omega), show 3 * S.length + 1 - xs.length = 1 by omega]; rfl
        · rw [List.getElem?_append_right (by omega), show 3 * S.length + 2 - xs.length = 2 by omega]; rfl
    nb := h.nb
    np := by
      intro k hk hy
      simp [Value.ownBlock] at hk
      subst hk
      rcases hg with hg | hg
      · exact h.np _ hg hy
      · have := hY _ hy; omega }
end

end Go.Proofs.YtlljggefbngkeaaGreatDoor

namespace Go.Proofs.YtlljggefbngkeaaGreatDoor
open Go.RowKit

/-- the block of the program's reader of lenses -/
def sblk (s : ByteArray) (i : Nat) : Obj := .cells #[.string s, .int .i64 i] 142 (0, 0)

/-- the byte at a place; -1: the end -/
def pe (s : ByteArray) (i : Nat) : Int := if i < s.size then pk s i else -1

set_option maxHeartbeats 400000 in
theorem sblank (c : Int) {w : World} : Calls Tryz.prog 126 #[.int .u8 c] w fun e w' => e = .returned (.bool (blankI c)) ∧ w' = w := by
  by_cases h1 : c = 32
  · subst h1
    go_enter Tryz.func126, Tryz.ntmps126
    go_wp2
    go_ret
    exact ⟨rfl, rfl⟩
  · by_cases h2 : c = 10
    · subst h2
      go_enter Tryz.func126, Tryz.ntmps126
      go_wp2
      go_ret
      exact ⟨rfl, rfl⟩
    · have q1 : (c == 32) = false := by simpa using h1
      have q2 : (c == 10) = false := by simpa using h2
      have H : Hid (blankI c = false) := by simp [Hid, blankI, h1, h2]
      clear h1 h2
      go_enter Tryz.func126, Tryz.ntmps126
      go_wp2
      go_ret
      rw [unhide H]
      exact ⟨rfl, rfl⟩

end Go.Proofs.YtlljggefbngkeaaGreatDoor

namespace Go.Proofs.YtlljggefbngkeaaGreatDoor
open Go.RowKit

set_option maxRecDepth 100000 in
set_option maxHeartbeats 1600000 in
theorem speek {w : World} {b : Nat} {s : ByteArray} {i : Nat} (h : w.heap[b]? = some (sblk s i)) (hs : s.size ≤ 120) (hi : i ≤ s.size) :
    Calls Tryz.prog 81 #[.pointer (some ⟨b, 0, none⟩)] w fun e w' => e = .returned (.int .i64 (pe s (skipB s i))) ∧ w'.heap[b]? = some (sblk s (skipB s i)) ∧ w.grownBy w' (some b) := by
  go_enter Tryz.func81, Tryz.ntmps81
  go_wp2_with fail
  go_loopg [3] (s.size - i) (fun k _ wv => ∃ j, j ≤ s.size ∧ s.size - j ≤ k ∧ skipB s j = skipB s i ∧ wv.heap[b]? = some (sblk s j) ∧ w.grownBy wv (some b))
  case atStart => exact ⟨i, hi, Nat.le_refl _, rfl, h, World.grownBy.refl _ _⟩
  case round =>
    obtain ⟨j, hj, hk, hsk, hb, hg⟩ := hrel
    have HR := hide (And.intro hk (And.intro hsk (And.intro hb hg)))
    have c0 := cellOf hb 0
    have c1 := cellOf hb 1
    have fz := frozenOf hb 1
    clear hk hsk hb hg h
    simp at c0 c1
    by_cases hlt : j < s.size
    · have hd : (j : Int) < (s.size : Int) := by omega
      have hpk : pk s j = (s[j].toNat : Int) := by simp [pk, hlt]
      by_cases hbl : blankI (pk s j) = true
      · have HB : Hid (blankI (s[j].toNat : Int) = true) := by rw [← hpk]; exact hbl
        have HC := hide (fun W : World => sblank (s[j].toNat : Int) (w := W))
        rw [unhide HB] at HC
        clear hpk hbl
        go_wp2_with fail
        go_quiet (first | (go_at_call 126; refine Calls.quiet_of_same (unhide HC _)))
        go_wp2_with fail
        go_roundg (gk - 1)
        case measure => have := (unhide HR).1; omega
        case rel =>
          obtain ⟨hk, hsk, hb, hg⟩ := unhide HR
          refine ⟨j + 1, by omega, by omega, ?_, ?_, ?_⟩
          · rw [← hsk, skipB_step s j hlt (by simp only [pk, hlt, dif_pos]; exact unhide HB)]
          · have h1 := heap_set (w := wr.drewN nq) hb 1 (.int .i64 ((j : Int) + 1))
            simpa [sblk] using h1
          · exact (hg.trans (grown_drewN' _ nq _)).trans (grown_set _ _ _ _)
      · have hbf : blankI (pk s j) = false := by simpa using hbl
        have HB : Hid (blankI (s[j].toNat : Int) = false) := by rw [← hpk]; exact hbf
        have HC := hide (fun W : World => sblank (s[j].toNat : Int) (w := W))
        rw [unhide HB] at HC
        have HF : Hid (skipB s j = j ∧ pe s j = (s[j].toNat : Int)) := ⟨skipB_stop s j hbf, by simp [pe, hlt, hpk]⟩
        have hq : ((j : Int) == (s.size : Int)) = false := by rw [beq_eq_false_iff_ne]; omega
        clear hpk hbl hbf
        go_wp2_with fail
        go_quiet (first | (go_at_call 126; refine Calls.quiet_of_same (unhide HC _)))
        rename_i n1
        go_wp2_with fail
        go_quiet (fail)
        go_wp2_with fail
        go_quiet (fail)
        go_wp2
        go_ret
        obtain ⟨hk, hsk, hb, hg⟩ := unhide HR
        rw [← hsk, (unhide HF).1, (unhide HF).2]
        have hw64 : wrap64 (s[j].toNat : Int) = (s[j].toNat : Int) := by have := (s[j]).toNat_lt; unfold wrap64; omega
        exact ⟨by rw [hw64]; rfl, hb, by simpa using hg.trans (grown_drewN' _ _ _)⟩
    · have hd : decide ((j : Int) < (s.size : Int)) = false := by simp; omega
      have hje : j = s.size := by omega
      have hq : ((j : Int) == (s.size : Int)) = true := by rw [beq_iff_eq]; omega
      have HF : Hid (skipB s j = j ∧ pe s j = -1) := ⟨skipB_stop s j (by simp [pk, hlt]; rfl), by simp [pe, hlt]⟩
      go_wp2_with fail
      go_quiet (fail)
      go_wp2_with fail
      go_quiet (fail)
      go_wp2
      go_ret
      obtain ⟨hk, hsk, hb, hg⟩ := unhide HR
      rw [← hsk, (unhide HF).1, (unhide HF).2]
      exact ⟨rfl, hb, by simpa using hg.trans (grown_drewN' _ _ _)⟩

end Go.Proofs.YtlljggefbngkeaaGreatDoor

namespace Go.Proofs.YtlljggefbngkeaaGreatDoor
open Go.RowKit

set_option maxHeartbeats 400000 in
theorem stake_no (c : Int) (h0 : 0 ≤ c) (h1 : c ≤ 255) {w : World} {b : Nat} {s : ByteArray} {i : Nat} (h : w.heap[b]? = some (sblk s i)) (hs : s.size ≤ 120) (hi : i ≤ s.size) (hc : pe s (skipB s i) ≠ c) :
    Calls Tryz.prog 124 #[.pointer (some ⟨b, 0, none⟩), .int .u8 c] w fun e w' => e = .returned (.bool false) ∧ w'.heap[b]? = some (sblk s (skipB s i)) ∧ w.grownBy w' (some b) := by
  have HP := hide (speek h hs hi)
  have hq : (pe s (skipB s i) != c) = true := by rw [bne_iff_ne]; exact hc
  have hw : wrap64 c = c := by unfold wrap64; omega
  clear h hc
  generalize pe s (skipB s i) = p at *
  go_enter Tryz.func124, Tryz.ntmps124
  go_wp2_with fail
  refine (unhide HP).mono ?_
  rintro e w1 ⟨rfl, hb, hg⟩
  go_wp2
  go_ret
  exact ⟨rfl, hb, hg⟩

set_option maxHeartbeats 400000 in
theorem stake_ok (c : Int) (h0 : 0 ≤ c) (h1 : c ≤ 255) {w : World} {b : Nat} {s : ByteArray} {i : Nat} (h : w.heap[b]? = some (sblk s i)) (hs : s.size ≤ 120) (hi : i ≤ s.size) (hc : pe s (skipB s i) = c) :
    Calls Tryz.prog 124 #[.pointer (some ⟨b, 0, none⟩), .int .u8 c] w fun e w' => e = .returned (.bool true) ∧ w'.heap[b]? = some (sblk s (skipB s i + 1)) ∧ w.grownBy w' (some b) := by
  have HP := hide (speek h hs hi)
  have hb2 := (skipB_bd s i hi).2
  rw [hc] at HP
  have hw : wrap64 c = c := by unfold wrap64; omega
  clear h hc
  generalize skipB s i = j at *
  go_enter Tryz.func124, Tryz.ntmps124
  go_wp2_with fail
  refine (unhide HP).mono ?_
  rintro e w1 ⟨rfl, hb, hg⟩
  have c1 := cellOf hb 1
  have fz := frozenOf hb 1
  simp at c1
  have HB := hide (And.intro hb hg)
  clear hb hg
  go_wp2
  go_ret
  refine ⟨rfl, ?_, (unhide HB).2.trans (grown_set _ _ _ _)⟩
  have h1 := heap_set (unhide HB).1 1 (.int .i64 ((j : Int) + 1))
  simpa [sblk] using h1

end Go.Proofs.YtlljggefbngkeaaGreatDoor

namespace Go.Proofs.YtlljggefbngkeaaGreatDoor
open Go.RowKit

set_option maxHeartbeats 800000 in
theorem sclose_no (c : Int) {w : World} {b : Nat} {s : ByteArray} {i : Nat} (h : w.heap[b]? = some (sblk s i)) (_hs : s.size ≤ 120) (hi : i ≤ s.size) (hc : pe s i ≠ c) :
    Calls Tryz.prog 188 #[.pointer (some ⟨b, 0, none⟩), .int .u8 c] w fun e w' => e = .returned (.bool false) ∧ ∃ n, w' = w.drewN n := by
  have c0 := cellOf h 0
  have c1 := cellOf h 1
  clear h
  simp at c0 c1
  by_cases hlt : i < s.size
  · have hd : ((i : Int) == (s.size : Int)) = false := by rw [beq_eq_false_iff_ne]; omega
    have hd2 : (i : Int) < (s.size : Int) := by omega
    have hq : ((s[i].toNat : Int) != c) = true := by rw [bne_iff_ne]; intro e; exact hc (by simp [pe, pk, hlt, e])
    clear hc
    go_enter Tryz.func188, Tryz.ntmps188
    go_wp2_with fail
    go_quiet (fail)
    go_wp2
    go_ret
    exact ⟨rfl, nq, rfl⟩
  · have hd : ((i : Int) == (s.size : Int)) = true := by rw [beq_iff_eq]; omega
    clear hc
    go_enter Tryz.func188, Tryz.ntmps188
    go_wp2_with fail
    go_quiet (fail)
    go_wp2
    go_ret
    exact ⟨rfl, nq, rfl⟩

set_option maxHeartbeats 800000 in
theorem sclose_ok (c : Int) (h0 : 0 ≤ c) {w : World} {b : Nat} {s : ByteArray} {i : Nat} (h : w.heap[b]? = some (sblk s i)) (hs : s.size ≤ 120) (_hi : i ≤ s.size) (hc : pe s i = c) :
    Calls Tryz.prog 188 #[.pointer (some ⟨b, 0, none⟩), .int .u8 c] w fun e w' => e = .returned (.bool true) ∧ w'.heap[b]? = some (sblk s (i + 1)) ∧ w.grownBy w' (some b) := by
  have c0 := cellOf h 0
  have c1 := cellOf h 1
  have fz := frozenOf h 1
  simp at c0 c1
  have HB := hide h
  clear h
  have hlt : i < s.size := by
    rcases Nat.lt_or_ge i s.size with h | h
    · exact h
    · simp [pe, Nat.not_lt.2 h] at hc; omega
  have hd : ((i : Int) == (s.size : Int)) = false := by rw [beq_eq_false_iff_ne]; omega
  have hd2 : (i : Int) < (s.size : Int) := by omega
  have hq : ((s[i].toNat : Int) != c) = false := by rw [bne_eq_false_iff_eq, ← hc]; simp [pe, pk, hlt]
  clear hc
  go_enter Tryz.func188, Tryz.ntmps188
  go_wp2_with fail
  go_quiet (fail)
  go_wp2
  go_ret
  refine ⟨rfl, ?_, (grown_drewN' _ nq _).trans (grown_set _ _ _ _)⟩
  have h1 := heap_set (w := w.drewN nq) (unhide HB) 1 (.int .i64 ((i : Int) + 1))
  simpa [sblk] using h1

set_option maxHeartbeats 800000 in
theorem satPiece {w : World} {b : Nat} {s : ByteArray} {i : Nat} (h : w.heap[b]? = some (sblk s i)) (hs : s.size ≤ 120) (hi : i ≤ s.size) :
    Calls Tryz.prog 150 #[.pointer (some ⟨b, 0, none⟩)] w fun e w' => e = .returned (.bool (decide (pe s (skipB s i) = 47) || decide (pe s (skipB s i) = 126) || decide (pe s (skipB s i) = 40))) ∧ w'.heap[b]? = some (sblk s (skipB s i)) ∧ w.grownBy w' (some b) := by
  have HP := hide (speek h hs hi)
  clear h
  generalize pe s (skipB s i) = p at *
  by_cases h1 : p = 47
  · subst h1
    go_enter Tryz.func150, Tryz.ntmps150
    go_wp2_with fail
    refine (unhide HP).mono ?_
    rintro e w1 ⟨rfl, hb, hg⟩
    go_wp2
    go_ret
    exact ⟨rfl, hb, hg⟩
  · by_cases h2 : p = 126
    · subst h2
      go_enter Tryz.func150, Tryz.ntmps150
      go_wp2_with fail
      refine (unhide HP).mono ?_
      rintro e w1 ⟨rfl, hb, hg⟩
      go_wp2
      go_ret
      exact ⟨rfl, hb, hg⟩
    · have q1 : (p == 47) = false := by simpa using h1
      have q2 : (p == 126) = false := by simpa using h2
      have H : Hid ((decide (p = 47) || decide (p = 126) || decide (p = 40)) = (p == 40)) := by
        show _ = _
        rw [decide_eq_false h1, decide_eq_false h2]
        rw [Bool.eq_iff_iff]
        simp
      clear h1 h2
      go_enter Tryz.func150, Tryz.ntmps150
      go_wp2_with fail
      refine (unhide HP).mono ?_
      rintro e w1 ⟨rfl, hb, hg⟩
      go_wp2
      go_ret
      rw [unhide H]
      exact ⟨rfl, hb, hg⟩

end Go.Proofs.YtlljggefbngkeaaGreatDoor
