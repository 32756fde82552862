import Derived.Test.YtlljggefbngkeaaGreatDoorU30
namespace Go.Proofs.YtlljggefbngkeaaGreatDoor
open Go.RowKit Go.Shelf
attribute [local go_sem] Oper.semAt_some

theorem run_append_row {P : Program} {w : World} {t ty e : TypeId} {i : TypeInfo} {z : Value} {bytes : Nat} (ht : P.underlying t = some (.slice e)) (hi : P.info? e = some i) (hz : i.zero = some z)
    (hsize : i.size = 1) (hby : i.bytes = bytes) (hzs : z.cells.size = 1) {v : Value} {m : Nat} {xs : List Value} (hown : w.ownsRow 0 e 1 v m xs)
    {g cap k : Nat} {ys : List Value} (hu : w.ownsRow 0 e 1 (.slice (some ⟨g, 0, none⟩) k cap) k ys) (h1 : ∀ y ∈ ys, y.oneCell' = true) (h63 : m + k ≤ maxLen) (hbytes : (m + k) * bytes ≤ 140737488355328) :
    ∃ v' w', (Builtin.append_ #[t, t] ty #[v, .slice (some ⟨g, 0, none⟩) k cap]).run P w = .ok v' w' ∧ w'.ownsRow 0 e 1 v' (m + k) (xs ++ ys) ∧ w.grownBy w' v.ownBlock ∧ (v'.ownBlock = v.ownBlock ∨ v'.ownBlock = some w.heap.size) := by
  obtain ⟨v', w', r1, r2, r3, _, r5⟩ := run_append_own_at (P := P) w 0 t ty e i z 1 bytes ht hi hz hsize hby hzs (by decide) v m xs hown ⟨g, 0, none⟩ k cap ys hu.1 (fun j y hy => by
    have hj : j < k * 1 := by have := (List.getElem?_eq_some_iff.1 hy).1; rw [hu.1] at this; exact this
    have hadd : (⟨g, 0, none⟩ : Addr).add j = ⟨g, j, none⟩ := by unfold Addr.add; split <;> simp_all
    rw [hadd, hu.cellAt j hj]
    exact hy) h1 h63 hbytes (Nat.zero_le _)
  exact ⟨v', w', r1, r2, r3, r5⟩

theorem five_at (W : World) (o1 o2 o3 o4 o5 : Obj) : ∃ w5, ((((W.alloc o1).alloc o2).alloc o3).alloc o4).alloc o5 = w5 ∧ w5.heap.size = W.heap.size + 5 ∧ w5.heap[W.heap.size]? = some o1 ∧ w5.heap[W.heap.size + 1]? = some o2 ∧ w5.heap[W.heap.size + 2]? = some o3 ∧ w5.heap[W.heap.size + 3]? = some o4 ∧ w5.heap[W.heap.size + 4]? = some o5 ∧ W.grownBy w5 none := by
  have e2 : (W.alloc o1).heap.size = W.heap.size + 1 := by simp
  have e3 : ((W.alloc o1).alloc o2).heap.size = W.heap.size + 2 := by simp
  have e4 : (((W.alloc o1).alloc o2).alloc o3).heap.size = W.heap.size + 3 := by simp
  have e5 : ((((W.alloc o1).alloc o2).alloc o3).alloc o4).heap.size = W.heap.size + 4 := by simp
  refine ⟨_, rfl, by simp, heap_alloc_old _ (heap_alloc_old _ (heap_alloc_old _ (heap_alloc_old _ (heap_alloc_new W o1)))), heap_alloc_old _ (heap_alloc_old _ (heap_alloc_old _ (e2 ▸ heap_alloc_new _ o2))), heap_alloc_old _ (heap_alloc_old _ (e3 ▸ heap_alloc_new _ o3)), heap_alloc_old _ (e4 ▸ heap_alloc_new _ o4), e5 ▸ heap_alloc_new _ o5, ?_⟩
  exact ((((World.grownBy_alloc W _ none).trans (World.grownBy_alloc _ _ none)).trans (World.grownBy_alloc _ _ none)).trans (World.grownBy_alloc _ _ none)).trans (World.grownBy_alloc _ _ none)

/-- the blocks that a round of step may turn: the box of next, and the row that lies in it -/
def fpS (B : Nat) (A : World) (k : Nat) : Prop := k = B ∨ (B + 5 ≤ k ∧ ∃ v, A.cell? ⟨B, 0, none⟩ = some v ∧ v.ownBlock = some k)

structure StI (W : World) (b : Nat) (S : List MSt) (c : UInt8) (pre : List Nat) (A : World) (v : Value) (N' : List Nat) : Prop where
  bn : A.heap[W.heap.size + 2]? = some (.cells #[v] 80 (0, 0))
  own : A.ownsRow 0 3 1 v N'.length (nums N')
  far : ∀ k, v.ownBlock = some k → W.heap.size + 7 ≤ k
  nil : N' = [] → v = .slice none 0 0
  len : N'.length ≤ pre.length
  pl : pre.length ≤ S.length
  mem : ∀ x, x ∈ N' ↔ ∃ s p, s ∈ pre ∧ S[s]? = some p ∧ c ∈ p.set ∧ x = p.nx
  bm : A.heap[W.heap.size]? = some (.cells #[.pointer (some ⟨b, 0, none⟩)] 120 (0, 0))
  bc : A.heap[W.heap.size + 1]? = some (.cells #[.int .u8 (c.toNat : Int)] 5 (0, 0))
  gr : W.grownBy A none

def StepI (W : World) (b : Nat) (S : List MSt) (c : UInt8) (pre : List Nat) (A : World) : Prop := ∃ v N', StI W b S c pre A v N'

theorem StI.fp {W : World} {b : Nat} {S : List MSt} {c : UInt8} {pre : List Nat} {A : World} {v : Value} {N' : List Nat} (h : StI W b S c pre A v N') (k : Nat) : fpS (W.heap.size + 2) A k ↔ (k = W.heap.size + 2 ∨ v.ownBlock = some k) := by
  have hc : A.cell? ⟨W.heap.size + 2, 0, none⟩ = some v := by rw [cellOf h.bn 0]; rfl
  unfold fpS
  rw [hc]
  constructor
  · rintro (h1 | ⟨_, u, h2, h3⟩)
    · exact .inl h1
    · cases h2
      exact .inr h3
  · rintro (h1 | h1)
    · exact .inl h1
    · exact .inr ⟨by have := h.far k h1; omega, v, rfl, h1⟩

theorem StI.stab {W : World} {b : Nat} {S : List MSt} {c : UInt8} {pre : List Nat} {A A' : World} {v : Value} {N' : List Nat} {N : Nat} (h : StI W b S c pre A v N') (hN : W.heap.size + 2 ≤ N) (hz : Fz N (fpS (W.heap.size + 2)) A A') : StI W b S c pre A' v N' ∧ ∀ k, fpS (W.heap.size + 2) A' k ↔ fpS (W.heap.size + 2) A k := by
  have h' : StI W b S c pre A' v N' := {
    bn := (hz.block _ (heap_lt h.bn) (.inr (.inl rfl))).trans h.bn
    own := own_same h.own (fun k e => hz.block k (own_lt h.own k e) (.inr ((h.fp k).2 (.inr e))))
    far := h.far
    nil := h.nil
    len := h.len
    pl := h.pl
    mem := h.mem
    bm := (hz.block _ (heap_lt h.bm) (.inl (by omega))).trans h.bm
    bc := (hz.block _ (heap_lt h.bc) (.inl (by omega))).trans h.bc
    gr := ⟨hz.os.trans h.gr.os, hz.tape.trans h.gr.tape, hz.output.trans h.gr.output, Nat.le_trans h.gr.size hz.size, fun k hk hn => (hz.block k (Nat.lt_of_lt_of_le hk h.gr.size) (.inl (by omega))).trans (h.gr.block k hk hn)⟩ }
  exact ⟨h', fun k => by rw [h'.fp, h.fp]⟩

def StepPost (W : World) (S : List MSt) (N0 : List Nat) (c : UInt8) (e : Ending) (w' : World) : Prop :=
  ∃ v' N', e = .returned v' ∧ w'.ownsRow 0 3 1 v' N'.length (nums N') ∧ (N' = [] → v' = .slice none 0 0) ∧ Stepped S N0 c N' ∧ N'.length ≤ S.length ∧ W.grownBy w' none

/-- append, veiled: the walk does not lay it open -/
def apW (t ty : TypeId) (args : Array Value) : Sem Value := Builtin.append_ #[t, t] ty args
theorem app_veil (t ty : TypeId) (args : Array Value) : Builtin.append_ #[t, t] ty args = apW t ty args := rfl
attribute [local go_sem ↓] app_veil

set_option maxRecDepth 100000 in
set_option maxHeartbeats 3200000 in
theorem mstep {wm W : World} {Br b : Nat} {S : List MSt} {st en : Nat} {N0 : List Nat} {v : Value} (hM : MH wm (fun k => k = Br) b S st en) (hcl : Cl S S.length) (hfl : ∀ x, freeLen S x ≤ 1000) (hS : S.length ≤ 2000) (hB : Kp (fun k => k ≠ Br) wm W)
    (hv : W.ownsRow 0 3 1 v N0.length (nums N0)) (hv0 : N0 = [] → v = .slice none 0 0) (hN : N0.length ≤ 2000) (hN0 : ∀ a, a ∈ N0 → a < S.length) (c : UInt8) :
    Calls Tryz.prog 151 #[.pointer (some ⟨b, 0, none⟩), v, .int .u8 (c.toNat : Int)] W fun e w' => StepPost W S N0 c e w' := by
  obtain ⟨i1, hi1, hy0, hy1, hy2⟩ := info_parts Tryz.infoInt
  obtain ⟨ao, cp, rfl⟩ := own_slice hv
  refine (callsIn_wide (n := 3)).1 ?_
  refine callsIn_of_wp_marks Tryz.func151 rfl trivial ?_ rfl
  simp only [Tryz.ntmps151, List.size_toArray, List.length_cons, List.length_nil, Nat.reduceAdd, Nat.reduceSub, Array.replicate_succ, Array.replicate_zero, List.push_toArray, List.append_toArray, List.nil_append, List.cons_append]
  gi_wp2_with fail
  refine ⟨trivial, (mreach 2 b ao N0.length cp _).mono ?_⟩
  rintro e w' ⟨rfl, rfl⟩
  gi_wp2_with fail
  obtain ⟨w5, hw5, hs5, h51, h52, h53, h54, h55, hg5⟩ := five_at W (.cells #[.pointer (some ⟨b, 0, none⟩)] 120) (.cells #[.int .u8 (c.toNat : Int)] 5) (.cells #[.slice none 0 0] 80) (.cells #[.pointer (some ⟨b, 0, none⟩)] 120) (.cells #[.slice ao N0.length cp] 80)
  rw [hw5]
  simp only [Nat.add_assoc, Nat.reduceAdd]
  have hB5 : Kp (fun k => k ≠ Br) wm w5 := ⟨hg5.os.trans hB.os, hg5.tape.trans hB.tape, hg5.output.trans hB.output, Nat.le_trans hB.size hg5.size, fun k hk hy => (hg5.block k (Nat.lt_of_lt_of_le hk hB.size) (by simp)).trans (hB.block k hk hy)⟩
  have hv5 := own_same hv (fun k e => hg5.block k (own_lt hv k e) (by simp))
  have hsz := hB.size
  clear hw5
  refine wpIn_rangeF (α := Nat) rfl (by decide) (gf := 178) (lb := #[.pointer (some ⟨W.heap.size + 3, 0, none⟩), .pointer (some ⟨W.heap.size + 4, 0, none⟩)]) rfl trivial (enters_of Tryz.func178 (by kernel_rfl) rfl)
    (reach_seq (fp := fpS (W.heap.size + 2)) hM hcl hfl hS hB5 (fun A k h => .inl (h.elim (fun e => by omega) (fun h => by have := h.1; omega))) (fun A h => h.elim (fun e => by omega) (fun h => by have := h.1; omega)) h54 h55 hv5 hv0 hN hN0) (fun _ => rfl)
    (StepI W b S c) (fun _ _ => False)
    (fun pre A A' h hz => ?stab) (fun _ _ _ h => h.elim) (fun _ _ _ h => h.elim)
    (fun pre A k h hk => ?fl) (fun _ pre A h k hk => ?f0)
    ⟨.slice none 0 0, [], {
      bn := h53
      own := World.ownsRow_nil _ _ _ _
      far := fun k e => by cases e
      nil := fun _ => rfl
      len := Nat.le_refl _
      pl := Nat.zero_le _
      mem := fun x => ⟨fun h => (by cases h), fun h => (by obtain ⟨s, p, h, _⟩ := h; cases h)⟩
      bm := h51
      bc := h52
      gr := hg5 }⟩
    ?a1 ?assign ?body ?done ?stop
  case stab =>
    obtain ⟨v, N', h⟩ := h
    obtain ⟨q1, q2⟩ := h.stab (by omega) hz
    exact ⟨⟨v, N', q1⟩, q2⟩
  case fl =>
    obtain ⟨v, N', h⟩ := h
    rcases hk with hk | ⟨hk, _⟩
    · exact .inl (by omega)
    · exact .inr (by omega)
  case f0 =>
    obtain ⟨v, N', h⟩ := h
    rcases (h.fp k).1 hk with rfl | hk
    · exact heap_lt h.bn
    · exact own_lt h.own k hk
  case assign =>
    intro l' x W K hK
    simp only [encN]
    gi_wp2
    exact hK
  case body =>
    rintro l' pre x Wr ⟨v, N', hI⟩ ⟨hx1, hx2, hx3, hx4⟩ hWs
    obtain ⟨p, hp⟩ : ∃ p, S[x]? = some p := ⟨_, List.getElem?_eq_getElem hx1⟩
    have hBr : Kp (fun k => k ≠ Br) wm Wr := ⟨hI.gr.os.trans hB.os, hI.gr.tape.trans hB.tape, hI.gr.output.trans hB.output, Nat.le_trans hB.size hI.gr.size, fun k hk hy => (hI.gr.block k (Nat.lt_of_lt_of_le hk hB.size) (by simp)).trans (hB.block k hk hy)⟩
    have hBw : ∀ w', Wr.grownBy w' none → Kp (fun k => k ≠ Br) wm w' := fun w' hg => ⟨hg.os.trans hBr.os, hg.tape.trans hBr.tape, hg.output.trans hBr.output, Nat.le_trans hBr.size hg.size, fun k hk hy => (hg.block k (Nat.lt_of_lt_of_le hk hBr.size) (by simp)).trans (hBr.block k hk hy)⟩
    obtain ⟨ao8, cp8, k1, _, k3⟩ := hM.row hBr
    obtain ⟨g8, v8, rfl, ⟨n8, hn8, k4⟩, k5, _, _, _⟩ := k3 x p hp
    have Hcell : Hid (∀ w', Wr.grownBy w' none → ∀ (a : Addr) (u : Value), Wr.cell? a = some u → w'.cell? a = some u) := hide fun w' hg a u hu => hg.cell hu (by simp)
    have cm : Wr.cell? ⟨W.heap.size, 0, none⟩ = some (.pointer (some ⟨b, 0, none⟩)) := by rw [cellOf hI.bm 0]; rfl
    have cc : Wr.cell? ⟨W.heap.size + 1, 0, none⟩ = some (.int .u8 (c.toNat : Int)) := by rw [cellOf hI.bc 0]; rfl
    have hc0 : ∀ w', Wr.grownBy w' none → w'.cell? ⟨W.heap.size, 0, none⟩ = some (.pointer (some ⟨b, 0, none⟩)) := fun w' hg => unhide Hcell w' hg _ _ cm
    have hc1 : ∀ w', Wr.grownBy w' none → w'.cell? ⟨b, 0, none⟩ = some (.slice (some ⟨g8, 0, none⟩) S.length cp8) := fun w' hg => unhide Hcell w' hg _ _ k1
    have hc2 : ∀ w', Wr.grownBy w' none → w'.cell? ⟨g8, x * 3, none⟩ = some (.int .u64 (n8 : Int)) := fun w' hg => unhide Hcell w' hg _ _ k4
    have hc3 : ∀ w', Wr.grownBy w' none → w'.cell? ⟨W.heap.size + 1, 0, none⟩ = some (.int .u8 (c.toNat : Int)) := fun w' hg => unhide Hcell w' hg _ _ cc
    have hc4 : ∀ w', Wr.grownBy w' none → w'.cell? ⟨g8, x * 3 + 1, none⟩ = some (.int .i64 (p.nx : Int)) := fun w' hg => unhide Hcell w' hg _ _ k5
    have HI := hide (And.intro hI (And.intro hp (And.intro hBw (And.intro hc0 (And.intro hc1 (And.intro hc4 (And.intro hx3 (And.intro hx4 hWs))))))))
    have HC := hide (fun w' => phas hn8 c w')
    clear hI hp hBr hBw k1 k3 k4 k5 cm cc hc4 hx3 hx4 hn8 Hcell
    gi_wp2_with fail
    refine wpIn_region_quiet_rlit (F := Fence.wide) (C := fun w' => Wr.grownBy w' none) rfl (by kernel_rfl) (by kernel_rfl) (by kernel_rfl) (grown_drew' Wr none) ?_
    refine wpQuietIn_step (fun _ _ _ _ => trivial) (fun K hK => ?_)
    go_simp
    refine ⟨.pointer (some ⟨b, 0, none⟩), fun w' hw' => (by rw [hc0 w' hw']; exact ⟨rfl, rfl⟩), hK _ ?_⟩
    clear hK K
    repeat (refine wpQuietIn_step (fun _ _ _ _ => trivial) (fun K hK => ?_); go_simp; first | (refine hK _ ?_; clear hK K) | (refine ⟨_, fun _ _ => rfl, hK _ ?_⟩; clear hK K))
    refine wpQuietIn_step (fun _ _ _ _ => trivial) (fun K hK => ?_)
    go_simp
    refine ⟨.slice (some ⟨g8, 0, none⟩) S.length cp8, fun w' hw' => (by rw [hc1 w' hw']; exact ⟨rfl, rfl⟩), hK _ ?_⟩
    clear hK K
    repeat (refine wpQuietIn_step (fun _ _ _ _ => trivial) (fun K hK => ?_); go_simp; first | (refine hK _ ?_; clear hK K) | (refine ⟨_, fun _ _ => rfl, hK _ ?_⟩; clear hK K))
    refine wpQuietIn_step (fun _ _ _ _ => trivial) (fun K hK => ?_)
    go_simp
    refine ⟨.int .u64 (n8 : Int), fun w' hw' => (by rw [hc2 w' hw']; exact ⟨rfl, rfl⟩), hK _ ?_⟩
    clear hK K
    refine wpQuietIn_step (fun _ _ _ _ => trivial) (fun K hK => ?_)
    go_simp
    refine ⟨.int .u8 (c.toNat : Int), fun w' hw' => (by rw [hc3 w' hw']; exact ⟨rfl, rfl⟩), hK _ ?_⟩
    clear hK K
    refine wpQuietIn_step (fun _ _ _ _ => trivial) (fun K hK => ?_)
    go_simp
    refine ⟨.bool (p.set.contains c), fun w' hw' => ?_, hK _ ?_⟩
    · refine callsIn_wide.2 ((unhide HC w').mono ?_)
      rintro e w2 ⟨rfl, rfl⟩
      exact ⟨rfl, hw'⟩
    clear hK K
    have Hspec : Hid (p.set.contains c = true ↔ c ∈ p.set) := hide (by simp)
    generalize p.set.contains c = y at *
    refine wpQuietIn_nil ?_
    intro w1 hw1
    cases y with
    | false =>
      gi_wp2_with fail
      obtain ⟨hI, hp, hBw, hc0, hc1, hc4, hx3, hx4, hWs⟩ := unhide HI
      obtain ⟨q1, q2⟩ := hI.stab (N := Wr.heap.size) (by omega) (Fz.of_grown hw1 (fun k e => by cases e))
      refine ⟨⟨hw1.os, hw1.tape, hw1.output, hw1.size, fun k hk _ => hw1.block k hk (by simp), fun k hk => .inl ((q2 k).1 hk)⟩, v, N', {
        bn := q1.bn
        own := q1.own
        far := q1.far
        nil := q1.nil
        len := by have := q1.len; simp only [List.length_append, List.length_singleton]; omega
        pl := by simp only [List.length_append, List.length_singleton]; omega
        mem := fun z => ?_
        bm := q1.bm
        bc := q1.bc
        gr := q1.gr }⟩
      rw [hI.mem z]
      constructor
      · rintro ⟨s, q, hs, hq⟩
        exact ⟨s, q, List.mem_append_left _ hs, hq⟩
      · rintro ⟨s, q, hs, hq1, hq2, hq3⟩
        rcases List.mem_append.1 hs with hs | hs
        · exact ⟨s, q, hs, hq1, hq2, hq3⟩
        · rw [List.mem_singleton] at hs
          subst hs
          rw [hp] at hq1
          cases hq1
          exact absurd ((unhide Hspec).2 hq2) (by simp)
    | true =>
      obtain ⟨hI, hp, hBw, hc0', hc1', hc4, hx3, hx4, hWs⟩ := unhide HI
      obtain ⟨q1, q2⟩ := hI.stab (N := Wr.heap.size) (by omega) (Fz.of_grown hw1 (fun k e => by cases e))
      obtain ⟨vo, vc, rfl⟩ := own_slice q1.own
      have cn : w1.cell? ⟨W.heap.size + 2, 0, none⟩ = some (.slice vo N'.length vc) := by rw [cellOf q1.bn 0]; rfl
      have e0 := hc0 w1 hw1
      have e1 := hc1 w1 hw1
      have e4 := hc4 w1 hw1
      have hl8 : N'.length ≤ 2000 := by have := hI.len; omega
      have hB1 := hBw w1 hw1
      have hb2 : W.heap.size + 2 < w1.heap.size := heap_lt q1.bn
      have hown2 : (w1.alloc (.cells #[.int .i64 (p.nx : Int)] 3)).drew.ownsRow 0 3 1 (.slice vo N'.length vc) N'.length (nums N') := (q1.own.alloc _).drew
      have hlit : (w1.alloc (.cells #[.int .i64 (p.nx : Int)] 3)).drew.ownsRow 0 3 1 (.slice (some ⟨w1.heap.size, 0, none⟩) 1 1) 1 [.int .i64 (p.nx : Int)] := (World.ownsRow_lit w1 #[.int .i64 (p.nx : Int)] 1 (Nat.zero_le _) (by unfold maxLen; omega) rfl).drew
      obtain ⟨v3, w3, hrun, hown3, hg3, hat3⟩ := run_append_row (P := Tryz.prog) (t := 80) (ty := 80) Tryz.underlying80 hi1 hy0 hy1 hy2 rfl hown2 hlit (by intro y hy; rw [List.mem_singleton] at hy; subst hy; rfl) (by unfold maxLen; omega) (by omega)
      obtain ⟨vo3, vc3, rfl⟩ := own_slice hown3
      rw [app_veil] at hrun
      have hg13 : w1.grownBy w3 (Value.slice vo N'.length vc).ownBlock := ((World.grownBy_alloc w1 (.cells #[.int .i64 (p.nx : Int)] 3) _).trans (grown_drew' _ _)).trans hg3
      have hnr : some (W.heap.size + 2) ≠ (Value.slice vo N'.length vc).ownBlock := fun e => by have := q1.far _ e.symm; omega
      have hb3 : w3.heap[W.heap.size + 2]? = some (.cells #[.slice vo N'.length vc] 80 (0, 0)) := (hg13.block _ hb2 hnr).trans q1.bn
      have fz3 := frozenOf hb3 0
      have cn3 := cellOf hb3 0
      simp at cn3
      have H3 := hide (And.intro q1 (And.intro q2 (And.intro hown3 (And.intro hat3 (And.intro hg13 (And.intro hnr hb3))))))
      have cn2 : (w1.alloc (.cells #[.int .i64 (p.nx : Int)] 3)).drew.cell? ⟨W.heap.size + 2, 0, none⟩ = some (.slice vo N'.length vc) := by show (w1.alloc _).cell? _ = _; rw [World.cell?_alloc_past _ _ _ hb2]; exact cn
      clear hI hp hBw hc0' hc1' hc4 hx3 hx4 hWs q1 q2 hB1 hown2 hlit hown3 hg3 hat3 hg13 hnr hb3 hc0 hc1 hc2 hc3
      gi_wp2_with fail
      refine wpIn_mono (Q := fun e _ w' => e = .normal ∧ w' = w3.setCell ⟨W.heap.size + 2, 0, none⟩ (.slice vo3 (N'.length + 1) vc3)) ?_ ?_
      · clear hM hcl hfl hB hv0 hN0 h51 h52 h53 h54 h55 hg5 hB5 hv hv5
        gi_region_with fail
        all_goals exact ⟨rfl, rfl⟩
      rintro e a w' ⟨rfl, rfl⟩
      gi_wp2_with fail
      obtain ⟨hI, hp, hBw, hc0', hc1', hc4, hx3, hx4, hWs⟩ := unhide HI
      obtain ⟨q1, q2, hown3, hat3, hg13, hnr, hb3⟩ := unhide H3
      have hb4 : (w3.setCell ⟨W.heap.size + 2, 0, none⟩ (.slice vo3 (N'.length + 1) vc3)).heap[W.heap.size + 2]? = some (.cells #[.slice vo3 (N'.length + 1) vc3] 80 (0, 0)) := by
        have := heap_set hb3 0 (.slice vo3 (N'.length + 1) vc3)
        simpa using this
      have far : ∀ k u, k ≠ W.heap.size + 2 → (w3.setCell ⟨W.heap.size + 2, 0, none⟩ u).heap[k]? = w3.heap[k]? := fun k u hk => Below.heap_setCell _ _ _ _ hk
      have hsz4 : ∀ u, (w3.setCell ⟨W.heap.size + 2, 0, none⟩ u).heap.size = w3.heap.size := fun u => by simp [World.setCell]
      have hob3 : ∀ k, (Value.slice vo3 (N'.length + 1) vc3).ownBlock = some k → (Value.slice vo N'.length vc).ownBlock = some k ∨ Wr.heap.size ≤ k := fun k hk => by
        rcases hat3 with h | h
        · exact .inl (h.symm.trans hk)
        · rw [hk] at h
          injection h with h
          have h2 : ((w1.alloc (.cells #[.int .i64 (p.nx : Int)] 3)).drew).heap.size = w1.heap.size + 1 := by simp [drew_heap]
          have := hw1.size
          exact .inr (by omega)
      have hfar3 : ∀ k, (Value.slice vo3 (N'.length + 1) vc3).ownBlock = some k → W.heap.size + 7 ≤ k := fun k hk => by
        rcases hob3 k hk with h | h
        · exact q1.far k h
        · omega
      have hblk : ∀ k, k < w1.heap.size → k ≠ W.heap.size + 2 → (Value.slice vo N'.length vc).ownBlock ≠ some k → (w3.setCell ⟨W.heap.size + 2, 0, none⟩ (.slice vo3 (N'.length + 1) vc3)).heap[k]? = w1.heap[k]? := fun k hk h1 h2 => (far k _ h1).trans (hg13.block k hk (Ne.symm h2))
      have hSt : StI W b S c (pre ++ [x]) (w3.setCell ⟨W.heap.size + 2, 0, none⟩ (.slice vo3 (N'.length + 1) vc3)) (.slice vo3 (N'.length + 1) vc3) (N' ++ [p.nx]) := {
        bn := hb4
        own := by
          have h1 : nums (N' ++ [p.nx]) = nums N' ++ [.int .i64 (p.nx : Int)] := by simp [nums]
          rw [h1, List.length_append, List.length_singleton]
          exact own_same hown3 (fun k e => far k _ (fun e' => by have := hfar3 k e; omega))
        far := hfar3
        nil := fun h => by simp at h
        len := by have := q1.len; simp only [List.length_append, List.length_singleton]; omega
        pl := by simp only [List.length_append, List.length_singleton]; omega
        mem := fun z => by
          rw [List.mem_append, List.mem_singleton, q1.mem z]
          constructor
          · rintro (⟨s, q, hs, hq⟩ | rfl)
            · exact ⟨s, q, List.mem_append_left _ hs, hq⟩
            · exact ⟨x, p, List.mem_append_right _ (List.mem_singleton.2 rfl), hp, (unhide Hspec).1 (by simp), rfl⟩
          · rintro ⟨s, q, hs, hq1, hq2, hq3⟩
            rcases List.mem_append.1 hs with hs | hs
            · exact .inl ⟨s, q, hs, hq1, hq2, hq3⟩
            · rw [List.mem_singleton] at hs
              subst hs
              rw [hp] at hq1
              cases hq1
              exact .inr hq3
        bm := (hblk _ (heap_lt q1.bm) (by omega) (fun e => by have := q1.far _ e; omega)).trans q1.bm
        bc := (hblk _ (heap_lt q1.bc) (by omega) (fun e => by have := q1.far _ e; omega)).trans q1.bc
        gr := ⟨hg13.os.trans q1.gr.os, hg13.tape.trans q1.gr.tape, hg13.output.trans q1.gr.output, by rw [hsz4]; exact Nat.le_trans q1.gr.size hg13.size, fun k hk hn => (hblk k (Nat.lt_of_lt_of_le hk q1.gr.size) (by omega) (fun e => by have := q1.far _ e; omega)).trans (q1.gr.block k hk hn)⟩ }
      refine ⟨⟨hg13.os.trans hw1.os, hg13.tape.trans hw1.tape, hg13.output.trans hw1.output, by rw [hsz4]; exact Nat.le_trans hw1.size hg13.size, fun k hk hn => ?_, fun k hk => ?_⟩, _, _, hSt⟩
      · rw [hI.fp] at hn
        exact (hblk k (Nat.lt_of_lt_of_le hk hw1.size) (fun e => hn (.inl e)) (fun e => hn (.inr e))).trans (hw1.block k hk (by simp))
      · rw [hSt.fp] at hk
        rw [hI.fp]
        rcases hk with hk | hk
        · exact .inl (.inl hk)
        · rcases hob3 k hk with h | h
          · exact .inl (.inr h)
          · exact .inr h
  case done =>
    rintro D xs W9 hD hS9 ⟨v, N', hI⟩ hK
    obtain ⟨vo, vc, rfl⟩ := own_slice hI.own
    have cn : W9.cell? ⟨W.heap.size + 2, 0, none⟩ = some (.slice vo N'.length vc) := by rw [cellOf hI.bn 0]; rfl
    have HI := hide (And.intro hI (And.intro hS9 hK))
    clear hI hS9
    gi_wp2_with fail
    obtain ⟨hI, hS9, _⟩ := unhide HI
    refine ⟨by simp, .inl ⟨_, _, rfl, run_takeDeferred hK, ?_⟩⟩
    refine ⟨_, results_tmp rfl _ _ _, ?_⟩
    have hg := grownBy_putObj' W9 D (.deferred none)
    refine ⟨_, N', rfl, own_same hI.own (fun k e => World.putObj_heap_other (fun e' => by have := hI.far k e; omega)), hI.nil, fun z => ?_, Nat.le_trans hI.len hI.pl, ?_⟩
    · rw [hI.mem z]
      constructor
      · rintro ⟨s, q, hs, hq⟩
        obtain ⟨a, ha, hr⟩ := (hS9 s).1 hs
        exact ⟨a, ha, s, q, hr, hq⟩
      · rintro ⟨a, ha, s, q, hr, hq⟩
        exact ⟨s, q, (hS9 s).2 ⟨a, ha, hr⟩, hq⟩
    · refine ⟨hI.gr.os, hI.gr.tape, hI.gr.output, by simp [World.putObj]; exact hI.gr.size, fun k hk hn => ?_⟩
      exact (World.putObj_heap_other (by omega)).trans (hI.gr.block k hk hn)
  case stop => rintro D pre W _ _ h; exact h.elim

end Go.Proofs.YtlljggefbngkeaaGreatDoor
