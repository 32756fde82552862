import Derived.Test.YtlljggefbngkeaaGreatDoorV15
import Derived.Test.YtlljggefbngkeaaGreatDoorV09
import Derived.Maps.AppendAt
import Derived.Test.YtlljggefbngkeaaGreatDoorV05
namespace Go.Proofs.YtlljggefbngkeaaGreatDoor
open Go.RowKit

/-- a state's list is set: the machine stands, that state turned -/
theorem MH.setFree {w : World} {Y : Nat → Prop} {b : Nat} {S : List MSt} {st en : Nat} {g cap : Nat} {xs : List Value} (h : MO w Y b S st en (.slice (some ⟨g, 0, none⟩) S.length cap) xs) {j : Nat} {q : MSt} (hq : S[j]? = some q) (fs : List Nat) (v : Value)
    (hv : w.ownsRow 0 3 1 v fs.length (nums fs)) (hvy : ∀ k, v.ownBlock = some k → ¬ Y k) :
    MH (w.setCell ⟨g, 3 * j + 2, none⟩ v) Y b (S.set j ⟨q.set, q.nx, fs⟩) st en := by
  have hj : j < S.length := (List.getElem?_eq_some_iff.1 hq).1
  have hlen := h.own.1
  have hgb : g ≠ b := fun e => own_ne h.blk h.own (by decide) (by rw [← e]; rfl)
  have far : ∀ k, k ≠ g → (w.setCell ⟨g, 3 * j + 2, none⟩ v).heap[k]? = w.heap[k]? := fun k hk => Below.heap_setCell _ _ _ _ hk
  have hown := h.own.stored (3 * j + 2) v
  refine ⟨.slice (some ⟨g, 0, none⟩) S.length cap, xs.set (3 * j + 2) v, ?_⟩
  exact {
    blk := (far b (Ne.symm hgb)).trans h.blk
    own := by rw [List.length_set]; exact hown.1
    free := by
      intro i p hp
      by_cases hij : i = j
      · subst hij
        rw [List.getElem?_set_self hj] at hp
        cases hp
        obtain ⟨v0, ⟨n1, h6, h7⟩, h2, h3, h4, h5⟩ := h.free i q hq
        refine ⟨v, ⟨n1, h6, ?_⟩, ?_, ?_, own_same hv (fun k hk => far k (fun e => own_ty hv h.own (by decide) k hk (by rw [e]; rfl))), hvy⟩
        · rw [List.getElem?_set_ne (by omega)]; exact h7
        · rw [List.getElem?_set_ne (by omega)]; exact h2
        · rw [List.getElem?_set_self (by omega)]
      · rw [List.getElem?_set_ne (Ne.symm hij)] at hp
        obtain ⟨v0, ⟨n1, h6, h7⟩, h2, h3, h4, h5⟩ := h.free i p hp
        refine ⟨v0, ⟨n1, h6, ?_⟩, ?_, ?_, own_same h4 (fun k hk => far k (fun e => own_ty h4 h.own (by decide) k hk (by rw [e]; rfl))), h5⟩
        · rw [List.getElem?_set_ne (by omega)]; exact h7
        · rw [List.getElem?_set_ne (by omega)]; exact h2
        · rw [List.getElem?_set_ne (by omega)]; exact h3
    nb := h.nb
    np := h.np }

set_option maxRecDepth 100000 in
set_option maxHeartbeats 3200000 in
theorem mlay_many {w0 : World} {b : Nat} (c : Int) (hc : c = 42 ∨ c = 43) (t : PT) (ih : LaySaid w0 b t) : LaySaid w0 b (.rep c t) := by
  intro w Y S to st en p hT hY0 hB hY hM hlen
  rw [TR] at hT
  obtain ⟨_, v, gt, hp, hv, hTt⟩ := hT
  rw [stSize] at hlen
  obtain ⟨vb, cap, rfl, _, hvl⟩ := hv.1.form (by simp)
  have cv := hv.1.cellAt 0 (by simp)
  simp [ptrs] at cv
  have hp1 := below_cell hB hp
  have hpl := heap_lt hp1
  have hvl1 : vb < w.heap.size := Nat.lt_of_lt_of_le hvl hB.size
  have cv1 : w.cell? ⟨vb, 0, none⟩ = some (.pointer (some ⟨gt, 0, none⟩)) := by rw [World.cell?_of_block (w := w0) (w' := w) (a := ⟨vb, 0, none⟩) (hB.block vb hvl)]; exact cv
  have k0 : ∀ o o', ((w.alloc o).alloc o').cell? ⟨p, 0, none⟩ = some (.int .i64 (repKind c)) := fun o o' => by rw [World.cell?_alloc_past _ _ _ (by simp; omega), World.cell?_alloc_past _ _ _ hpl, cellOf hp1 0]; rfl
  have k2 : ∀ o o', ((w.alloc o).alloc o').cell? ⟨p, 2, none⟩ = some (.slice (some ⟨vb, 0, none⟩) 1 cap) := fun o o' => by rw [World.cell?_alloc_past _ _ _ (by simp; omega), World.cell?_alloc_past _ _ _ hpl, cellOf hp1 2]; rfl
  have k3 : ∀ o o', ((w.alloc o).alloc o').cell? ⟨vb, 0, none⟩ = some (.pointer (some ⟨gt, 0, none⟩)) := fun o o' => by rw [World.cell?_alloc_past _ _ _ (by simp; omega), World.cell?_alloc_past _ _ _ hvl1]; exact cv1
  have hpY : Y p := hY0 p (heap_lt hp)
  have hvY : Y vb := hY0 vb hvl
  have hb1 : ((w.alloc (.cells #[.pointer (some ⟨b, 0, none⟩)] 120)).alloc (.cells #[.int .i64 (to : Int)] 3)).heap[w.heap.size]? = some (.cells #[.pointer (some ⟨b, 0, none⟩)] 120 (0, 0)) := heap_alloc_old _ (heap_alloc_new w _)
  have hb2 : ((w.alloc (.cells #[.pointer (some ⟨b, 0, none⟩)] 120)).alloc (.cells #[.int .i64 (to : Int)] 3)).heap[w.heap.size + 1]? = some (.cells #[.int .i64 (to : Int)] 3 (0, 0)) := alloc2_at w _ _
  have hM1 : MH ((w.alloc (.cells #[.pointer (some ⟨b, 0, none⟩)] 120)).alloc (.cells #[.int .i64 (to : Int)] 3)) (YL Y w (.slice none 0 0)) b S st en := by
    refine MH.reY ((hM.far.alloc _).alloc _) (fun k _ hz => ?_)
    rcases hz with hz | hz | hz | hz
    · exact .inl hz
    · exact .inr (by omega)
    · exact .inr (by omega)
    · cases hz
  have hB1 : Below w0.heap.size w0 ((w.alloc (.cells #[.pointer (some ⟨b, 0, none⟩)] 120)).alloc (.cells #[.int .i64 (to : Int)] 3)) := hB.trans (((Below.refl _ w).alloc hB.size _).alloc (by have := hB.size; simp; omega) _)
  have hYlt : ∀ k, YL Y w (.slice none 0 0) k → k < ((w.alloc (.cells #[.pointer (some ⟨b, 0, none⟩)] 120)).alloc (.cells #[.int .i64 (to : Int)] 3)).heap.size := by
    intro k hk
    rcases hk with hk | hk | hk | hk
    · have := hY k hk; simp; omega
    · simp; omega
    · simp; omega
    · cases hk
  have HB := hide (And.intro hb1 (And.intro hb2 (And.intro hYlt (And.intro hB1 (And.intro ih (And.intro hTt hY0))))))
  have HA := hide (MAdd ⟨[], 0, []⟩ 0 (.slice none 0 0) setRep_nil hM1 (by omega) (World.ownsRow_nil _ _ _ _) (fun k hk => by cases hk) hYlt)
  have hML := mLay_len t (S ++ [⟨[], 0, []⟩]) S.length
  have hlen1 : (S ++ [(⟨[], 0, []⟩ : MSt)]).length = S.length + 1 := by simp
  have HK0 : Hid (Kp Y w ((w.alloc (.cells #[.pointer (some ⟨b, 0, none⟩)] 120)).alloc (.cells #[.int .i64 (to : Int)] 3))) := (Kp.alloc Y w _).trans (Kp.alloc Y _ _)
  have s1 : ((w.alloc (.cells #[.pointer (some ⟨b, 0, none⟩)] 120)).alloc (.cells #[.int .i64 (to : Int)] 3)).cell? ⟨w.heap.size, 0, none⟩ = some (.pointer (some ⟨b, 0, none⟩)) := by rw [cellOf hb1 0]; rfl
  have s2 : ((w.alloc (.cells #[.pointer (some ⟨b, 0, none⟩)] 120)).alloc (.cells #[.int .i64 (to : Int)] 3)).cell? ⟨w.heap.size + 1, 0, none⟩ = some (.int .i64 (to : Int)) := by rw [cellOf hb2 0]; rfl
  have HS : Hid (∀ w3, Kp (YL Y w (.slice none 0 0)) ((w.alloc (.cells #[.pointer (some ⟨b, 0, none⟩)] 120)).alloc (.cells #[.int .i64 (to : Int)] 3)) w3 → w3.cell? ⟨w.heap.size, 0, none⟩ = some (.pointer (some ⟨b, 0, none⟩)) ∧ w3.cell? ⟨w.heap.size + 1, 0, none⟩ = some (.int .i64 (to : Int)) ∧ w3.cell? ⟨p, 2, none⟩ = some (.slice (some ⟨vb, 0, none⟩) 1 cap) ∧ w3.cell? ⟨vb, 0, none⟩ = some (.pointer (some ⟨gt, 0, none⟩)) ∧ w3.cell? ⟨p, 0, none⟩ = some (.int .i64 (repKind c))) := by
    intro w3 hK
    refine ⟨?_, ?_, ?_, ?_, ?_⟩
    · rw [World.cell?_of_block (a := ⟨w.heap.size, 0, none⟩) (hK.block w.heap.size (by simp; omega) (.inr (.inl rfl)))]; exact s1
    · rw [World.cell?_of_block (a := ⟨w.heap.size + 1, 0, none⟩) (hK.block (w.heap.size + 1) (by simp) (.inr (.inr (.inl rfl))))]; exact s2
    · rw [World.cell?_of_block (a := ⟨p, 2, none⟩) (hK.block p (by simp; omega) (.inl hpY))]; exact k2 _ _
    · rw [World.cell?_of_block (a := ⟨vb, 0, none⟩) (hK.block vb (by simp; omega) (.inl hvY))]; exact k3 _ _
    · rw [World.cell?_of_block (a := ⟨p, 0, none⟩) (hK.block p (by simp; omega) (.inl hpY))]; exact k0 _ _
  have q0 : (repKind c == 0) = false ∧ (repKind c == 1) = false ∧ (repKind c == 2) = false ∧ (repKind c == 5) = false ∧ (repKind c == 4) = decide (c = 43) := by
    rcases hc with rfl | rfl <;> decide
  obtain ⟨q0, q1, q2, q5, q4⟩ := q0
  rw [mLay, if_pos hc]
  have Hq := hide q4
  have Hc43 := hide hc
  clear hp hp1 hM hB hv hTt ih hb1 hb2 hM1 hB1 hYlt cv cv1 hc q4
  generalize repKind c = kd at *
  go_enter Tryz.func141, Tryz.ntmps141
  go_wp2_with fail
  refine (unhide HA).mono ?_
  rintro e w2 ⟨rfl, hM2, hK2⟩
  obtain ⟨hb1, hb2, hYlt, hB1, ih, hTt, hY0⟩ := unhide HB
  obtain ⟨t1, t2, t3, t4, t5⟩ := unhide HS w2 hK2
  have hBel : ∀ w3, Kp (YL Y w (.slice none 0 0)) ((w.alloc (.cells #[.pointer (some ⟨b, 0, none⟩)] 120)).alloc (.cells #[.int .i64 (to : Int)] 3)) w3 → Below w0.heap.size w0 w3 := fun w3 hK => ⟨hK.os.trans hB1.os, hK.tape.trans hB1.tape, hK.output.trans hB1.output, Nat.le_trans hB1.size hK.size, fun k hk => (hK.block k (Nat.lt_of_lt_of_le hk hB1.size) (.inl (hY0 k hk))).trans (hB1.block k hk)⟩
  have HC := hide (ih w2.drew (YL Y w (.slice none 0 0)) (S ++ [⟨[], 0, []⟩]) S.length st en gt hTt (fun j hj => .inl (hY0 j hj)) (hBel w2 hK2).drew (fun k hk => Nat.lt_of_lt_of_le (hYlt k hk) hK2.size) hM2.drew (by omega))
  have HK2 := hide hK2
  have HYl := hide (And.intro hYlt hBel)
  clear hM2 hK2 hb1 hb2 hYlt hB1 ih hTt hY0 hBel HB HA s1 s2
  go_wp2_with fail
  go_region_held3 (fun w' => w'.cell? ⟨w.heap.size, 0, none⟩ = some (.pointer (some ⟨b, 0, none⟩)) ∧ w'.cell? ⟨p, 2, none⟩ = some (.slice (some ⟨vb, 0, none⟩) 1 cap) ∧ w'.cell? ⟨vb, 0, none⟩ = some (.pointer (some ⟨gt, 0, none⟩))) (go_keep) (first
    | (go_at_call 141; refine (unhide HC).mono ?_; rintro e w3 ⟨rfl, hM3, hK3⟩; obtain ⟨u1, u2, u3, u4, u5⟩ := unhide HS w3 (((unhide HK2).trans (Kp.drew _ w2)).trans hK3)))
  all_goals
    obtain ⟨pv, xs, hMO⟩ := hM3
    have hx := mLay_ext t (S ++ [⟨[], 0, []⟩]) S.length
    have hlt3 : S.length < (mLay t (S ++ [⟨[], 0, []⟩]) S.length).1.length := by have := hx.1; omega
    have hq3 : (mLay t (S ++ [⟨[], 0, []⟩]) S.length).1[S.length]? = some ⟨[], 0, []⟩ := by rw [hx.2 S.length (by omega)]; simp
    obtain ⟨g, cap3, rfl, _, hgl⟩ := hMO.own.form (by omega)
    have e0 : w3.cell? ⟨b, 0, none⟩ = some (.slice (some ⟨g, 0, none⟩) (mLay t (S ++ [⟨[], 0, []⟩]) S.length).1.length cap3) := by rw [cellOf hMO.blk 0]; rfl
    have hbl3 := heap_lt hMO.blk
    have hfz := hMO.own.frozenAt (3 * S.length + 2)
    have hgc : ∃ x, w3.cell? ⟨g, 3 * S.length + 2, none⟩ = some x := by
      have h1 := hMO.own.cellAt (3 * S.length + 2) (by omega)
      have h2 := hMO.own.1
      rw [h1]
      exact ⟨_, List.getElem?_eq_getElem (by omega)⟩
    obtain ⟨x0, hgc⟩ := hgc
    have hKall := ((unhide HK2).trans (Kp.drew _ w2)).trans hK3
    have hz3 : ∀ k, YL Y w (.slice none 0 0) k → k < w3.heap.size := fun k hk => Nat.lt_of_lt_of_le ((unhide HYl).1 k hk) hKall.size
    have hgY : ¬ YL Y w (.slice none 0 0) g := hMO.np g rfl
    have n1 : ¬ w.heap.size = g := fun e => hgY (.inr (.inl e.symm))
    have n2 : ¬ w.heap.size + 1 = g := fun e => hgY (.inr (.inr (.inl e.symm)))
    have n3 : ¬ b = g := fun e => own_ne hMO.blk hMO.own (by decide) (by rw [e]; rfl)
    have n4 : ¬ g = w3.heap.size := by omega
    have n5 : ¬ p = g := fun e => hgY (e ▸ .inl hpY)
    have n6 : ¬ w3.heap.size = g := by omega
    have a1 := fun o => (World.cell?_alloc_past (w := w3) o w.heap.size 0 (hz3 _ (.inr (.inl rfl)))).trans u1
    have a2 := fun o => (World.cell?_alloc_past (w := w3) o (w.heap.size + 1) 0 (hz3 _ (.inr (.inr (.inl rfl))))).trans u2
    have a3 := fun o => (World.cell?_alloc_past (w := w3) o b 0 hbl3).trans e0
    have a4 := fun o => (World.cell?_alloc_past (w := w3) o g (3 * S.length + 2) hgl).trans hgc
    have f4 := fun o => (World.frozen?_alloc_past (w := w3) o g (3 * S.length + 2) hgl).trans hfz
    have a5 := fun o => (World.cell?_alloc_past (w := w3) o p 0 (hz3 _ (.inl hpY))).trans u5
    rw [show 3 * S.length + 2 = S.length * 3 + 2 by omega] at a4 f4 hgc hfz
    have cs : ∀ (v : Value) (o : Obj) (k i : Nat) (y : Value), k < w3.heap.size → k ≠ g → w3.cell? ⟨k, i, none⟩ = some y → ((w3.setCell ⟨g, S.length * 3 + 2, none⟩ v).alloc o).cell? ⟨k, i, none⟩ = some y := fun v o k i y hk hne hy => by
      rw [World.cell?_alloc_past _ _ _ (by simpa [World.setCell] using hk), World.cell?_of_block (w := w3) (a := ⟨k, i, none⟩) (Below.heap_setCell w3 ⟨g, S.length * 3 + 2, none⟩ v k hne)]
      exact hy
    have c1 := fun v o => cs v o _ _ _ (hz3 _ (.inr (.inl rfl))) n1 u1
    have c2 := fun v o => cs v o _ _ _ (hz3 _ (.inr (.inr (.inl rfl)))) n2 u2
    have c3 := fun v o => cs v o _ _ _ hbl3 n3 e0
    have c5 := fun v o => cs v o _ _ _ (hz3 _ (.inl hpY)) n5 u5
    clear cs
    have hdi : (S.length : Int) < ((mLay t (S ++ [⟨[], 0, []⟩]) S.length).1.length : Int) := by omega
    have H3 := hide (And.intro hMO (And.intro hKall (And.intro hz3 (And.intro hq3 hgY))))
    clear hMO hKall hz3 hq3 hgY hK3 HC HS hx
    generalize hS3 : (mLay t (S ++ [⟨[], 0, []⟩]) S.length).1 = S3 at *
    generalize hf3 : (mLay t (S ++ [⟨[], 0, []⟩]) S.length).2 = f3 at *
    go_wp2_with fail
    go_region_held3 (fun w' => w'.cell? ⟨w.heap.size, 0, none⟩ = some (.pointer (some ⟨b, 0, none⟩)) ∧ w'.cell? ⟨w.heap.size + 1, 0, none⟩ = some (.int .i64 (to : Int)) ∧ w'.cell? ⟨b, 0, none⟩ = some (.slice (some ⟨g, 0, none⟩) S3.length cap3)) (go_keep) (first | fail)
    all_goals
      obtain ⟨hMO, hKall, hz3, hq3, hgY⟩ := unhide H3
      have hrow := World.ownsRow_lit (base := 0) (e := 3) (size := 1) w3 #[.int .i64 (to : Int), .int .i64 (f3 : Int)] 2 (by omega) (by unfold maxLen; omega) rfl
      have hMOa : MO (w3.alloc (.cells #[.int .i64 (to : Int), .int .i64 (f3 : Int)] 3)) (YL Y w (.slice none 0 0)) b S3 st en (.slice (some ⟨g, 0, none⟩) S3.length cap3) xs := by
        have key : ∀ k, k < w3.heap.size → (w3.alloc (.cells #[.int .i64 (to : Int), .int .i64 (f3 : Int)] 3)).heap[k]? = w3.heap[k]? := fun k hk => Below.heap_alloc _ _ _ hk
        exact {
          blk := (key b hbl3).trans hMO.blk
          own := own_same hMO.own fun k hk => key k (own_lt hMO.own k hk)
          free := fun j q hq => by
            obtain ⟨v, h1, h2, h3, h4, h5⟩ := hMO.free j q hq
            exact ⟨v, h1, h2, h3, own_same h4 fun k hk => key k (own_lt h4 k hk), h5⟩
          nb := hMO.nb
          np := hMO.np }
      have hMF := MH.setFree hMOa hq3 [to, f3] (.slice (some ⟨w3.heap.size, 0, none⟩) 2 2) hrow (fun k hk hy => by simp [Value.ownBlock] at hk; have := hz3 k hy; omega)
      have hcm : (w3.alloc (.cells #[.int .i64 (to : Int), .int .i64 (f3 : Int)] 3)).setCell ⟨g, 3 * S.length + 2, none⟩ (.slice (some ⟨w3.heap.size, 0, none⟩) 2 2) = (w3.setCell ⟨g, S.length * 3 + 2, none⟩ (.slice (some ⟨w3.heap.size, 0, none⟩) 2 2)).alloc (.cells #[.int .i64 (to : Int), .int .i64 (f3 : Int)] 3) := by
        rw [show 3 * S.length + 2 = S.length * 3 + 2 by omega]
        exact World.setCell_alloc_past _ _ _ _ hgl
      rw [hcm] at hMF
      have hKf : Kp Y w ((w3.setCell ⟨g, S.length * 3 + 2, none⟩ (.slice (some ⟨w3.heap.size, 0, none⟩) 2 2)).alloc (.cells #[.int .i64 (to : Int), .int .i64 (f3 : Int)] 3)).drew :=
        (((unhide HK0).trans (Kp.mono hKall (fun k _ hk => .inl hk))).trans (Kp.set w3 g _ _ (fun hy => hgY (.inl hy)))).trans ((Kp.alloc Y _ _).trans (Kp.drew Y _))
      have HF := hide (And.intro (hMF.reY (fun k _ hk => .inl hk)).drew hKf)
      clear hMO hKall hz3 hq3 hgY hrow hMOa hMF hcm hKf H3 a1 a2 a3 a4 f4 a5
      rcases unhide Hc43 with hc | hc
      · have q4 : (kd == 4) = false := by rw [unhide Hq, hc]; decide
        go_wp2
        go_ret
        exact ⟨rfl, (unhide HF).1, (unhide HF).2⟩
      · have q4 : (kd == 4) = true := by rw [unhide Hq, hc]; decide
        go_wp2
        go_ret
        exact ⟨rfl, (unhide HF).1, (unhide HF).2⟩

end Go.Proofs.YtlljggefbngkeaaGreatDoor

namespace Go.Proofs.YtlljggefbngkeaaGreatDoor
open Go.RowKit Go.Shelf
attribute [local go_sem] Oper.semAt_some

def encB (x : Nat × Nat) : Array Value := #[.int .i64 (x.1 : Int), .pointer (some ⟨x.2, 0, none⟩)]

set_option maxRecDepth 100000 in
set_option maxHeartbeats 1600000 in
theorem bk_make (n : Nat) (ao : Option Addr) (m cp : Nat) (w : World) : CallsIn Fence.wide n Tryz.prog 159 #[.slice ao m cp] w fun e w' =>
    e = .returned (.func (.func 172) #[] #[.pointer (some ⟨w.heap.size, 0, none⟩)]) ∧ w' = w.alloc (.cells #[.slice ao m cp] 162) := by
  refine callsIn_of_wp Tryz.func159 rfl trivial ?_ rfl
  simp only [Tryz.ntmps159, List.size_toArray, List.length_cons, List.length_nil, Nat.reduceAdd, Nat.reduceSub, Array.replicate_succ, Array.replicate_zero, List.push_toArray, List.append_toArray, List.nil_append, List.cons_append]
  gi_wp2
  go_ret
  exact ⟨rfl, rfl⟩

set_option maxRecDepth 100000 in
set_option maxHeartbeats 3200000 in
theorem bk_seq {w : World} {n Bs : Nat} {v : Value} {gs : List Nat} {fp : World → Nat → Prop} (hfs : ∀ A, ¬ fp A Bs) (hfv : ∀ A k, v.ownBlock = some k → ¬ fp A k) (hb : w.heap[Bs]? = some (.cells #[v] 162 (0, 0))) (hv : w.ownsRow 0 116 1 v gs.length (ptrs gs)) :
    SeqF Fence.wide n Tryz.prog 172 #[.pointer (some ⟨Bs, 0, none⟩)] encB fp false (fun pre x => pre.length < gs.length ∧ x.1 = gs.length - 1 - pre.length ∧ gs[gs.length - 1 - pre.length]? = some x.2) (fun xs => xs.length = gs.length) (fun _ => True) w := by
  intro l J Jx W hW hJs hJx _ hY h0
  have hmx := own_max hv
  obtain ⟨ao, cp, rfl⟩ := own_slice hv
  have hbW := (hW.block Bs (heap_lt hb) (by simp)).trans hb
  have hvW := own_same hv (fun k e => hW.block k (own_lt hv k e) (by simp))
  have c0 := cellOf hbW 0
  simp at c0
  have H0 := hide (And.intro hbW (And.intro hvW h0))
  have HY := hide hY
  clear hJs hJx hY h0 hW hb hv hbW hvW
  refine callsIn_of_wp Tryz.func172 rfl trivial ?_ rfl
  simp only [Tryz.ntmps172, List.size_toArray, List.length_cons, List.length_nil, Nat.reduceAdd, Nat.reduceSub, Array.replicate_succ, Array.replicate_zero, List.push_toArray, List.append_toArray, List.nil_append, List.cons_append]
  gi_wp2_with fail
  gi_loopw [3] (fun iv wr => ∃ pre : List (Nat × Nat), iv = .int .i64 ((gs.length : Int) - 1 - (pre.length : Int)) ∧ pre.length ≤ gs.length ∧ wr.heap[Bs]? = some (.cells #[.slice ao gs.length cp] 162 (0, 0)) ∧ wr.ownsRow 0 116 1 (.slice ao gs.length cp) gs.length (ptrs gs) ∧ J pre wr) (fun iv _ => (Lib.intOf iv + 1).toNat)
  case atStart => exact ⟨[], by simp, Nat.zero_le _, (unhide H0).1, (unhide H0).2.1, (unhide H0).2.2⟩
  case round =>
    obtain ⟨pre, rfl, hk, hbr, hvr, hJr⟩ := hrel
    have d0 := cellOf hbr 0
    simp at d0
    have HI := hide (And.intro hbr (And.intro hvr hJr))
    clear hbr hvr hJr c0
    by_cases hlt : pre.length < gs.length
    · have hd : (0 : Int) ≤ (gs.length : Int) - 1 - (pre.length : Int) := by omega
      obtain ⟨hbr, hvr, hJr⟩ := unhide HI
      obtain ⟨vb, cap, hveq, _, hvl⟩ := hvr.form (by omega)
      injection hveq with hao _ hcp
      subst hao
      subst hcp
      obtain ⟨gx, hgx⟩ : ∃ gx, gs[gs.length - 1 - pre.length]? = some gx := ⟨_, List.getElem?_eq_getElem (by omega)⟩
      have ck : wr.cell? ⟨vb, gs.length - 1 - pre.length, none⟩ = some (.pointer (some ⟨gx, 0, none⟩)) := by
        have h1 := hvr.cellAt (gs.length - 1 - pre.length) (by omega)
        rw [h1]
        simp [ptrs, hgx]
      have hi2 : (gs.length : Int) - 1 - (pre.length : Int) < (gs.length : Int) := by omega
      obtain ⟨fn, tmps, assign, body, hy, hRd⟩ := unhide HY pre (gs.length - 1 - pre.length, gx) wr hJr ⟨hlt, rfl, hgx⟩
      dsimp only [encB] at hy
      rw [show (((gs.length - 1 - pre.length : Nat)) : Int) = (gs.length : Int) - 1 - (pre.length : Int) by omega] at hy
      have htn : ((gs.length : Int) - 1 - (pre.length : Int)).toNat = gs.length - 1 - pre.length := by omega
      have HRd := hide hRd
      clear hbr hvr hJr hRd
      gi_wp2_with fail
      refine ⟨depth_any, ?_⟩
      refine (unhide HRd).mono ?_
      rintro e W3 (⟨rfl, hJ3, hk3⟩ | ⟨rfl, hx3⟩)
      · gi_wp2_with fail
        go_roundw
        case rel =>
          obtain ⟨hbr, hvr, _⟩ := unhide HI
          refine ⟨pre ++ [(gs.length - 1 - pre.length, gx)], by simp; omega, by simp; omega, (hk3.block _ (heap_lt hbr) (hfs _)).trans hbr, own_same hvr (fun k e => hk3.block k (own_lt hvr k e) (hfv _ k e)), hJ3⟩
        case measure => simp [Lib.intOf]; omega
      · gi_wp2
        refine bodyPost_ret (results_none rfl _ _ _) rfl ?_
        exact ⟨⟨_, rfl⟩, .inr ⟨_, trivial, hx3⟩⟩
    · have hd : ¬ (0 : Int) ≤ (gs.length : Int) - 1 - (pre.length : Int) := by omega
      have hd2 : decide ((0 : Int) ≤ (gs.length : Int) - 1 - (pre.length : Int)) = false := by simp; omega
      gi_wp2
      go_end0
      exact ⟨⟨_, rfl⟩, .inl ⟨pre, by omega, (unhide HI).2.2⟩⟩

end Go.Proofs.YtlljggefbngkeaaGreatDoor

namespace Go.Proofs.YtlljggefbngkeaaGreatDoor
open Go.RowKit Go.Shelf
attribute [local go_sem] Oper.semAt_some

/-- what a row's laying keeps -/
def YR (Y : Nat → Prop) (w : World) (k : Nat) : Prop := Y k ∨ k = w.heap.size ∨ k = w.heap.size + 1 ∨ k = w.heap.size + 2 ∨ k = w.heap.size + 3 ∨ k = w.heap.size + 4
def fpR (Y : Nat → Prop) (w : World) (_ : World) (k : Nat) : Prop := k = w.heap.size + 1 ∨ ¬ YR Y w k

def RowI (w : World) (Y : Nat → Prop) (b : Nat) (S : List MSt) (to st en : Nat) (l : List PT) (pre : List (Nat × Nat)) (W : World) : Prop :=
  pre.length ≤ l.length ∧ MH W (YR Y w) b (mSeq (l.drop (l.length - pre.length)) S to).1 st en ∧ W.heap[w.heap.size]? = some (.cells #[.pointer (some ⟨b, 0, none⟩)] 120 (0, 0)) ∧
    W.heap[w.heap.size + 1]? = some (.cells #[.int .i64 ((mSeq (l.drop (l.length - pre.length)) S to).2 : Int)] 3 (0, 0)) ∧ Kp Y w W

set_option maxRecDepth 100000 in
set_option maxHeartbeats 3200000 in
theorem mlay_seq {w0 : World} {b : Nat} (l : List PT) (ih : ∀ t, t ∈ l → LaySaid w0 b t) : LaySaid w0 b (.seq l) := by
  intro w Y S to st en p hT hY0 hB hY hM hlen
  rw [TR] at hT
  obtain ⟨_, v, gs, hp, hv, hTL⟩ := hT
  rw [stSize] at hlen
  have Hgs := hide hTL.len
  obtain ⟨ao, cp, rfl⟩ := own_slice hv.1
  have hp1 := below_cell hB hp
  have hpl := heap_lt hp1
  have k0 : ∀ o o', ((w.alloc o).alloc o').cell? ⟨p, 0, none⟩ = some (.int .i64 1) := fun o o' => by rw [World.cell?_alloc_past _ _ _ (by simp; omega), World.cell?_alloc_past _ _ _ hpl, cellOf hp1 0]; rfl
  have k2 : ∀ o o', ((w.alloc o).alloc o').cell? ⟨p, 2, none⟩ = some (.slice ao gs.length cp) := fun o o' => by rw [World.cell?_alloc_past _ _ _ (by simp; omega), World.cell?_alloc_past _ _ _ hpl, cellOf hp1 2]; rfl
  rw [mLay]
  refine (callsIn_wide (n := 3)).1 ?_
  refine callsIn_of_wp_marks Tryz.func141 rfl trivial ?_ rfl
  simp only [Tryz.ntmps141, List.size_toArray, List.length_cons, List.length_nil, Nat.reduceAdd, Nat.reduceSub, Array.replicate_succ, Array.replicate_zero, List.push_toArray, List.append_toArray, List.nil_append, List.cons_append]
  gi_wp2_with fail
  refine ⟨trivial, (bk_make 2 ao gs.length cp _).mono ?_⟩
  rintro e w' ⟨rfl, rfl⟩
  gi_wp2_with fail
  have hs3 : (((w.alloc (.cells #[.pointer (some ⟨b, 0, none⟩)] 120)).alloc (.cells #[.int .i64 (to : Int)] 3)).alloc (.cells #[.slice ao gs.length cp] 162)).heap.size = w.heap.size + 3 := by simp
  have hb1 : (((w.alloc (.cells #[.pointer (some ⟨b, 0, none⟩)] 120)).alloc (.cells #[.int .i64 (to : Int)] 3)).alloc (.cells #[.slice ao gs.length cp] 162)).heap[w.heap.size]? = some (.cells #[.pointer (some ⟨b, 0, none⟩)] 120 (0, 0)) := heap_alloc_old _ (heap_alloc_old _ (heap_alloc_new w _))
  have hb2 : (((w.alloc (.cells #[.pointer (some ⟨b, 0, none⟩)] 120)).alloc (.cells #[.int .i64 (to : Int)] 3)).alloc (.cells #[.slice ao gs.length cp] 162)).heap[w.heap.size + 1]? = some (.cells #[.int .i64 (to : Int)] 3 (0, 0)) := heap_alloc_old _ (alloc2_at w _ _)
  have hb3 : (((w.alloc (.cells #[.pointer (some ⟨b, 0, none⟩)] 120)).alloc (.cells #[.int .i64 (to : Int)] 3)).alloc (.cells #[.slice ao gs.length cp] 162)).heap[w.heap.size + 2]? = some (.cells #[.slice ao gs.length cp] 162 (0, 0)) := alloc3_at w _ _ _
  have hM3 : MH (((w.alloc (.cells #[.pointer (some ⟨b, 0, none⟩)] 120)).alloc (.cells #[.int .i64 (to : Int)] 3)).alloc (.cells #[.slice ao gs.length cp] 162)) (YR Y w) b S st en := by
    refine MH.reY (((hM.far.alloc _).alloc _).alloc _) (fun k _ hz => ?_)
    rcases hz with hz | hz
    · exact .inl hz
    · exact .inr (by omega)
  have hK3 : Kp Y w (((w.alloc (.cells #[.pointer (some ⟨b, 0, none⟩)] 120)).alloc (.cells #[.int .i64 (to : Int)] 3)).alloc (.cells #[.slice ao gs.length cp] 162)) := ((Kp.alloc Y w _).trans (Kp.alloc Y _ _)).trans (Kp.alloc Y _ _)
  have hv3 : (((w.alloc (.cells #[.pointer (some ⟨b, 0, none⟩)] 120)).alloc (.cells #[.int .i64 (to : Int)] 3)).alloc (.cells #[.slice ao gs.length cp] 162)).ownsRow 0 116 1 (.slice ao gs.length cp) gs.length (ptrs gs) := (((own_same hv.1 (fun k e => hB.block k (own_lt hv.1 k e))).alloc _).alloc _).alloc _
  generalize (((w.alloc (.cells #[.pointer (some ⟨b, 0, none⟩)] 120)).alloc (.cells #[.int .i64 (to : Int)] 3)).alloc (.cells #[.slice ao gs.length cp] 162)) = w3 at *
  have hdrop0 : l.drop (l.length - 0) = [] := by simp
  refine wpIn_rangeF (α := Nat × Nat) rfl (by decide) (gf := 172) (lb := #[.pointer (some ⟨w.heap.size + 2, 0, none⟩)]) rfl trivial (enters_of Tryz.func172 (by kernel_rfl) rfl)
    (bk_seq (fp := fpR Y w) (fun A h => h.elim (fun e => by omega) (fun h => h (.inr (.inr (.inr (.inl rfl)))))) (fun A k e h => h.elim (fun e' => by have := Nat.lt_of_lt_of_le (own_lt hv.1 k e) hB.size; omega) (fun h => h (.inl (hY0 k (own_lt hv.1 k e))))) hb3 hv3) (fun _ => rfl)
    (RowI w Y b S to st en l) (fun _ _ => False)
    (fun pre A A' h hz => ⟨?stab, fun _ => Iff.rfl⟩) (fun _ _ _ h => h.elim) (fun _ _ _ h => h.elim)
    (fun pre A k _ hk => ?fl) (fun hfr => by cases hfr)
    ⟨Nat.zero_le _, by rw [List.length_nil, hdrop0, mSeq]; exact hM3, hb1, by rw [List.length_nil, hdrop0, mSeq]; exact hb2, hK3⟩
    ?a1 ?assign ?body ?done ?stop
  case stab =>
    obtain ⟨h1, h2, h3, h4, h5⟩ := h
    refine ⟨h1, MH.kept h2 (fun k hk hn => hz.block k hk (.inr (.inr hn))), (hz.block _ (heap_lt h3) (.inl (by omega))).trans h3, (hz.block _ (heap_lt h4) (.inl (by omega))).trans h4, h5.trans ⟨hz.os, hz.tape, hz.output, hz.size, fun k hk hy => hz.block k hk (.inl (by have := hY k hy; omega))⟩⟩
  case fl =>
    rcases hk with hk | hk
    · exact .inl (by omega)
    · have e1 : k ≠ w.heap.size + 3 := fun e => hk (.inr (.inr (.inr (.inr (.inl e)))))
      have e2 : k ≠ w.heap.size + 4 := fun e => hk (.inr (.inr (.inr (.inr (.inr e)))))
      omega
  case assign =>
    intro l' x W K hK
    simp only [encB]
    gi_wp2
    exact hK
  case body =>
    rintro l' pre ⟨ix, gx⟩ W ⟨h1, h2, h3, h4, h5⟩ ⟨hp1, hp2, hp3⟩ hWs
    simp only at hp1 hp2 hp3
    have hgs := unhide Hgs
    obtain ⟨t, g', ht1, ht2, ht3⟩ := TRL.at hTL (gs.length - 1 - pre.length) (by omega)
    rw [hp3] at ht2
    cases ht2
    have hd1 : l.length - (pre.length + 1) = gs.length - 1 - pre.length := by omega
    have hdrop : l.drop (l.length - (pre.length + 1)) = t :: l.drop (l.length - pre.length) := by
      rw [hd1, show l.length - pre.length = (gs.length - 1 - pre.length) + 1 by omega]
      have hlt : gs.length - 1 - pre.length < l.length := by omega
      rw [List.drop_eq_getElem_cons hlt]
      rw [List.getElem?_eq_getElem hlt] at ht1
      cases ht1
      rfl
    have e1 := cellOf h3 0
    have e2 := cellOf h4 0
    have f2 := frozenOf h4 0
    simp at e1 e2
    have hBW : Below w0.heap.size w0 W := ⟨h5.os.trans hB.os, h5.tape.trans hB.tape, h5.output.trans hB.output, Nat.le_trans hB.size h5.size, fun k hk => (h5.block k (Nat.lt_of_lt_of_le hk hB.size) (hY0 k hk)).trans (hB.block k hk)⟩
    have hYW : ∀ k, YR Y w k → k < W.heap.size := by
      intro k hk
      rcases hk with hk | hk | hk | hk | hk | hk
      · have := hY k hk; omega
      all_goals omega
    have hsz := mSeq_len (l.drop (l.length - pre.length)) S to
    have hst : stSizeL (l.drop (l.length - pre.length)) + stSize t ≤ stSizeL l := by
      have h9 : stSizeL (l.drop (l.length - (pre.length + 1))) ≤ stSizeL l := stSizeL_drop l _
      rw [hdrop, stSizeL] at h9
      omega
    have HC := hide (ih t (List.mem_of_getElem? ht1) W (YR Y w) (mSeq (l.drop (l.length - pre.length)) S to).1 (mSeq (l.drop (l.length - pre.length)) S to).2 st en gx ht3 (fun k hk => .inl (hY0 k hk)) hBW hYW h2 (by omega))
    have HI := hide (And.intro h3 (And.intro h4 (And.intro h5 (And.intro hdrop (And.intro hYW h1)))))
    clear h2 h3 h4 h5 hBW hYW hdrop ht1 ht3 hp3
    gi_wp2_with fail
    refine ⟨trivial, (CallsIn.inRound l' (callsIn_wide.2 (unhide HC))).mono ?_⟩
    rintro e W3 ⟨rfl, hM3', hK3'⟩
    have hb5 := (hK3'.block _ (heap_lt (unhide HI).2.1) (.inr (.inr (.inl rfl)))).trans (unhide HI).2.1
    have e5 := cellOf hb5 0
    have f5 := frozenOf hb5 0
    simp at e5
    have H3 := hide (And.intro hM3' (And.intro hK3' hb5))
    clear hM3' hK3' hb5 HC
    gi_wp2_with fail
    obtain ⟨h3, h4, h5, hdrop, hYW, h1⟩ := unhide HI
    obtain ⟨hM5, hK5, hb5⟩ := unhide H3
    have far : ∀ k x, k ≠ w.heap.size + 1 → (W3.setCell ⟨w.heap.size + 1, 0, none⟩ x).heap[k]? = W3.heap[k]? := fun k x hk => Below.heap_setCell _ _ _ _ hk
    have hsz5 : ∀ x, (W3.setCell ⟨w.heap.size + 1, 0, none⟩ x).heap.size = W3.heap.size := fun x => by simp [World.setCell]
    refine ⟨⟨hK5.os, hK5.tape, hK5.output, by rw [hsz5]; exact hK5.size, fun k hk hn => ?_, fun k hk => .inl hk⟩, by simp; omega, ?_, ?_, ?_, ?_⟩
    · have hn1 : k ≠ w.heap.size + 1 := fun e => hn (.inl e)
      have hn2 : YR Y w k := Classical.byContradiction fun h => hn (.inr h)
      exact (far k _ hn1).trans (hK5.block k hk hn2)
    · rw [List.length_append, List.length_singleton, hdrop, mSeq]
      exact MH.kept hM5 (fun k hk hn => far k _ (fun e => hn (.inr (.inr (.inl e)))))
    · exact (far _ _ (by omega)).trans ((hK5.block _ (heap_lt h3) (.inr (.inl rfl))).trans h3)
    · have := heap_set hb5 0 (.int .i64 ((mLay t (mSeq (l.drop (l.length - pre.length)) S to).1 (mSeq (l.drop (l.length - pre.length)) S to).2).2 : Int))
      rw [List.length_append, List.length_singleton, hdrop, mSeq]
      simpa using this
    · refine (h5.trans (Kp.mono hK5 (fun k _ hk => .inl hk))).trans (Kp.set W3 (w.heap.size + 1) 0 _ (fun hy => by have := hY _ hy; omega))
  case done =>
    rintro D xs W hD hS ⟨h1, h2, h3, h4, h5⟩ hK
    have hgs := unhide Hgs
    have hdrop : l.drop (l.length - xs.length) = l := by rw [show l.length - xs.length = 0 by omega]; rfl
    rw [hdrop] at h2 h4
    have e4 := cellOf h4 0
    simp at e4
    have HI := hide (And.intro h2 (And.intro h5 hK))
    clear h1 h2 h3 h4 h5 hdrop
    gi_wp2_with fail
    refine ⟨by simp, .inl ⟨_, _, rfl, run_takeDeferred hK, ?_⟩⟩
    refine ⟨_, results_tmp rfl _ _ _, rfl, ?_, ?_⟩
    · exact MH.reY (MH.kept (unhide HI).1 (fun k hk hn => World.putObj_heap_other (fun e => hn (.inr (.inr (.inr (.inr (.inl (by omega))))))))) (fun k _ hk => .inl hk)
    · exact (unhide HI).2.1.trans (Kp.of_grown (grownBy_putObj' W D _) (fun k e hy => by cases e; have := hY _ hy; omega))
  case stop => rintro D pre W _ _ h; exact h.elim

end Go.Proofs.YtlljggefbngkeaaGreatDoor

namespace Go.Proofs.YtlljggefbngkeaaGreatDoor
open Go.RowKit

mutual
theorem mlay {w0 : World} {b : Nat} : ∀ t, okRep t → LaySaid w0 b t
  | .chr l, _ => mlay_chr l
  | .seq l, h => by
    rw [okRep] at h
    have i := mlayL (w0 := w0) (b := b) l h
    exact mlay_seq l i
  | .alt l, h => by
    rw [okRep] at h
    have i := mlayL (w0 := w0) (b := b) l h
    exact mlay_alt l i
  | .rep c t, h => by
    rw [okRep] at h
    have i := mlay (w0 := w0) (b := b) t h.2
    by_cases h63 : c = 63
    · subst h63
      exact mlay_maybe t i
    · exact mlay_many c (by have := h.1; omega) t i
theorem mlayL {w0 : World} {b : Nat} : ∀ (l : List PT), okRepL l → ∀ t, t ∈ l → LaySaid w0 b t
  | [], _, t, h => absurd h (List.not_mem_nil)
  | u :: l, hl, t, h => by
    rw [okRepL] at hl
    have iu := mlay (w0 := w0) (b := b) u hl.1
    have il := mlayL (w0 := w0) (b := b) l hl.2
    rcases List.mem_cons.1 h with rfl | h
    · exact iu
    · exact il t h
end

theorem MH.c {w : World} {Y : Nat → Prop} {b : Nat} {S : List MSt} {st en : Nat} (h : MH w Y b S st en) : w.cell? ⟨b, 1, none⟩ = some (.int .i64 (st : Int)) ∧ w.cell? ⟨b, 2, none⟩ = some (.int .i64 (en : Int)) ∧ ∀ o, w.frozen? ⟨b, o, none⟩ = false := by
  obtain ⟨pv, xs, h⟩ := h
  exact ⟨by rw [cellOf h.blk 1]; rfl, by rw [cellOf h.blk 2]; rfl, fun o => frozenOf h.blk o⟩

theorem MH.setSE {w : World} {Y : Nat → Prop} {b : Nat} {S : List MSt} {st en : Nat} (h : MH w Y b S st en) {i : Nat} (x st' en' : Nat) (hi : (i = 1 ∧ st' = x ∧ en' = en) ∨ (i = 2 ∧ st' = st ∧ en' = x)) : MH (w.setCell ⟨b, i, none⟩ (.int .i64 (x : Int))) Y b S st' en' := by
  obtain ⟨pv, xs, h⟩ := h
  have far : ∀ k, k ≠ b → (w.setCell ⟨b, i, none⟩ (.int .i64 (x : Int))).heap[k]? = w.heap[k]? := fun k hk => Below.heap_setCell _ _ _ _ hk
  exact ⟨pv, xs, {
    blk := by
      have := heap_set h.blk i (.int .i64 (x : Int))
      rcases hi with ⟨rfl, rfl, rfl⟩ | ⟨rfl, rfl, rfl⟩ <;> simpa [mblk] using this
    own := own_same h.own fun k hk => far k (fun e => own_ne h.blk h.own (by decide) (by rw [hk, e]))
    free := fun j p hp => by
      obtain ⟨v, h1, h2, h3, h4, h5⟩ := h.free j p hp
      exact ⟨v, h1, h2, h3, own_same h4 fun k hk => far k (fun e => own_ne h.blk h4 (by decide) (by rw [hk, e])), h5⟩
    nb := h.nb
    np := h.np }⟩

/-- the machine of a pattern -/
def BuildPost (w : World) (t : PT) (e : Ending) (w' : World) : Prop := ∃ b, e = .returned (.pointer (some ⟨b, 0, none⟩)) ∧ MH w' (fun k => k < w.heap.size) b (mBuild t).1 (mBuild t).2 0 ∧ w.grownBy w' none

set_option maxRecDepth 100000 in
set_option maxHeartbeats 1600000 in
theorem mbuild {w : World} {Y : Nat → Prop} {t : PT} {p : Nat} (hT : TR w Y t p) (hok : okRep t) (hsz : stSize t ≤ 1000) :
    Calls Tryz.prog 98 #[.pointer (some ⟨p, 0, none⟩)] w fun e w' => BuildPost w t e w' := by
  have hM0 : MH (w.alloc (mblk (.slice none 0 0) 0 0)) (fun k => k < w.heap.size) w.heap.size [] 0 0 := by
    refine ⟨.slice none 0 0, [], ?_⟩
    exact {
      blk := heap_alloc_new w _
      own := World.ownsRow_nil _ _ _ _
      free := fun j q hq => by simp at hq
      nb := Nat.lt_irrefl _
      np := fun k hk => by cases hk }
  have HA := hide (MAdd ⟨[], 0, []⟩ 0 (.slice none 0 0) setRep_nil hM0 (by simp) (World.ownsRow_nil _ _ _ _) (fun k hk => by cases hk) (fun k hk => by simp; omega))
  have HT := hide (And.intro hT hok)
  clear hM0 hT hok
  go_enter Tryz.func98, Tryz.ntmps98
  go_wp2_with fail
  refine (unhide HA).mono ?_
  rintro e w1 ⟨rfl, hM1, hK1⟩
  obtain ⟨c1, c2, cf⟩ := hM1.c
  have cf2 := cf 2
  have cf1 := cf 1
  have hM2 := hM1.setSE (i := 2) 0 0 0 (.inr ⟨rfl, rfl, rfl⟩)
  have hkk : Kp (fun k => k < w.heap.size) w (w.alloc (mblk (.slice none 0 0) 0 0)) := Kp.alloc _ w _
  have hK2 := (hkk.trans hK1).trans (Kp.set w1 w.heap.size 2 (.int .i64 ((0 : Nat) : Int)) (Nat.lt_irrefl w.heap.size))
  obtain ⟨e1, e2, ef⟩ := hM2.c
  have ef1 := ef 1
  have hB2 : Below w.heap.size w (w1.setCell ⟨w.heap.size, 2, none⟩ (.int .i64 ((0 : Nat) : Int))) := ⟨hK2.os, hK2.tape, hK2.output, hK2.size, fun k hk => hK2.block k hk hk⟩
  have hT0 : TR w (fun _ => False) t p := TR.reY (fun _ _ h => h.elim) (unhide HT).1
  have HL := hide (mlay (w0 := w) (b := w.heap.size) t (unhide HT).2 _ (fun k => k < w.heap.size) [⟨[], 0, []⟩] 0 0 0 p hT0 (fun k hk => hk) hB2 (fun k hk => Nat.lt_of_lt_of_le hk hB2.size) hM2 (by simp; omega))
  have HK2 := hide hK2
  clear hM1 hK1 hM2 hK2 hB2 hT0 HT HA cf ef hkk
  go_wp2_with fail
  refine (unhide HL).mono ?_
  rintro e w3 ⟨rfl, hM3, hK3⟩
  obtain ⟨g1, g2, gf⟩ := hM3.c
  have gf1 := gf 1
  have HF := hide (And.intro (hM3.setSE (i := 1) (mBuild t).2 (mBuild t).2 0 (.inl ⟨rfl, rfl, rfl⟩)) (((unhide HK2).trans hK3).trans (Kp.set w3 w.heap.size 1 (.int .i64 ((mBuild t).2 : Int)) (Nat.lt_irrefl w.heap.size))))
  clear hM3 hK3 gf HL
  go_wp2
  go_ret
  obtain ⟨hM, hK⟩ := unhide HF
  exact ⟨w.heap.size, rfl, hM, ⟨hK.os, hK.tape, hK.output, hK.size, fun k hk _ => hK.block k hk hk⟩⟩

end Go.Proofs.YtlljggefbngkeaaGreatDoor

namespace Go.Proofs.YtlljggefbngkeaaGreatDoor
open Go.RowKit

/-- a copy of a row -/
def IClonePost (w : World) (gs : List Nat) (e : Ending) (w' : World) : Prop :=
  ∃ v', e = .returned v' ∧ w'.ownsRow 0 3 1 v' gs.length (nums gs) ∧ w.grownBy w' none ∧ ∀ k, v'.ownBlock = some k → w.heap.size ≤ k

set_option maxRecDepth 100000 in
set_option maxHeartbeats 1600000 in
theorem iclone {w : World} {v : Value} {gs : List Nat} (hv : w.ownsRow 0 3 1 v gs.length (nums gs)) (h0 : gs = [] → v = .slice none 0 0) (hl : gs.length ≤ 2000) :
    Calls Tryz.prog 179 #[v] w fun e w' => IClonePost w gs e w' := by
  obtain ⟨i1, hi1, hz0, hz1, hz2⟩ := info_parts Tryz.infoInt
  have qT : ∀ (w : World) (a : Option Addr) (n c n' c' : Nat), (binOp .eql 80 (.slice a n c) (.slice none n' c')).run Tryz.prog w = .ok (.bool a.isNone) w := fun w a n c n' c' => Lib.run_eql_slice_nil w _ _ a n c n' c' Tryz.underlying80
  by_cases hg : gs = []
  · obtain rfl := h0 hg
    subst hg
    clear hv
    go_enter Tryz.func179, Tryz.ntmps179
    go_wp2
    go_ret
    exact ⟨_, rfl, World.ownsRow_nil _ _ _ _, World.grownBy.refl _ _, fun k e => by cases e⟩
  · have hpos : 0 < gs.length := List.length_pos_iff.2 hg
    obtain ⟨g, cap, rfl, _, hlt⟩ := hv.form hpos
    have HV := hide hv
    have hnews : ∀ j u, (nums gs)[j]? = some u → (w.alloc (.cells #[] 3)).cell? ((⟨g, 0, none⟩ : Addr).add j) = some u := by
      intro j u hu
      have hj : j < gs.length := by have := (List.getElem?_eq_some_iff.1 hu).1; simpa [nums] using this
      have hadd : (⟨g, 0, none⟩ : Addr).add j = ⟨g, j, none⟩ := by unfold Addr.add; split <;> simp_all
      rw [hadd, World.cell?_alloc_past _ _ _ hlt, hv.cellAt j (by omega)]
      exact hu
    have hone : ∀ u ∈ nums gs, u.oneCell' = true := by
      intro u hu
      simp only [nums, List.mem_map] at hu
      obtain ⟨k, _, rfl⟩ := hu
      rfl
    have HN := hide (And.intro hnews hone)
    clear hv hnews hone h0 hg
    go_enter Tryz.func179, Tryz.ntmps179
    go_wp2_with (at_builtin; refine wpList_append_lies _ rfl (.tmp 5) (.tmp 6) 80 rfl 0 3 i1 _ 1 8 Tryz.underlying80 hi1 hz0 hz1 hz2 rfl (by decide) (.slice (some ⟨w.heap.size, 0, none⟩) 0 0) 0 [] rfl (World.ownsRow_lit w #[] 0 (Nat.zero_le _) (by unfold maxLen; omega) rfl) ⟨g, 0, none⟩ gs.length cap (nums gs) rfl (by rw [nums_length]; omega) (unhide HN).1 (unhide HN).2 hpos (by unfold maxLen; omega) (by omega) (Nat.zero_le _) _ rfl ?_)
    intro g5 cap5 w5 hown5 hgrow5 hat5 hlt5
    go_wp2
    go_ret
    refine ⟨_, rfl, by simpa using hown5, (World.grownBy_alloc w _ none).andThen hgrow5 (fun k e => Or.inl ?_), ?_⟩
    · simp [Value.ownBlock] at e
      omega
    · intro k e
      simp [Value.ownBlock] at e hat5
      omega

/-- all that a state names is a state -/
def Cl (S : List MSt) (N : Nat) : Prop := ∀ (j : Nat) (q : MSt), S[j]? = some q → q.nx < N ∧ ∀ x, x ∈ q.free → x < N

theorem Cl.app {S : List MSt} {N : Nat} (h : Cl S N) {p : MSt} (h1 : p.nx < N) (h2 : ∀ x, x ∈ p.free → x < N) : Cl (S ++ [p]) N := by
  intro j q hq
  rcases Nat.lt_or_ge j S.length with hj | hj
  · rw [List.getElem?_append_left hj] at hq
    exact h j q hq
  · have : j = S.length := by have := (List.getElem?_eq_some_iff.1 hq).1; simp at this; omega
    subst this
    have : q = p := by simpa using hq.symm
    subst this
    exact ⟨h1, h2⟩

mutual
theorem mLay_cl : ∀ (t : PT) (S : List MSt) (to N : Nat), Cl S N → to < N → (mLay t S to).1.length ≤ N → Cl (mLay t S to).1 N ∧ (mLay t S to).2 < N
  | .chr l, S, to, N, h, ht, hn => by
    rw [mLay] at *
    simp at hn
    exact ⟨h.app ht (fun x hx => by cases hx), by simp only; omega⟩
  | .seq l, S, to, N, h, ht, hn => by
    rw [mLay] at *
    exact mSeq_cl l S to N h ht hn
  | .alt l, S, to, N, h, ht, hn => by
    rw [mLay] at *
    simp at hn
    obtain ⟨h1, h2⟩ := mAlt_cl l S to N h ht (by omega)
    exact ⟨h1.app (by show 0 < N; omega) h2, by simp only; omega⟩
  | .rep c t, S, to, N, h, ht, hn => by
    rw [mLay] at *
    split
    · rename_i hc
      rw [if_pos hc] at hn
      simp only [List.length_set] at hn
      have hx := mLay_ext t (S ++ [⟨[], 0, []⟩]) S.length
      have hx1 := hx.1
      simp at hx1
      obtain ⟨h1, h2⟩ := mLay_cl t (S ++ [⟨[], 0, []⟩]) S.length N (h.app (by show 0 < N; omega) (fun x hx => by cases hx)) (by omega) hn
      refine ⟨fun j q hq => ?_, ?_⟩
      · by_cases hj : S.length = j
        · subst hj
          rw [List.getElem?_set_self (by omega)] at hq
          cases hq
          refine ⟨by show 0 < N; omega, fun x hx => ?_⟩
          simp at hx
          rcases hx with rfl | rfl
          · exact ht
          · exact h2
        · rw [List.getElem?_set_ne hj] at hq
          exact h1 j q hq
      · show (if c = 43 then _ else _) < N
        split
        · exact h2
        · omega
    · rename_i hc
      rw [if_neg hc] at hn
      simp at hn
      obtain ⟨h1, h2⟩ := mLay_cl t S to N h ht (by omega)
      refine ⟨h1.app (by show 0 < N; omega) (fun x hx => ?_), by simp only; omega⟩
      simp at hx
      rcases hx with rfl | rfl
      · exact ht
      · exact h2
theorem mSeq_cl : ∀ (l : List PT) (S : List MSt) (to N : Nat), Cl S N → to < N → (mSeq l S to).1.length ≤ N → Cl (mSeq l S to).1 N ∧ (mSeq l S to).2 < N
  | [], S, to, N, h, ht, hn => by rw [mSeq] at *; exact ⟨h, ht⟩
  | t :: l, S, to, N, h, ht, hn => by
    rw [mSeq] at *
    have hx := mLay_ext t (mSeq l S to).1 (mSeq l S to).2
    obtain ⟨h1, h2⟩ := mSeq_cl l S to N h ht (by have := hx.1; omega)
    exact mLay_cl t _ _ N h1 h2 hn
theorem mAlt_cl : ∀ (l : List PT) (S : List MSt) (to N : Nat), Cl S N → to < N → (mAlt l S to).1.length ≤ N → Cl (mAlt l S to).1 N ∧ ∀ x, x ∈ (mAlt l S to).2 → x < N
  | [], S, to, N, h, ht, hn => by rw [mAlt] at *; exact ⟨h, fun x hx => by cases hx⟩
  | t :: l, S, to, N, h, ht, hn => by
    rw [mAlt] at *
    have hx := mAlt_ext l (mLay t S to).1 to
    obtain ⟨h1, h2⟩ := mLay_cl t S to N h ht (by have := hx.1; simp only at hn; omega)
    obtain ⟨h3, h4⟩ := mAlt_cl l _ to N h1 ht hn
    refine ⟨h3, fun x hx => ?_⟩
    rcases List.mem_cons.1 hx with rfl | hx
    · exact h2
    · exact h4 x hx
end

theorem mBuild_cl (t : PT) : Cl (mBuild t).1 (mBuild t).1.length ∧ (mBuild t).2 < (mBuild t).1.length ∧ 0 < (mBuild t).1.length := by
  have hx := (mLay_ext t [⟨[], 0, []⟩] 0).1
  have hpos : 0 < (mBuild t).1.length := by unfold mBuild; simp at hx; omega
  have := mLay_cl t [⟨[], 0, []⟩] 0 (mBuild t).1.length (fun j q hq => by
    match j, hq with
    | 0, hq => cases hq; exact ⟨hpos, fun x hx => by cases hx⟩
    | j + 1, hq => simp at hq) hpos (Nat.le_refl _)
  exact ⟨this.1, this.2, hpos⟩

end Go.Proofs.YtlljggefbngkeaaGreatDoor

namespace Go.Proofs.YtlljggefbngkeaaGreatDoor
open Go.RowKit

/-- no state's list is long -/
def Fl (S : List MSt) : Prop := ∀ q, q ∈ S → q.free.length ≤ 1000

theorem Fl.app {S : List MSt} (h : Fl S) {p : MSt} (hp : p.free.length ≤ 1000) : Fl (S ++ [p]) := fun q hq => by
  rcases List.mem_append.1 hq with hq | hq
  · exact h q hq
  · rw [List.mem_singleton] at hq
    subst hq
    exact hp

theorem mAlt_many : ∀ (l : List PT) (S : List MSt) (to : Nat), (mAlt l S to).2.length = l.length
  | [], S, to => by rw [mAlt]; rfl
  | t :: l, S, to => by rw [mAlt]; simp [mAlt_many l]

mutual
theorem mLay_fl : ∀ (t : PT) (S : List MSt) (to : Nat), Fl S → stSize t ≤ 1000 → Fl (mLay t S to).1
  | .chr l, S, to, h, hs => by
    rw [mLay]
    exact h.app (by simp)
  | .seq l, S, to, h, hs => by
    rw [mLay]
    rw [stSize] at hs
    exact mSeq_fl l S to h (by omega)
  | .alt l, S, to, h, hs => by
    rw [mLay]
    rw [stSize] at hs
    have hl := stSizeL_len l
    exact (mAlt_fl l S to h (by omega)).app (by rw [mAlt_many]; omega)
  | .rep c t, S, to, h, hs => by
    rw [mLay]
    rw [stSize] at hs
    have h1 := mLay_fl t (S ++ [⟨[], 0, []⟩]) S.length (h.app (by simp)) (by omega)
    have h2 := mLay_fl t S to h (by omega)
    split
    · intro q hq
      rcases List.mem_or_eq_of_mem_set hq with hq | rfl
      · exact h1 q hq
      · simp
    · exact h2.app (by simp)
theorem mSeq_fl : ∀ (l : List PT) (S : List MSt) (to : Nat), Fl S → stSizeL l ≤ 1000 → Fl (mSeq l S to).1
  | [], S, to, h, hs => by rw [mSeq]; exact h
  | t :: l, S, to, h, hs => by
    rw [mSeq]
    rw [stSizeL] at hs
    have h1 := mSeq_fl l S to h (by omega)
    exact mLay_fl t _ _ h1 (by omega)
theorem mAlt_fl : ∀ (l : List PT) (S : List MSt) (to : Nat), Fl S → stSizeL l ≤ 1000 → Fl (mAlt l S to).1
  | [], S, to, h, hs => by rw [mAlt]; exact h
  | t :: l, S, to, h, hs => by
    rw [mAlt]
    rw [stSizeL] at hs
    have h1 := mLay_fl t S to h (by omega)
    exact mAlt_fl l _ to h1 (by omega)
end

theorem mBuild_fl {t : PT} (h : stSize t ≤ 1000) : Fl (mBuild t).1 := mLay_fl t _ _ (fun q hq => by rw [List.mem_singleton] at hq; subst hq; simp) h
theorem mBuild_len {t : PT} (h : stSize t ≤ 1000) : (mBuild t).1.length ≤ 2000 := by
  have := mLay_len t [⟨[], 0, []⟩] 0
  unfold mBuild
  simp at this
  omega

end Go.Proofs.YtlljggefbngkeaaGreatDoor

namespace Go.Proofs.YtlljggefbngkeaaGreatDoor
open Go.RowKit Go.Shelf

section
variable {F : Fence} {n : Nat} {P : Program}

/-- append of a row that is owned onto a row that is owned, inside a fence -/
theorem wpListIn_append_row {w : World} {ops : Array Oper} {rest : List Oper} {o : Oper} {a : Act} {Q : Exit → Act → World → Prop} (hgd : o.guard = none) (s x : Operand) (t : TypeId)
    (ho : o.op = .call { callee := .builtin .append, args := #[s, x], argTypes := #[t, t] })
    (e : TypeId) (i : TypeInfo) (z : Value) (bytes : Nat) (ht : P.underlying t = some (.slice e)) (hi : P.info? e = some i) (hz : i.zero = some z)
    (hsize : i.size = 1) (hby : i.bytes = bytes) (hzs : z.cells.size = 1)
    (v : Value) (m : Nat) (xs : List Value) (hs : a.eval s = v) (hown : w.ownsRow 0 e 1 v m xs)
    (u : Value) (k : Nat) (ys : List Value) (hx : a.eval x = u) (hu : w.ownsRow 0 e 1 u k ys) (h1 : ∀ y ∈ ys, y.oneCell' = true)
    (h63 : m + k ≤ maxLen) (hbytes : (m + k) * bytes ≤ 140737488355328)
    (h : ∀ v' w', w'.ownsRow 0 e 1 v' (m + k) (xs ++ ys) → w.grownBy w' v.ownBlock → (v'.ownBlock = v.ownBlock ∨ v'.ownBlock = some w.heap.size) → wpListIn F n P ops Q rest (a.put o.dst v') w') : wpListIn F n P ops Q (o :: rest) a w := by
  have hrun : ∃ v' w', (Builtin.append_ #[t, t] o.type #[v, u]).run P w = .ok v' w' ∧ w'.ownsRow 0 e 1 v' (m + k) (xs ++ ys) ∧ w.grownBy w' v.ownBlock ∧ (v'.ownBlock = v.ownBlock ∨ v'.ownBlock = some w.heap.size) := by
    rcases hu.2 with ⟨rfl, rfl⟩ | ⟨g, cap, cur, rfl, _, hg, hkc, hcm, hcs, htake⟩
    · have hy : ys = [] := List.eq_nil_of_length_eq_zero (by simpa using hu.1)
      subst hy
      exact ⟨v, w, run_append_owned_none (P := P) w 0 t o.type e i 1 ht hi v m xs hown, by simpa using hown, World.grownBy.refl _ _, .inl rfl⟩
    · obtain ⟨v', w', r1, r2, r3, _, r5⟩ := run_append_own_at (P := P) w 0 t o.type e i z 1 bytes ht hi hz hsize hby hzs (by decide) v m xs hown ⟨g, 0, none⟩ k cap ys hu.1 (fun j y hy => by
        have hj : j < k * 1 := by have := (List.getElem?_eq_some_iff.1 hy).1; rw [hu.1] at this; exact this
        have hadd : (⟨g, 0, none⟩ : Addr).add j = ⟨g, j, none⟩ := by unfold Addr.add; split <;> simp_all
        rw [hadd, hu.cellAt j hj]
        exact hy) h1 h63 hbytes (Nat.zero_le _)
      exact ⟨v', w', r1, r2, r3, r5⟩
  obtain ⟨v', w', hr, r1, r2, r3⟩ := hrun
  refine wpListIn_plain hgd fun K hK' => ?_
  unfold Oper.wpIn
  refine ⟨?_, ?_⟩
  · simp [Oper.about, ho, resolve, Target.leads, Sem.run_pure]
  · rw [Oper.semAt_plain F _ _ (by rw [ho]; intro c hc'; cases hc')]
    simp [execOp, ho, resolve, invoke, builtin, hs, hx, hr, Result.andThen]
    exact hK' _ _ (h v' w' r1 r2 r3)

theorem wpListIn_make_full {w : World} {ops : Array Oper} {rest : List Oper} {o : Oper} {a : Act} {Q : Exit → Act → World → Prop}
    (hg : o.guard = none) (l c : Operand) (t : TypeId) (hop : o.op = Op.makeSlice t l c)
    (e : TypeId) (i : TypeInfo) (z : Value) (size : Nat) (h1 : P.underlying t = some (.slice e)) (h2 : P.info? e = some i) (h3 : i.zero = some z) (h4 : i.size = size)
    (kl kc : IntKind) (L C : Int) (m : Nat) (hl : a.eval l = .int kl L) (hc : a.eval c = .int kc C) (hL : L = (m : Int)) (hC : C = (m : Int)) (b2 : i.bytes * m ≤ 281474976710656) (b3 : m ≤ maxLen)
    (hK : ∀ w', w'.ownsRow 0 e size (.slice (some ⟨w.heap.size, 0, none⟩) m m) m (madeCells z.cells (m * size)).toList → w.grownBy w' none → wpListIn F n P ops Q rest (a.put o.dst (.slice (some ⟨w.heap.size, 0, none⟩) m m)) w') :
    wpListIn F n P ops Q (o :: rest) a w := by
  refine wpListIn_plain hg fun K hK' => ?_
  obtain ⟨w', hrun, r1, r2⟩ := run_make_full (P := P) w 0 t e i z size h1 h2 h3 h4 kl kc m b2 b3 (Nat.zero_le _)
  subst hL
  subst hC
  unfold Oper.wpIn
  refine ⟨?_, ?_⟩
  · simp [Oper.about, hop]
  · rw [Oper.semAt_plain F _ _ (by rw [hop]; intro c hc'; cases hc')]
    simp [execOp, hop, hl, hc, hrun, Result.andThen]
    exact hK' _ _ (hK w' r1 r2)

end
end Go.Proofs.YtlljggefbngkeaaGreatDoor

namespace Go.Proofs.YtlljggefbngkeaaGreatDoor
open Go.RowKit Go.Shelf
attribute [local go_sem] Oper.semAt_some

/-- what those weigh that are not seen -/
def wt (f : Nat → Bool) (g : Nat → Nat) : Nat → Nat
  | 0 => 0
  | n + 1 => wt f g n + (if f n then 0 else g n)

theorem wt_congr {f f' : Nat → Bool} {g : Nat → Nat} : ∀ {n : Nat}, (∀ x, x < n → f x = f' x) → wt f g n = wt f' g n
  | 0, _ => rfl
  | n + 1, h => by rw [wt, wt, wt_congr (n := n) (fun x hx => h x (by omega)), h n (by omega)]
theorem wt_upd {f : Nat → Bool} {g : Nat → Nat} {k : Nat} (hk : f k = false) : ∀ {n : Nat}, k < n → wt (upd f k true) g n + g k = wt f g n
  | 0, h => by omega
  | n + 1, h => by
    rw [wt, wt]
    by_cases e : k = n
    · subst e
      rw [wt_congr (f := upd f k true) (f' := f) (n := k) (fun x hx => by unfold upd; rw [if_neg (by omega)])]
      simp [upd, hk]
    · have := wt_upd (g := g) hk (n := n) (by omega)
      have h2 : upd f k true n = f n := by unfold upd; rw [if_neg (by omega)]
      rw [h2]
      omega
theorem wt_none (g : Nat → Nat) (c : Nat) (hg : ∀ x, g x ≤ c) (f : Nat → Bool) : ∀ n, wt f g n ≤ c * n
  | 0 => by simp [wt]
  | n + 1 => by
    have := wt_none g c hg f n
    have h2 := hg n
    rw [wt, Nat.mul_succ]
    split <;> omega
theorem wt_one : ∀ n, wt (fun _ => false) (fun _ => 1) n = n
  | 0 => rfl
  | n + 1 => by rw [wt, wt_one n]; rfl

def freeLen (S : List MSt) (x : Nat) : Nat := match S[x]? with | some p => p.free.length | none => 0

def fOf (w : World) (g x : Nat) : Bool := match w.cell? ⟨g, x, none⟩ with | some (.bool y) => y | _ => false
theorem fOf_eq {w : World} {g n c : Nat} {f : Nat → Bool} (h : BR w g n c f) (x : Nat) (hx : x < n) : fOf w g x = f x := by
  unfold fOf
  rw [h.cell x hx]

def slLen : Value → Nat
  | .slice _ n _ => n
  | _ => 0

theorem closed_rch {S : List MSt} {pre : List Nat} (h : ∀ x, x ∈ pre → ∀ p, S[x]? = some p → ∀ y, y ∈ p.free → y ∈ pre) {k a : Nat} {v : List UInt8} {x : Nat} (hr : GoN S k a v x) : v = [] → a ∈ pre → x ∈ pre := by
  induction hr with
  | refl a => intro _ h; exact h
  | sign h1 h2 h3 ih => intro e; cases e
  | free h1 h2 h3 ih => intro e ha; exact ih e (h _ ha _ h1 _ h2)

theorem Rch.one {S : List MSt} {a x y : Nat} {p : MSt} (h : Rch S a x) (hp : S[x]? = some p) (hy : y ∈ p.free) : Rch S a y := h.trans (Rch.step hp hy (Rch.refl S y))

theorem own_init {w : World} {e : TypeId} {g m cap : Nat} {xs : List Value} {y : Value} (h : w.ownsRow 0 e 1 (.slice (some ⟨g, 0, none⟩) (m + 1) cap) (m + 1) (xs ++ [y])) (hx : xs.length = m) : w.ownsRow 0 e 1 (.slice (some ⟨g, 0, none⟩) m cap) m xs := by
  refine ⟨by omega, ?_⟩
  rcases h.2 with ⟨h', _⟩ | ⟨g', cap', cur, h', hb, hg, hnc, hcm, hcs, htake⟩
  · simp at h'
  · simp only [Value.slice.injEq, Option.some.injEq, Addr.mk.injEq, and_true, true_and] at h'
    obtain ⟨rfl, rfl⟩ := h'
    refine .inr ⟨g, cap, cur, rfl, hb, hg, by omega, hcm, hcs, ?_⟩
    have h2 := congrArg (List.take m) htake
    rw [List.take_take] at h2
    rw [show m * 1 = min m ((m + 1) * 1) by omega, h2, List.take_append_of_le_length (by omega), List.take_of_length_le (by omega)]

theorem snoc_of {α : Type} (l : List α) (h : 0 < l.length) : ∃ l' x, l = l' ++ [x] :=
  ⟨l.dropLast, l.getLast (List.ne_nil_of_length_pos h), (List.dropLast_concat_getLast _).symm⟩

/-- where the walk through the machine stands -/
structure RI (wm : World) (Br b : Nat) (S : List MSt) (N0 : List Nat) (Bm N gsn : Nat) (fp : World → Nat → Prop) (J : List Nat → World → Prop) (v : Value) (wr : World) (pre wl : List Nat) (f : Nat → Bool) : Prop where
  own : wr.ownsRow 0 3 1 v wl.length (nums wl)
  br : BR wr gsn S.length S.length f
  fs : ∀ j, j < S.length → (f j = true ↔ j ∈ pre)
  wl1 : ∀ x, x ∈ wl → x < S.length ∧ ∃ a, a ∈ N0 ∧ Rch S a x
  pr : ∀ x, x ∈ pre → ∃ a, a ∈ N0 ∧ Rch S a x
  n0 : ∀ a, a ∈ N0 → a ∈ pre ∨ a ∈ wl
  fr : ∀ x, x ∈ pre → ∀ p, S[x]? = some p → ∀ y, y ∈ p.free → y ∈ pre ∨ y ∈ wl
  cnt : pre.length + wt f (fun _ => 1) S.length = S.length
  bd : wl.length + wt f (freeLen S) S.length ≤ 4000000
  j : J pre wr
  bel : Kp (fun k => k ≠ Br) wm wr
  bx : wr.heap[Bm]? = some (.cells #[.pointer (some ⟨b, 0, none⟩)] 120 (0, 0))
  ob : ∀ k, v.ownBlock = some k → N ≤ k ∧ k ≠ gsn ∧ ¬ fp wr k
  og : ¬ fp wr gsn

def encN (x : Nat) : Array Value := #[.int .i64 (x : Int)]

theorem MH.row {w w' : World} {Br b : Nat} {S : List MSt} {st en : Nat} (h : MH w (fun k => k = Br) b S st en) (hB : Kp (fun k => k ≠ Br) w w') : ∃ ao cp, w'.cell? ⟨b, 0, none⟩ = some (.slice ao S.length cp) ∧ w'.cell? ⟨b, 2, none⟩ = some (.int .i64 (en : Int)) ∧
    ∀ j p, S[j]? = some p → ∃ g v, ao = some ⟨g, 0, none⟩ ∧ (∃ n : Nat, SetRep n p.set ∧ w'.cell? ⟨g, j * 3, none⟩ = some (.int .u64 (n : Int))) ∧ w'.cell? ⟨g, j * 3 + 1, none⟩ = some (.int .i64 (p.nx : Int)) ∧ w'.cell? ⟨g, j * 3 + 2, none⟩ = some v ∧ w'.ownsRow 0 3 1 v p.free.length (nums p.free) ∧ ∀ k, v.ownBlock = some k → k < w.heap.size := by
  obtain ⟨pv, xs, h⟩ := h
  obtain ⟨ao, cp, rfl⟩ := own_slice h.own
  have hb' := (hB.block b (heap_lt h.blk) h.nb).trans h.blk
  have ho := own_same h.own (fun k e => hB.block k (own_lt h.own k e) (h.np k e))
  refine ⟨ao, cp, by rw [cellOf hb' 0]; rfl, by rw [cellOf hb' 2]; rfl, fun j p hp => ?_⟩
  have hj : j < S.length := (List.getElem?_eq_some_iff.1 hp).1
  obtain ⟨g, cap, hveq, _, hvl⟩ := ho.form (by omega)
  injection hveq with hao _ hcp
  subst hao
  subst hcp
  obtain ⟨v, ⟨n, hn1, hn2⟩, h2, h3, h4, h5⟩ := h.free j p hp
  rw [Nat.mul_comm 3 j] at hn2 h2 h3
  refine ⟨g, v, rfl, ⟨n, hn1, ?_⟩, ?_, ?_, own_same h4 (fun k e => hB.block k (own_lt h4 k e) (h5 k e)), fun k e => own_lt h4 k e⟩
  · rw [ho.cellAt _ (by omega)]; exact hn2
  · rw [ho.cellAt _ (by omega)]; exact h2
  · rw [ho.cellAt _ (by omega)]; exact h3

end Go.Proofs.YtlljggefbngkeaaGreatDoor
