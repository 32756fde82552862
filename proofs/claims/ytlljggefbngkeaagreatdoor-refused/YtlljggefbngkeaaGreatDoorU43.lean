import Derived.Test.YtlljggefbngkeaaGreatDoorU42
import Derived.BigQuiet
namespace Go.Proofs.YtlljggefbngkeaaGreatDoor
open Go.RowKit

set_option maxRecDepth 100000 in
set_option maxHeartbeats 1600000 in
/-- twice, of a * -/
theorem jtwice_many {s : ByteArray} {v : Bool} {at_ : Nat} {u : LT} {w : World} {Y : Nat → Prop} {g n : Nat} (hL : LR s w Y (.many at_ u) g) (hO : VOk (.many at_ u)) (hY : ∀ k, Y k → k < w.heap.size) (hTab : Tab w)
    (ok : okRep (sideT v u)) (hs : stSize (sideT v u) + 1 ≤ 1000) :
    Calls Tryz.prog 92 #[jagg g n, .int .i64 (sdV v)] w fun e w' => RTPost w (sideT v u) e w' := by
  have hO1 : VOk u := hO.part (by simp [parts])
  rw [LR] at hL
  obtain ⟨hng, pv, jv, ga, hb, hw, _, hLu⟩ := hL
  obtain ⟨vb, cap, rfl, _, hvl⟩ := hw.1.form (by simp)
  have hgl := heap_lt hb
  have c0 : ∀ o, (w.alloc o).cell? ⟨g, 0, none⟩ = some (.int .i64 4) := fun o => by rw [World.cell?_alloc_past _ _ _ hgl, cellOf hb 0]; rfl
  have c1 : ∀ o, (w.alloc o).cell? ⟨g, 1, none⟩ = some (.slice (some ⟨vb, 0, none⟩) 1 cap) := fun o => by rw [World.cell?_alloc_past _ _ _ hgl, cellOf hb 1]; rfl
  have ck : ∀ o, (w.alloc o).cell? ⟨vb, 0, none⟩ = some (.pointer (some ⟨ga, 0, none⟩)) := fun o => by
    rw [World.cell?_alloc_past _ _ _ hvl, hw.1.cellAt 0 (by simp)]
    rfl
  have HT := hide (stexts (s := s) (v := v) u (w.alloc (.cells #[.pointer (some ⟨g, 0, none⟩), .int .i64 (n : Int)] 109)) Y ga (LR.kept (fun k hk _ => Below.heap_alloc w _ k hk) hLu) hO1 (fun k hk => by have := hY k hk; simp; omega))
  have Ho := hide (And.intro ok hTab)
  clear hb hw hLu hO hO1 ok hTab
  unfold jagg
  go_enter Tryz.func92, Tryz.ntmps92
  go_wp2_with fail
  refine (unhide HT).mono ?_
  rintro e w1 ⟨g1, rfl, hg1, hT1⟩
  have hg := (World.grownBy_alloc w (.cells #[.pointer (some ⟨g, 0, none⟩), .int .i64 (n : Int)] 109) none).trans hg1
  have HR := hide (rtwice hT1 (unhide Ho).1 hs ((unhide Ho).2.grown hg) (fun k hk => by have := hY k hk; have := hg.size; omega))
  have H1 := hide hg
  clear hg hg1 hT1 HT
  go_wp2_with fail
  refine (unhide HR).mono ?_
  rintro e w2 ⟨u2, f, rfl, h1, h2, hg2⟩
  have H2 := hide (And.intro h1 (And.intro h2 hg2))
  clear h1 h2 hg2 HR
  go_wp2
  go_ret2
  exact ⟨u2, f, rfl, (unhide H2).1, (unhide H2).2.1, (unhide H1).trans (unhide H2).2.2⟩

def shA (t : LT) (n : Nat) : PT := pAlt ((sideP false t).take (n + 1))

set_option maxRecDepth 100000 in
set_option maxHeartbeats 1600000 in
theorem jshared {s : ByteArray} {t : LT} {w : World} {Y : Nat → Prop} {g n : Nat} (hL : LR s w Y t g) (hO : VOk t) (hY : ∀ k, Y k → k < w.heap.size) (hn : n + 1 < (parts t).length) (hTab : Tab w)
    (oka : okRep (shA t n)) (okb : okRep (twB false t n)) (hsa : stSize (shA t n) ≤ 1000) (hsb : stSize (twB false t n) ≤ 1000) :
    Calls Tryz.prog 91 #[jagg g n] w fun e w' => SrPost w (shA t n) (twB false t n) e w' := by
  have HA := hide (jaround (v := false) (LR.kept (w' := w.alloc (.cells #[.pointer (some ⟨g, 0, none⟩), .int .i64 (n : Int)] 109)) (fun k hk _ => Below.heap_alloc w _ k hk) hL) hO (fun k hk => by have := hY k hk; simp; omega) hn)
  have hsd : sdV false = 0 := rfl
  rw [hsd] at HA
  have Ho := hide (And.intro oka (And.intro okb hTab))
  have hpl := hO.len
  clear hL hO oka okb hTab hsd
  unfold jagg at *
  go_enter Tryz.func91, Tryz.ntmps91
  go_wp2_with fail
  refine (unhide HA).mono ?_
  rintro e w1 ⟨vb, cp, gs, gb, tb, rfl, hgs, hown, hTL, htb, hTb, hg1⟩
  have hg := (World.grownBy_alloc w (.cells #[.pointer (some ⟨g, 0, none⟩), .int .i64 (n : Int)] 109) none).trans hg1
  have hY1 : ∀ k, Y k → k < w1.heap.size := fun k hk => by have := hY k hk; have := hg.size; omega
  rw [← hgs] at hown
  have HR := hide (pchoice hown (fun e => by rw [e] at hgs; simp at hgs) (by omega) hTL hY1)
  rw [hgs] at HR
  have H1 := hide (And.intro hTb (And.intro htb (And.intro hg hY1)))
  clear hown hTL hTb htb hg hg1 hY1 HA hgs
  go_wp2_with fail
  refine (unhide HR).mono ?_
  rintro e w2 ⟨g2, rfl, hg2, hT2⟩
  obtain ⟨hTb, htb, hg, hY1⟩ := unhide H1
  obtain ⟨oka, okb, hTab⟩ := unhide Ho
  have hbq : twB false t n = tb := by unfold twB; rw [htb]; rfl
  have HP := hide (shared_ (tp := shA t n) (tq := twB false t n) hT2 (by rw [hbq]; exact TR.kept (fun k hk _ => hg2.block k hk (by simp)) hTb) oka okb hsa hsb ((hTab.grown hg).grown hg2))
  have H2 := hide (hg.trans hg2)
  clear hTb htb hg hY1 oka okb hTab hbq hg2 hT2 HR
  go_wp2_with fail
  refine (unhide HP).mono ?_
  rintro e w3 ⟨u, f, rfl, h1, h2, hg3⟩
  have H3 := hide (And.intro h1 (And.intro h2 hg3))
  clear h1 h2 hg3 HP
  go_wp2
  go_ret2
  exact ⟨u, f, rfl, (unhide H3).1, (unhide H3).2.1, (unhide H2).trans (unhide H3).2.2⟩

end Go.Proofs.YtlljggefbngkeaaGreatDoor

namespace Go.Proofs.YtlljggefbngkeaaGreatDoor
open Go.RowKit

set_option maxHeartbeats 800000 in
theorem shorter_ (a b : ByteArray) (w : World) : Calls Tryz.prog 93 #[.string a, .string b] w fun e w' => (e = .returned (.string a) ∨ e = .returned (.string b)) ∧ w' = w := by
  by_cases h : b.size < a.size
  · have hd : (b.size : Int) < (a.size : Int) := by omega
    go_enter Tryz.func93, Tryz.ntmps93
    go_wp2
    go_ret
    exact ⟨.inr rfl, rfl⟩
  · have hd : ¬ ((b.size : Int) < (a.size : Int)) := by omega
    go_enter Tryz.func93, Tryz.ntmps93
    go_wp2
    go_ret
    exact ⟨.inl rfl, rfl⟩

/-- is the text a witness of the joint? -/
def JW1 (v : Bool) (t : LT) (n : Nat) (u : List UInt8) : Prop := match t with
  | .many _ a => (M (sideT v a) [] ∧ u = []) ∨ (¬ M (sideT v a) [] ∧ Twice (sideT v a) (.rep 42 (sideT v a)) u)
  | t => Twice (twA v t n) (twB v t n) u
def JWit (t : LT) (n : Nat) (u : List UInt8) : Prop := match t with
  | .choice _ _ => M (shA t n) u ∧ M (twB false t n) u
  | t => JW1 false t n u ∨ JW1 true t n u

/-- what twice, and witness, answer of a joint -/
def JPost2 (W : World) (P : List UInt8 → Prop) (e : Ending) (w' : World) : Prop :=
  ∃ (u : List UInt8) (f : Bool), e = .returned (.tuple #[.string (txt u), .bool f]) ∧ (f = true → P u ∧ u.length ≤ 100000000) ∧ (f = false → u = [] ∧ ∀ s, ¬ P s) ∧ W.grownBy w' none

/-- what is asked of a joint: its number, and that its patterns are small and whole -/
structure JOk (t : LT) (n : Nat) : Prop where
  nb : match t with | .many _ _ => n = 0 | t => n + 1 < (parts t).length
  ok : ∀ v, match t with | .many _ a => okRep (sideT v a) ∧ stSize (sideT v a) + 1 ≤ 1000 | t => okRep (twA v t n) ∧ okRep (twB v t n) ∧ stSize (twA v t n) ≤ 1000 ∧ stSize (twB v t n) ≤ 1000
  sh : okRep (shA t n) ∧ stSize (shA t n) ≤ 1000

theorem jtwice_any {s : ByteArray} {v : Bool} {t : LT} {w : World} {Y : Nat → Prop} {g n : Nat} (hL : LR s w Y t g) (hO : VOk t) (hY : ∀ k, Y k → k < w.heap.size) (hTab : Tab w) (hJ : JOk t n) :
    Calls Tryz.prog 92 #[jagg g n, .int .i64 (sdV v)] w fun e w' => JPost2 w (JW1 v t n) e w' := by
  by_cases hm : kindOf t = 4
  · cases t with
    | many at_ a =>
      have h1 := hJ.ok v
      refine (jtwice_many hL hO hY hTab h1.1 h1.2).mono ?_
      rintro e w' ⟨u, f, rfl, h2, h3, h4⟩
      refine ⟨u, f, rfl, h2, fun hf => ⟨(h3 hf).1, fun s hs => ?_⟩, h4⟩
      rcases hs with ⟨hs, _⟩ | ⟨_, hs⟩
      · exact (h3 hf).2.1 hs
      · exact (h3 hf).2.2 s hs
    | _ => simp [kindOf] at hm
  · have h1 : n + 1 < (parts t).length ∧ okRep (twA v t n) ∧ okRep (twB v t n) ∧ stSize (twA v t n) ≤ 1000 ∧ stSize (twB v t n) ≤ 1000 ∧ JW1 v t n = Twice (twA v t n) (twB v t n) := by
      have h2 := hJ.ok v
      have h3 := hJ.nb
      cases t <;> first | exact ⟨h3, h2.1, h2.2.1, h2.2.2.1, h2.2.2.2, rfl⟩ | exact absurd rfl hm
    obtain ⟨q1, q2, q3, q4, q5, q6⟩ := h1
    rw [q6]
    refine (jtwice hL hO hY q1 hm hTab q2 q3 q4 q5).mono ?_
    rintro e w' ⟨u, f, rfl, h2, h3, h4⟩
    exact ⟨u, f, rfl, h2, h3, h4⟩

end Go.Proofs.YtlljggefbngkeaaGreatDoor

namespace Go.Proofs.YtlljggefbngkeaaGreatDoor
open Go.RowKit

theorem txt_nil_app (u : List UInt8) : (⟨#[]⟩ : ByteArray) ++ txt u = txt u := by
  show ByteArray.empty ++ txt u = txt u
  simp
theorem txt_app_nil (u : List UInt8) : txt u ++ (⟨#[]⟩ : ByteArray) = txt u := by
  show txt u ++ ByteArray.empty = txt u
  simp

set_option maxRecDepth 100000 in
set_option maxHeartbeats 3200000 in
theorem jwitness {s : ByteArray} {t : LT} {w : World} {Y : Nat → Prop} {g n : Nat} (hL : LR s w Y t g) (hO : VOk t) (hY : ∀ k, Y k → k < w.heap.size) (hTab : Tab w) (hJ : JOk t n) :
    Calls Tryz.prog 65 #[jagg g n] w fun e w' => JPost2 w (JWit t n) e w' := by
  obtain ⟨hng, pv, jv, pat, wr0, vw, df, a, gs0, hb, _, _, _⟩ := lr_node hL
  have hgl := heap_lt hb
  have c0 : ∀ o, (w.alloc o).cell? ⟨g, 0, none⟩ = some (.int .i64 (kindOf t)) := fun o => by rw [World.cell?_alloc_past _ _ _ hgl, cellOf hb 0]; rfl
  have hL1 := LR.kept (w' := w.alloc (.cells #[.pointer (some ⟨g, 0, none⟩), .int .i64 (n : Int)] 109)) (fun k hk _ => Below.heap_alloc w _ k hk) hL
  have hY1 : ∀ k, Y k → k < (w.alloc (.cells #[.pointer (some ⟨g, 0, none⟩), .int .i64 (n : Int)] 109)).heap.size := fun k hk => by have := hY k hk; simp; omega
  have hT1 := hTab.grown (World.grownBy_alloc w (.cells #[.pointer (some ⟨g, 0, none⟩), .int .i64 (n : Int)] 109) none)
  by_cases h6 : kindOf t = 6
  · have hsh : JWit t n = (fun u => M (shA t n) u ∧ M (twB false t n) u) ∧ n + 1 < (parts t).length ∧ okRep (twB false t n) ∧ stSize (twB false t n) ≤ 1000 := by
      have h2 := hJ.ok false
      have h3 := hJ.nb
      cases t <;> first | exact ⟨rfl, h3, h2.2.1, h2.2.2.2⟩ | simp [kindOf] at h6
    obtain ⟨q1, q2, q3, q4⟩ := hsh
    have HS := hide (jshared hL1 hO hY1 q2 hT1 hJ.sh.1 q3 hJ.sh.2 q4)
    have Hq := hide q1
    rw [h6] at c0
    clear hL hO hTab hJ hb hL1 hY1 hT1 q1 q2 q3 q4
    unfold jagg at *
    go_enter Tryz.func65, Tryz.ntmps65
    go_wp2_with fail
    refine (unhide HS).mono ?_
    rintro e w3 ⟨u, f, rfl, h1, h2, hg3⟩
    have H3 := hide (And.intro h1 (And.intro h2 hg3))
    clear h1 h2 hg3 HS
    go_wp2
    go_ret2
    rw [unhide Hq]
    exact ⟨u, f, rfl, (unhide H3).1, (unhide H3).2.1, (World.grownBy_alloc w _ none).trans (unhide H3).2.2⟩
  · have hsh : JWit t n = (fun u => JW1 false t n u ∨ JW1 true t n u) := by
      cases t <;> first | rfl | exact absurd rfl h6
    have Hq := hide hsh
    have HS := hide (jtwice_any (v := false) hL1 hO hY1 hT1 hJ)
    have HE := hide (And.intro hL1 (And.intro hO (And.intro hT1 hJ)))
    clear hL hO hTab hJ hb hL1 hT1 hsh
    generalize kindOf t = K at *
    have e0 : sdV false = 0 := rfl
    rw [e0] at HS
    unfold jagg at *
    go_enter Tryz.func65, Tryz.ntmps65
    go_wp2_with fail
    refine (unhide HS).mono ?_
    rintro e w3 ⟨u, f, rfl, h1, h2, hg3⟩
    obtain ⟨hL1, hO, hT1, hJ⟩ := unhide HE
    have HV := hide (jtwice_any (v := true) (LR.kept (w' := w3) (fun k hk _ => hg3.block k hk (by simp)) hL1) hO (fun k hk => by have := hY1 k hk; have := hg3.size; omega) (hT1.grown hg3) hJ)
    have j0 : w3.cell? ⟨w.heap.size, 0, none⟩ = some (.pointer (some ⟨g, 0, none⟩)) := hg3.cell (by rw [cellOf (heap_alloc_new w _) 0]; rfl) (by simp)
    have j1 : w3.cell? ⟨w.heap.size, 1, none⟩ = some (.int .i64 (n : Int)) := hg3.cell (by rw [cellOf (heap_alloc_new w _) 1]; rfl) (by simp)
    have e1 : sdV true = 1 := rfl
    rw [e1] at HV
    unfold jagg at HV
    have H3 := hide (And.intro h1 (And.intro h2 hg3))
    clear h1 h2 hg3 HS hL1 hO hT1 hJ e1 e0
    go_wp2_with fail
    refine (unhide HV).mono ?_
    rintro e w4 ⟨u2, f2, rfl, k1, k2, hg4⟩
    have H4 := hide (And.intro k1 (And.intro k2 hg4))
    clear k1 k2 hg4 HV
    obtain ⟨h1, h2, hg3⟩ := unhide H3
    obtain ⟨k1, k2, hg4⟩ := unhide H4
    have hg := ((World.grownBy_alloc w (.cells #[.pointer (some ⟨g, 0, none⟩), .int .i64 (n : Int)] 109) none).trans hg3).trans hg4
    cases f with
    | true =>
      cases f2 with
      | true =>
        obtain ⟨p1, p2⟩ := h1 rfl
        obtain ⟨p3, p4⟩ := k1 rfl
        have HX := hide (shorter_ (txt u) (txt u2) w4)
        have HP := hide (And.intro p1 (And.intro p3 hg))
        clear h1 h2 hg3 k1 k2 hg4 p1 p3 hg
        go_wp2_with fail
        refine (unhide HX).mono ?_
        rintro e w5 ⟨he, rfl⟩
        obtain ⟨p1, p3, hg⟩ := unhide HP
        rcases he with rfl | rfl
        · go_wp2
          go_ret2
          rw [unhide Hq]
          exact ⟨u, true, rfl, fun _ => ⟨.inl p1, p2⟩, fun h => (by cases h), hg⟩
        · go_wp2
          go_ret2
          rw [unhide Hq]
          exact ⟨u2, true, rfl, fun _ => ⟨.inr p3, p4⟩, fun h => (by cases h), hg⟩
      | false =>
        obtain ⟨rfl, k3⟩ := k2 rfl
        obtain ⟨p1, p2⟩ := h1 rfl
        have hz : ¬ 9223372036854775807 < (txt u).size + (txt []).size := by rw [txt_size, txt_size]; simp; omega
        have HP := hide (And.intro p1 hg)
        clear h1 h2 hg3 k1 k2 hg4 p1 hg k3
        go_wp2_with fail
        go_ret2
        rw [unhide Hq]
        exact ⟨u, true, by rw [show txt u ++ txt [] = txt u from txt_app_nil u]; try rfl, fun _ => ⟨.inl (unhide HP).1, p2⟩, fun h => (by cases h), (unhide HP).2⟩
    | false =>
      obtain ⟨rfl, h3⟩ := h2 rfl
      cases f2 with
      | true =>
        obtain ⟨p1, p2⟩ := k1 rfl
        have hz : ¬ 9223372036854775807 < (txt []).size + (txt u2).size := by rw [txt_size, txt_size]; simp; omega
        have HP := hide (And.intro p1 hg)
        clear h1 h2 hg3 k1 k2 hg4 p1 hg h3
        go_wp2_with fail
        go_ret2
        rw [unhide Hq]
        exact ⟨u2, true, by rw [show txt [] ++ txt u2 = txt u2 from txt_nil_app u2]; try rfl, fun _ => ⟨.inr (unhide HP).1, p2⟩, fun h => (by cases h), (unhide HP).2⟩
      | false =>
        obtain ⟨rfl, k3⟩ := k2 rfl
        have hz : ¬ 9223372036854775807 < (txt []).size + (txt []).size := by rw [txt_size]; simp
        have HP := hide (And.intro h3 (And.intro k3 hg))
        clear h1 h2 hg3 k1 k2 hg4 hg h3 k3
        go_wp2_with fail
        go_ret2
        rw [unhide Hq]
        exact ⟨[], false, by rw [show txt [] ++ txt [] = txt [] from txt_nil_app []]; try rfl, fun h => (by cases h), fun _ => ⟨rfl, fun s hs => hs.elim ((unhide HP).1 s) ((unhide HP).2.1 s)⟩, (unhide HP).2.2⟩

end Go.Proofs.YtlljggefbngkeaaGreatDoor

namespace Go.Proofs.YtlljggefbngkeaaGreatDoor
open Go.RowKit

/-- the places of a lens's joints -/
def placesOf : LT → List Nat
  | .swap at_ _ _ => [at_]
  | .many at_ _ => [at_]
  | .row _ ps => ps
  | .choice _ ps => ps
  | _ => []

theorem lr_joints {s : ByteArray} {w : World} {Y : Nat → Prop} {t : LT} {g : Nat} (h : LR s w Y t g) : ∃ jv, w.cell? ⟨g, 2, none⟩ = some jv ∧ w.ownsRow 0 3 1 jv (placesOf t).length (nums (placesOf t)) ∧ g < w.heap.size := by
  cases t with
  | same l i j => rw [LR] at h; obtain ⟨h0, p, h1, h2⟩ := h; exact ⟨_, by rw [cellOf h1 2]; rfl, World.ownsRow_nil _ _ _ _, heap_lt h1⟩
  | fixed l i j v d a => rw [LR] at h; obtain ⟨h0, p, h1, h2⟩ := h; exact ⟨_, by rw [cellOf h1 2]; rfl, World.ownsRow_nil _ _ _ _, heap_lt h1⟩
  | swap at_ a b => rw [LR] at h; obtain ⟨h0, v, jv, ga, gb, h1, h2, h3, h4, h5⟩ := h; exact ⟨_, by rw [cellOf h1 2]; rfl, h3.1, heap_lt h1⟩
  | group a => rw [LR] at h; obtain ⟨h0, v, ga, h1, h2, h4⟩ := h; exact ⟨_, by rw [cellOf h1 2]; rfl, World.ownsRow_nil _ _ _ _, heap_lt h1⟩
  | many at_ a => rw [LR] at h; obtain ⟨h0, v, jv, ga, h1, h2, h3, h4⟩ := h; exact ⟨_, by rw [cellOf h1 2]; rfl, h3.1, heap_lt h1⟩
  | row l ps => rw [LR] at h; obtain ⟨h0, v, jv, gs, h1, h2, h3, h4⟩ := h; exact ⟨_, by rw [cellOf h1 2]; rfl, h3.1, heap_lt h1⟩
  | choice l ps => rw [LR] at h; obtain ⟨h0, v, jv, gs, h1, h2, h3, h4⟩ := h; exact ⟨_, by rw [cellOf h1 2]; rfl, h3.1, heap_lt h1⟩

set_option maxRecDepth 100000 in
set_option maxHeartbeats 800000 in
/-- the place of a joint -/
theorem jat {s : ByteArray} {t : LT} {w : World} {Y : Nat → Prop} {g n p : Nat} (hL : LR s w Y t g) (hp : (placesOf t)[n]? = some p) :
    Calls Tryz.prog 66 #[jagg g n] w fun e w' => e = .returned (.int .i64 (p : Int)) ∧ w.grownBy w' none := by
  obtain ⟨jv, c2, hown, hgl⟩ := lr_joints hL
  have hn : n < (placesOf t).length := (List.getElem?_eq_some_iff.1 hp).1
  obtain ⟨vb, cap, rfl, _, hvl⟩ := hown.form (by omega)
  have hd : (n : Int) < ((placesOf t).length : Int) := by omega
  have d2 : ∀ o, (w.alloc o).cell? ⟨g, 2, none⟩ = some (.slice (some ⟨vb, 0, none⟩) (placesOf t).length cap) := fun o => by rw [World.cell?_alloc_past _ _ _ hgl]; exact c2
  have dk : ∀ o, (w.alloc o).cell? ⟨vb, n, none⟩ = some (.int .i64 (p : Int)) := fun o => by
    rw [World.cell?_alloc_past _ _ _ hvl, hown.cellAt n (by omega)]
    simp [nums, hp]
  have hmx := own_max hown
  clear hL c2 hown hp
  generalize (placesOf t).length = m at *
  unfold jagg
  go_enter Tryz.func66, Tryz.ntmps66
  go_wp2_with fail
  go_quiet (fail)
  go_wp2
  go_ret
  exact ⟨rfl, (World.grownBy_alloc w _ none).trans (grown_drewN' _ _ _)⟩

mutual
/-- the joints of a lens and of those within it: the lens, and the joint's number -/
def joints_ : LT → List (LT × Nat)
  | .same _ _ _ => []
  | .fixed _ _ _ _ _ _ => []
  | .swap at_ a b => (.swap at_ a b, 0) :: (joints_ a ++ joints_ b)
  | .group a => joints_ a
  | .many at_ a => joints_ a ++ [(.many at_ a, 0)]
  | .row l ps => jointsL (.row l ps) 0 l
  | .choice l ps => jointsL (.choice l ps) 0 l
/-- i: how many parts lie ahead -/
def jointsL (t : LT) (i : Nat) : List LT → List (LT × Nat)
  | [] => []
  | u :: l => (if i = 0 then [] else [(t, i - 1)]) ++ joints_ u ++ jointsL t (i + 1) l
end

end Go.Proofs.YtlljggefbngkeaaGreatDoor

namespace Go.Proofs.YtlljggefbngkeaaGreatDoor
open Go.RowKit Go.Shelf
attribute [local go_sem] Oper.semAt_some

def encJ (x : Nat × LT × Nat) : Array Value := #[jagg x.1 x.2.2]

/-- what walk answers: all joints have come; or a round has said that it is enough -/
def JWalkPost (w0 : World) (J Jx : List (Nat × LT × Nat) → World → Prop) (pre : List (Nat × LT × Nat)) (ss : List (LT × Nat)) (e : Ending) (W' : World) : Prop :=
  (∃ xs, e = .returned (.bool true) ∧ xs.map Prod.snd = ss ∧ J (pre ++ xs) W' ∧ Below w0.heap.size w0 W') ∨ (∃ q r, e = .returned (.bool false) ∧ q.map Prod.snd ++ r = ss ∧ Jx (pre ++ q) W')

def JWalkSaid (G : LT → Prop) (s : ByteArray) (w0 : World) (Y : Nat → Prop) (l : Nat) (J Jx : List (Nat × LT × Nat) → World → Prop) (t : LT) : Prop :=
  ∀ (n g : Nat) (pre : List (Nat × LT × Nat)) (W : World), LR s w0 Y t g → G t → Below w0.heap.size w0 W → J pre W →
    CallsIn Fence.wide n Tryz.prog 90 #[.pointer (some ⟨g, 0, none⟩), .func (.yield l) #[] #[]] W fun e W' => JWalkPost w0 J Jx pre (joints_ t) e W'

/-- a joint's number -/
def nbOf (t : LT) (n : Nat) : Prop := match t with | .many _ _ => n = 0 | t => n + 1 < (parts t).length
theorem nb_of {t : LT} {k : Nat} (h : k + 1 < (parts t).length) : nbOf t k := by
  cases t <;> first | exact h | (simp [parts] at h)
theorem nb_many {t : LT} (h : kindOf t = 4) : nbOf t 0 := by
  cases t <;> first | rfl | (simp [kindOf] at h)
theorem nb_swap {t : LT} (h : kindOf t = 2) : nbOf t 0 := by
  cases t <;> first | (simp [nbOf, parts]; done) | (simp [kindOf] at h)

def JYieldSaid (G : LT → Prop) (s : ByteArray) (w0 : World) (Y : Nat → Prop) (l : Nat) (J Jx : List (Nat × LT × Nat) → World → Prop) : Prop :=
  ∀ m pre x W, J pre W → LR s w0 Y x.2.1 x.1 ∧ G x.2.1 ∧ nbOf x.2.1 x.2.2 → YieldAt Fence.wide m Tryz.prog l (encJ x) W fun e W' =>
    (e = .returned (.bool true) ∧ J (pre ++ [x]) W' ∧ Below w0.heap.size W W') ∨ (e = .returned (.bool false) ∧ Jx (pre ++ [x]) W')

def jsep (t : LT) (i : Nat) : List (LT × Nat) := if i = 0 ∨ kindOf t = 2 then [] else [(t, i - 1)]
def jl (t : LT) : Nat → List LT → List (LT × Nat)
  | _, [] => []
  | i, u :: l => jsep t i ++ joints_ u ++ jl t (i + 1) l

theorem jl_snoc (t : LT) : ∀ (l : List LT) (i : Nat) (u : LT), jl t i (l ++ [u]) = jl t i l ++ (jsep t (i + l.length) ++ joints_ u)
  | [], i, u => by simp [jl]
  | x :: l, i, u => by
    rw [List.cons_append, jl, jl, jl_snoc t l (i + 1) u, List.length_cons, show i + 1 + l.length = i + (l.length + 1) by omega]
    simp only [List.append_assoc]

theorem jointsL_eq (t : LT) (h : kindOf t ≠ 2) : ∀ (l : List LT) (i : Nat), jointsL t i l = jl t i l
  | [], i => by rw [jointsL, jl]
  | u :: l, i => by
    rw [jointsL, jl, jointsL_eq t h l (i + 1)]
    unfold jsep
    by_cases hi : i = 0
    · rw [if_pos hi, if_pos (.inl hi)]
    · rw [if_neg hi, if_neg (fun e => e.elim hi h)]

def jhead (t : LT) : List (LT × Nat) := if kindOf t = 2 then [(t, 0)] else []
def jtail (t : LT) : List (LT × Nat) := if kindOf t = 4 then [(t, 0)] else []
theorem joints_eq (t : LT) : joints_ t = jhead t ++ jl t 0 (parts t) ++ jtail t := by
  cases t with
  | same l i j => simp [joints_, jhead, jtail, kindOf, parts, jl]
  | fixed l i j v d a => simp [joints_, jhead, jtail, kindOf, parts, jl]
  | swap at_ a b => simp [joints_, jhead, jtail, kindOf, parts, jl, jsep]
  | group a => simp [joints_, jhead, jtail, kindOf, parts, jl, jsep]
  | many at_ a => simp [joints_, jhead, jtail, kindOf, parts, jl, jsep]
  | row l ps => rw [joints_, jointsL_eq _ (by simp [kindOf])]; simp [jhead, jtail, kindOf, parts]
  | choice l ps => rw [joints_, jointsL_eq _ (by simp [kindOf])]; simp [jhead, jtail, kindOf, parts]

theorem jl_take (t : LT) (l : List LT) (k : Nat) : ∃ r, jl t 0 (l.take k) ++ r = jl t 0 l := by
  have key : ∀ (a b : List LT) (i : Nat), ∃ r, jl t i (a ++ b) = jl t i a ++ r := by
    intro a
    induction a with
    | nil => intro b i; exact ⟨_, by simp [jl]; rfl⟩
    | cons x a ih =>
      intro b i
      obtain ⟨r, hr⟩ := ih b (i + 1)
      exact ⟨r, by rw [List.cons_append, jl, jl, hr]; simp only [List.append_assoc]⟩
  obtain ⟨r, hr⟩ := key (l.take k) (l.drop k) 0
  rw [List.take_append_drop] at hr
  exact ⟨r, hr.symm⟩

end Go.Proofs.YtlljggefbngkeaaGreatDoor

namespace Go.Proofs.YtlljggefbngkeaaGreatDoor
open Go.RowKit Go.Shelf
attribute [local go_sem] Oper.semAt_some

set_option maxRecDepth 100000 in
set_option maxHeartbeats 3200000 in
theorem jwalk_not {G : LT → Prop} (hG : ∀ t u, G t → u ∈ parts t → G u) {s : ByteArray} {w0 : World} {Y : Nat → Prop} {l : Nat} {J Jx : List (Nat × LT × Nat) → World → Prop} (hY : JYieldSaid G s w0 Y l J Jx) (t : LT) (hk2 : kindOf t ≠ 2) (hp : ∀ u, u ∈ parts t → JWalkSaid G s w0 Y l J Jx u) : JWalkSaid G s w0 Y l J Jx t := by
  intro n g pre W hR hfl hB hJ
  obtain ⟨hng, pv, jv, pat, wr0, vw, df, a, gs, hb, hv, _, hT⟩ := lr_node hR
  have hmax := own_max hv
  obtain ⟨ao, cp, rfl⟩ := own_slice hv
  obtain ⟨hlen, hat⟩ := lrl_at hT
  have hgl := heap_lt hb
  have cK : ∀ A, Below w0.heap.size w0 A → A.cell? ⟨g, 0, none⟩ = some (.int .i64 (kindOf t)) := fun A hA => by rw [cellOf ((hA.block g hgl).trans hb) 0]; rfl
  have c0 := cK W hB
  have c1 : W.cell? ⟨g, 1, none⟩ = some (.slice ao gs.length cp) := by rw [cellOf ((hB.block g hgl).trans hb) 1]; rfl
  have hhd : jhead t = [] := by unfold jhead; rw [if_neg hk2]
  have H0 := hide (And.intro hv (And.intro hat (And.intro hp (And.intro hlen (And.intro hR (And.intro hfl (And.intro hhd (And.intro cK hY))))))))
  have HJ := hide (And.intro hJ hB)
  have b2 : (kindOf t == 2) = false := by simpa using hk2
  have b3 : (kindOf t != 2) = true := by simpa using hk2
  have Hn4 : Hid (kindOf t = 4 → nbOf t 0) := hide nb_many
  have Hjt : Hid (jtail t = if kindOf t = 4 then [(t, 0)] else []) := hide rfl
  have Hjs : Hid (∀ i, jsep t i = if i = 0 then [] else [(t, i - 1)]) := hide (fun i => by unfold jsep; by_cases h : i = 0 <;> simp [h, hk2])
  rw [joints_eq, hhd, List.nil_append]
  clear hv hat hp hlen hR hfl hJ hB hT hb hhd cK hY hk2
  generalize kindOf t = K at *
  refine callsIn_of_wp Tryz.func90 rfl trivial ?_ rfl
  simp only [Tryz.ntmps90, List.size_toArray, List.length_cons, List.length_nil, Nat.reduceAdd, Nat.reduceSub, Array.replicate_succ, Array.replicate_zero, List.push_toArray, List.append_toArray, List.nil_append, List.cons_append]
  gi_wp2_with fail
  refine ⟨fun f h => (by cases h), ?_⟩
  gi_wp2_with fail
  clear c0 c1
  gi_loopw [25] (fun iv wr => ∃ (k : Nat) (xs : List (Nat × LT × Nat)), iv = .int .i64 (k : Int) ∧ k ≤ gs.length ∧ xs.map Prod.snd = jl t 0 ((parts t).take k) ∧ J (pre ++ xs) wr ∧ Below w0.heap.size w0 wr) (fun iv _ => gs.length - (Lib.intOf iv).toNat)
  case atStart => exact ⟨0, [], rfl, Nat.zero_le _, by rw [List.take_zero, jl]; rfl, by rw [List.append_nil]; exact (unhide HJ).1, (unhide HJ).2⟩
  case round =>
    obtain ⟨k, xs, rfl, hk, hxs, hJk, hBk⟩ := hrel
    obtain ⟨hv, hat, hp, hlen, hR, hfl, hhd, cK, hY⟩ := unhide H0
    have c0 := cK wr hBk
    by_cases hlt : k < gs.length
    · have hd : (k : Int) < (gs.length : Int) := by omega
      obtain ⟨vb, cap, hveq, _, hvl⟩ := hv.form (by omega)
      injection hveq with hao _ hcp
      subst hao
      subst hcp
      obtain ⟨gu, hu2⟩ : ∃ gu, gs[k]? = some gu := ⟨_, List.getElem?_eq_getElem hlt⟩
      obtain ⟨u, hu1⟩ : ∃ u, (parts t)[k]? = some u := ⟨_, List.getElem?_eq_getElem (by omega)⟩
      have ck : wr.cell? ⟨vb, k, none⟩ = some (.pointer (some ⟨gu, 0, none⟩)) := by
        rw [World.cell?_of_block (w := w0) (w' := wr) (a := ⟨vb, k, none⟩) (hBk.block vb hvl), hv.cellAt k (by omega)]
        simp [ptrs, hu2]
      have htake : (parts t).take (k + 1) = (parts t).take k ++ [u] := by rw [List.take_add_one, hu1]; rfl
      have hjl : jl t 0 ((parts t).take (k + 1)) = jl t 0 ((parts t).take k) ++ (jsep t k ++ joints_ u) := by
        rw [htake, jl_snoc, List.length_take, Nat.min_eq_left (by omega), Nat.zero_add]
      have hum := List.mem_of_getElem? hu1
      have HWk := hide (fun (A : World) (ys : List (Nat × LT × Nat)) (hj : J (pre ++ ys) A) (hb : Below w0.heap.size w0 A) => hp u hum (n - 1) gu (pre ++ ys) A (hat k u gu hu1 hu2) (hG t u hfl hum) hb hj)
      have HI := hide (And.intro hxs (And.intro hJk (And.intro hBk hjl)))
      cases k with
      | zero =>
        have HW := hide (unhide HWk wr xs hJk hBk)
        clear hv hat hp hlen hR hfl hhd cK hY hxs hJk hBk hjl htake hu1 hu2 hum HWk
        gi_wp2_with fail
        refine ⟨fun f h => (by cases h), ?_⟩
        gi_wp2_with fail
        refine ⟨trivial, depth_any, ?_⟩
        refine (unhide HW).mono ?_
        rintro e W3 (⟨ys, rfl, hys, hJ3, hB3⟩ | ⟨q, r, rfl, hq, hx3⟩)
        · gi_wp2_with fail
          go_roundw
          case rel =>
            obtain ⟨hxs, hJk, hBk, hjl⟩ := unhide HI
            refine ⟨0 + 1, xs ++ ys, by simp, by omega, ?_, by rw [← List.append_assoc]; exact hJ3, hB3⟩
            rw [hjl, unhide Hjs, List.map_append, hxs, hys]
            rfl
          case measure => simp [Lib.intOf]; omega
        · gi_wp2
          go_ret
          obtain ⟨hxs, hJk, hBk, hjl⟩ := unhide HI
          obtain ⟨r2, hr2⟩ := jl_take t (parts t) (0 + 1)
          refine .inr ⟨xs ++ q, r ++ (r2 ++ jtail t), rfl, ?_, by rw [← List.append_assoc]; exact hx3⟩
          rw [← hr2, hjl, unhide Hjs, ← hq, List.map_append, hxs]
          simp only [List.append_assoc, if_true, List.nil_append]
      | succ k =>
        obtain ⟨fn, tmps, assign, body, hy, hRd⟩ := hY (n - 1) (pre ++ xs) (g, t, k) wr hJk ⟨hR, hfl, nb_of (show k + 1 < (parts t).length by omega)⟩
        dsimp only [encJ, jagg] at hy
        have HRd := hide hRd
        have hpos : (0 : Int) < ((k + 1 : Nat) : Int) := by omega
        clear hv hat hp hlen hR hfl hhd cK hY hxs hJk hBk hjl htake hu1 hu2 hum hRd
        gi_wp2_with fail
        refine ⟨depth_any, ?_⟩
        refine (unhide HRd).mono ?_
        rintro e W3 (⟨rfl, hJ3, hb3⟩ | ⟨rfl, hx3⟩)
        · have hB3 := (unhide HI).2.2.1.trans hb3
          have HW := hide (unhide HWk W3 (xs ++ [(g, t, k)]) (by rw [← List.append_assoc]; exact hJ3) hB3)
          clear HWk hJ3 hb3 hB3
          gi_wp2_with fail
          refine ⟨trivial, depth_any, ?_⟩
          refine (unhide HW).mono ?_
          rintro e W4 (⟨ys, rfl, hys, hJ4, hB4⟩ | ⟨q, r, rfl, hq, hx4⟩)
          · gi_wp2_with fail
            go_roundw
            case rel =>
              obtain ⟨hxs, hJk, hBk, hjl⟩ := unhide HI
              refine ⟨k + 1 + 1, xs ++ [(g, t, k)] ++ ys, by simp, by omega, ?_, by rw [← List.append_assoc]; exact hJ4, hB4⟩
              rw [hjl, unhide Hjs, if_neg (by omega), List.map_append, List.map_append, hxs, hys]
              simp
            case measure => simp [Lib.intOf]; omega
          · gi_wp2
            go_ret
            obtain ⟨hxs, hJk, hBk, hjl⟩ := unhide HI
            obtain ⟨r2, hr2⟩ := jl_take t (parts t) (k + 1 + 1)
            refine .inr ⟨xs ++ [(g, t, k)] ++ q, r ++ (r2 ++ jtail t), rfl, ?_, by rw [← List.append_assoc]; exact hx4⟩
            rw [← hr2, hjl, unhide Hjs, if_neg (by omega), ← hq, List.map_append, List.map_append, hxs]
            simp [List.append_assoc]
        · gi_wp2
          refine ⟨trivial, ?_⟩
          gi_wp2
          go_ret
          obtain ⟨hxs, hJk, hBk, hjl⟩ := unhide HI
          obtain ⟨r2, hr2⟩ := jl_take t (parts t) (k + 1 + 1)
          refine .inr ⟨xs ++ [(g, t, k)], joints_ u ++ (r2 ++ jtail t), rfl, ?_, by rw [← List.append_assoc]; exact hx3⟩
          rw [← hr2, hjl, unhide Hjs, if_neg (by omega), List.map_append, hxs]
          simp [List.append_assoc]
    · have hd : decide ((k : Int) < (gs.length : Int)) = false := by simp; omega
      have hke : (parts t).take k = parts t := List.take_of_length_le (by omega)
      rw [hke] at hxs
      by_cases h4 : K = 4
      · obtain ⟨fn, tmps, assign, body, hy, hRd⟩ := hY (n - 1) (pre ++ xs) (g, t, 0) wr hJk ⟨hR, hfl, unhide Hn4 h4⟩
        dsimp only [encJ, jagg] at hy
        rw [show ((0 : Nat) : Int) = 0 from rfl] at hy
        have HRd := hide hRd
        have b4 : (K != 4) = false := by simpa using h4
        have HI := hide (And.intro hxs (And.intro hJk hBk))
        clear hv hat hp hlen hR hfl hhd cK hY hxs hJk hBk hke hRd
        gi_wp2_with fail
        refine ⟨depth_any, ?_⟩
        refine (unhide HRd).mono ?_
        rintro e W3 (⟨rfl, hJ3, hb3⟩ | ⟨rfl, hx3⟩)
        · have H3 := hide (And.intro hJ3 hb3)
          clear hJ3 hb3
          gi_wp2
          go_ret
          obtain ⟨hxs, hJk, hBk⟩ := unhide HI
          exact .inl ⟨xs ++ [(g, t, 0)], rfl, by rw [List.map_append, hxs, unhide Hjt, if_pos h4]; rfl, by rw [← List.append_assoc]; exact (unhide H3).1, hBk.trans (unhide H3).2⟩
        · gi_wp2
          go_ret
          obtain ⟨hxs, hJk, hBk⟩ := unhide HI
          exact .inr ⟨xs ++ [(g, t, 0)], [], rfl, by rw [List.map_append, hxs, unhide Hjt, if_pos h4, List.append_nil]; rfl, by rw [← List.append_assoc]; exact hx3⟩
      · have b4 : (K != 4) = true := by simpa using h4
        have HI := hide (And.intro hxs (And.intro hJk hBk))
        clear hv hat hp hlen hR hfl hhd cK hY hxs hJk hBk hke
        gi_wp2_with fail
        refine ⟨fun f h => (by cases h), ?_⟩
        gi_wp2
        go_ret
        obtain ⟨hxs, hJk, hBk⟩ := unhide HI
        exact .inl ⟨xs, rfl, by rw [hxs, unhide Hjt, if_neg h4, List.append_nil], hJk, hBk⟩

end Go.Proofs.YtlljggefbngkeaaGreatDoor

namespace Go.Proofs.YtlljggefbngkeaaGreatDoor
open Go.RowKit Go.Shelf
attribute [local go_sem] Oper.semAt_some

set_option maxRecDepth 100000 in
set_option maxHeartbeats 3200000 in
theorem jwalk_swap {G : LT → Prop} (hG : ∀ t u, G t → u ∈ parts t → G u) {s : ByteArray} {w0 : World} {Y : Nat → Prop} {l : Nat} {J Jx : List (Nat × LT × Nat) → World → Prop} (hY : JYieldSaid G s w0 Y l J Jx) (t : LT) (hk2 : kindOf t = 2) (hp : ∀ u, u ∈ parts t → JWalkSaid G s w0 Y l J Jx u) : JWalkSaid G s w0 Y l J Jx t := by
  intro n g pre W hR hfl hB hJ
  obtain ⟨hng, pv, jv, pat, wr0, vw, df, a, gs, hb, hv, _, hT⟩ := lr_node hR
  have hmax := own_max hv
  obtain ⟨ao, cp, rfl⟩ := own_slice hv
  obtain ⟨hlen, hat⟩ := lrl_at hT
  have hgl := heap_lt hb
  rw [hk2] at hb
  have cK : ∀ A, Below w0.heap.size w0 A → A.cell? ⟨g, 0, none⟩ = some (.int .i64 2) := fun A hA => by rw [cellOf ((hA.block g hgl).trans hb) 0]; rfl
  have cP : ∀ A, Below w0.heap.size w0 A → A.cell? ⟨g, 1, none⟩ = some (.slice ao gs.length cp) := fun A hA => by rw [cellOf ((hA.block g hgl).trans hb) 1]; rfl
  have c0 := cK W hB
  have hhd : jhead t = [(t, 0)] := by unfold jhead; rw [if_pos hk2]
  have htl : jtail t = [] := by unfold jtail; rw [if_neg (by omega)]
  obtain ⟨fn, tmps, assign, body, hy, hRd⟩ := hY (n - 1) pre (g, t, 0) W hJ ⟨hR, hfl, nb_swap hk2⟩
  dsimp only [encJ, jagg] at hy
  rw [show ((0 : Nat) : Int) = 0 from rfl] at hy
  have HRd := hide hRd
  have H0 := hide (And.intro hv (And.intro hat (And.intro hp (And.intro hlen (And.intro hR (And.intro hfl (And.intro cP (And.intro cK hB))))))))
  have Hjs : Hid (∀ i, jsep t i = []) := hide (fun i => by unfold jsep; rw [if_pos (.inr hk2)])
  rw [joints_eq, hhd, htl, List.append_nil]
  clear hv hat hp hlen hR hfl hJ hB hT hb hhd htl cK cP hY hk2 hRd
  refine callsIn_of_wp Tryz.func90 rfl trivial ?_ rfl
  simp only [Tryz.ntmps90, List.size_toArray, List.length_cons, List.length_nil, Nat.reduceAdd, Nat.reduceSub, Array.replicate_succ, Array.replicate_zero, List.push_toArray, List.append_toArray, List.nil_append, List.cons_append]
  gi_wp2_with fail
  refine ⟨depth_any, ?_⟩
  refine (unhide HRd).mono ?_
  rintro e W1 (⟨rfl, hJ1, hb1⟩ | ⟨rfl, hx1⟩)
  · have hB1 := (unhide H0).2.2.2.2.2.2.2.2.trans hb1
    have c1 := (unhide H0).2.2.2.2.2.2.1 W1 hB1
    have HJ := hide (And.intro hJ1 hB1)
    clear hJ1 hb1 hB1 c0 hy
    gi_wp2_with fail
    clear c1
    gi_loopw [25] (fun iv wr => ∃ (k : Nat) (xs : List (Nat × LT × Nat)), iv = .int .i64 (k : Int) ∧ k ≤ gs.length ∧ xs.map Prod.snd = (t, 0) :: jl t 0 ((parts t).take k) ∧ J (pre ++ xs) wr ∧ Below w0.heap.size w0 wr) (fun iv _ => gs.length - (Lib.intOf iv).toNat)
    case atStart => exact ⟨0, [(g, t, 0)], rfl, Nat.zero_le _, by rw [List.take_zero, jl]; rfl, (unhide HJ).1, (unhide HJ).2⟩
    case round =>
      obtain ⟨k, xs, rfl, hk, hxs, hJk, hBk⟩ := hrel
      obtain ⟨hv, hat, hp, hlen, hR, hfl, cP, cK, _⟩ := unhide H0
      have c0 := cK wr hBk
      by_cases hlt : k < gs.length
      · have hd : (k : Int) < (gs.length : Int) := by omega
        obtain ⟨vb, cap, hveq, _, hvl⟩ := hv.form (by omega)
        injection hveq with hao _ hcp
        subst hao
        subst hcp
        obtain ⟨gu, hu2⟩ : ∃ gu, gs[k]? = some gu := ⟨_, List.getElem?_eq_getElem hlt⟩
        obtain ⟨u, hu1⟩ : ∃ u, (parts t)[k]? = some u := ⟨_, List.getElem?_eq_getElem (by omega)⟩
        have ck : wr.cell? ⟨vb, k, none⟩ = some (.pointer (some ⟨gu, 0, none⟩)) := by
          rw [World.cell?_of_block (w := w0) (w' := wr) (a := ⟨vb, k, none⟩) (hBk.block vb hvl), hv.cellAt k (by omega)]
          simp [ptrs, hu2]
        have hjl : jl t 0 ((parts t).take (k + 1)) = jl t 0 ((parts t).take k) ++ joints_ u := by
          have htake : (parts t).take (k + 1) = (parts t).take k ++ [u] := by rw [List.take_add_one, hu1]; rfl
          rw [htake, jl_snoc, unhide Hjs, List.nil_append]
        have hum := List.mem_of_getElem? hu1
        have HW := hide (hp u hum (n - 1) gu (pre ++ xs) wr (hat k u gu hu1 hu2) (hG t u hfl hum) hBk hJk)
        have HI := hide (And.intro hxs hjl)
        have hkk : 0 < k ∨ k = 0 := by omega
        clear hv hat hp hlen hR hfl cK cP hxs hJk hBk hjl hu1 hu2 hum
        rcases hkk with hkk | rfl
        · have hpos : (0 : Int) < (k : Int) := by omega
          gi_wp2_with fail
          refine ⟨fun f h => (by cases h), ?_⟩
          gi_wp2_with fail
          refine ⟨trivial, depth_any, ?_⟩
          refine (unhide HW).mono ?_
          rintro e W3 (⟨ys, rfl, hys, hJ3, hB3⟩ | ⟨q, r, rfl, hq, hx3⟩)
          · gi_wp2_with fail
            go_roundw
            case rel =>
              refine ⟨k + 1, xs ++ ys, by simp, by omega, ?_, by rw [← List.append_assoc]; exact hJ3, hB3⟩
              rw [(unhide HI).2, List.map_append, (unhide HI).1, hys]
              rfl
            case measure => simp [Lib.intOf]; omega
          · gi_wp2
            go_ret
            obtain ⟨r2, hr2⟩ := jl_take t (parts t) (k + 1)
            refine .inr ⟨xs ++ q, r ++ r2, rfl, ?_, by rw [← List.append_assoc]; exact hx3⟩
            rw [← hr2, (unhide HI).2, ← hq, List.map_append, (unhide HI).1]
            simp only [List.append_assoc, List.cons_append]
        · gi_wp2_with fail
          refine ⟨fun f h => (by cases h), ?_⟩
          gi_wp2_with fail
          refine ⟨trivial, depth_any, ?_⟩
          refine (unhide HW).mono ?_
          rintro e W3 (⟨ys, rfl, hys, hJ3, hB3⟩ | ⟨q, r, rfl, hq, hx3⟩)
          · gi_wp2_with fail
            go_roundw
            case rel =>
              refine ⟨0 + 1, xs ++ ys, by simp, by omega, ?_, by rw [← List.append_assoc]; exact hJ3, hB3⟩
              rw [(unhide HI).2, List.map_append, (unhide HI).1, hys]
              rfl
            case measure => simp [Lib.intOf]; omega
          · gi_wp2
            go_ret
            obtain ⟨r2, hr2⟩ := jl_take t (parts t) (0 + 1)
            refine .inr ⟨xs ++ q, r ++ r2, rfl, ?_, by rw [← List.append_assoc]; exact hx3⟩
            rw [← hr2, (unhide HI).2, ← hq, List.map_append, (unhide HI).1]
            simp only [List.append_assoc, List.cons_append]
      · have hd : decide ((k : Int) < (gs.length : Int)) = false := by simp; omega
        have hke : (parts t).take k = parts t := List.take_of_length_le (by omega)
        rw [hke] at hxs
        have HI := hide (And.intro hxs (And.intro hJk hBk))
        clear hv hat hp hlen hR hfl cK cP hxs hJk hBk hke
        gi_wp2_with fail
        refine ⟨fun f h => (by cases h), ?_⟩
        gi_wp2
        go_ret
        obtain ⟨hxs, hJk, hBk⟩ := unhide HI
        exact .inl ⟨xs, rfl, by rw [hxs], hJk, hBk⟩
  · gi_wp2
    go_ret
    exact .inr ⟨[(g, t, 0)], jl t 0 (parts t), rfl, rfl, hx1⟩

mutual
theorem jwalk {G : LT → Prop} (hG : ∀ t u, G t → u ∈ parts t → G u) {s : ByteArray} {w0 : World} {Y : Nat → Prop} {l : Nat} {J Jx : List (Nat × LT × Nat) → World → Prop} (hY : JYieldSaid G s w0 Y l J Jx) : ∀ t, JWalkSaid G s w0 Y l J Jx t
  | .same br i j => jwalk_not hG hY _ (by simp [kindOf]) (fun u hu => by simp [parts] at hu)
  | .fixed br i j v d a => jwalk_not hG hY _ (by simp [kindOf]) (fun u hu => by simp [parts] at hu)
  | .swap at_ a b => jwalk_swap hG hY _ rfl (fun u hu => by
    simp [parts] at hu
    rcases hu with h | h
    · rw [h]; exact jwalk hG hY a
    · rw [h]; exact jwalk hG hY b)
  | .group a => jwalk_not hG hY _ (by simp [kindOf]) (fun u hu => by
    simp [parts] at hu
    rw [hu]; exact jwalk hG hY a)
  | .many at_ a => jwalk_not hG hY _ (by simp [kindOf]) (fun u hu => by
    simp [parts] at hu
    rw [hu]; exact jwalk hG hY a)
  | .row ts ps => jwalk_not hG hY _ (by simp [kindOf]) (fun u hu => jwalkL hG hY ts u hu)
  | .choice ts ps => jwalk_not hG hY _ (by simp [kindOf]) (fun u hu => jwalkL hG hY ts u hu)
theorem jwalkL {G : LT → Prop} (hG : ∀ t u, G t → u ∈ parts t → G u) {s : ByteArray} {w0 : World} {Y : Nat → Prop} {l : Nat} {J Jx : List (Nat × LT × Nat) → World → Prop} (hY : JYieldSaid G s w0 Y l J Jx) : ∀ (ts : List LT) (t : LT), t ∈ ts → JWalkSaid G s w0 Y l J Jx t
  | [], t, h => absurd h (List.not_mem_nil)
  | u :: ts, t, h => by
    rcases List.mem_cons.1 h with h | h
    · rw [h]; exact jwalk hG hY u
    · exact jwalkL hG hY ts t h
end

end Go.Proofs.YtlljggefbngkeaaGreatDoor
