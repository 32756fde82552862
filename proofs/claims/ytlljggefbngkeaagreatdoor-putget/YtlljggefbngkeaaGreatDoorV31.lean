import Derived.Test.YtlljggefbngkeaaGreatDoorV30
import Derived.BigQuiet
namespace Go.Proofs.YtlljggefbngkeaaGreatDoor
open Go.RowKit

theorem txt_nil_app (u : List UInt8) : (⟨#[]⟩ : ByteArray) ++ txt u = txt u := by
  show ByteArray.empty ++ txt u = txt u
  simp
theorem txt_app_nil (u : List UInt8) : txt u ++ (⟨#[]⟩ : ByteArray) = txt u := by
  show txt u ++ ByteArray.empty = txt u
  simp

set_option maxRecDepth 100000 in
set_option maxHeartbeats 3200000 in
theorem jwitness {s : ByteArray} {t : LT} {w : World} {Y : Nat → Prop} {g n : Nat} (hL : LR s w Y t g) (hO : VOk t) (hY : ∀ k, Y k → k < w.heap.size) (hTab : Tab w) (hJ : JOk t n) :
    Calls Tryz.prog 65 #[jagg g n] w fun e w' => JPost2 w (JWit t n) e w' := by
  obtain ⟨hng, pv, jv, pat, wr0, vw, df, a, gs0, hb, _, _, _⟩ := lr_node hL
  have hgl := heap_lt hb
  have c0 : ∀ o, (w.alloc o).cell? ⟨g, 0, none⟩ = some (.int .i64 (kindOf t)) := fun o => by rw [World.cell?_alloc_past _ _ _ hgl, cellOf hb 0]; rfl
  have hL1 := LR.kept (w' := w.alloc (.cells #[.pointer (some ⟨g, 0, none⟩), .int .i64 (n : Int)] 109)) (fun k hk _ => Below.heap_alloc w _ k hk) hL
  have hY1 : ∀ k, Y k → k < (w.alloc (.cells #[.pointer (some ⟨g, 0, none⟩), .int .i64 (n : Int)] 109)).heap.size := fun k hk => by have := hY k hk; simp; omega
  have hT1 := hTab.grown (World.grownBy_alloc w (.cells #[.pointer (some ⟨g, 0, none⟩), .int .i64 (n : Int)] 109) none)
  by_cases h6 : kindOf t = 6
  · have hsh : JWit t n = (fun u => M (shA t n) u ∧ M (twB false t n) u) ∧ n + 1 < (parts t).length ∧ okRep (twB false t n) ∧ stSize (twB false t n) ≤ 1000 := by
      have h2 := hJ.ok false
      have h3 := hJ.nb
      cases t <;> first | exact ⟨rfl, h3, h2.2.1, h2.2.2.2⟩ | simp [kindOf] at h6
    obtain ⟨q1, q2, q3, q4⟩ := hsh
    have HS := hide (jshared hL1 hO hY1 q2 hT1 hJ.sh.1 q3 hJ.sh.2 q4)
    have Hq := hide q1
    rw [h6] at c0
    clear hL hO hTab hJ hb hL1 hY1 hT1 q1 q2 q3 q4
    unfold jagg at *
    go_enter Tryz.func65, Tryz.ntmps65
    go_wp2_with fail
    refine (unhide HS).mono ?_
    rintro e w3 ⟨u, f, rfl, h1, h2, hg3⟩
    have H3 := hide (And.intro h1 (And.intro h2 hg3))
    clear h1 h2 hg3 HS
    go_wp2
    go_ret2
    rw [unhide Hq]
    exact ⟨u, f, rfl, (unhide H3).1, (unhide H3).2.1, (World.grownBy_alloc w _ none).trans (unhide H3).2.2⟩
  · have hsh : JWit t n = (fun u => JW1 false t n u ∨ JW1 true t n u) := by
      cases t <;> first | rfl | exact absurd rfl h6
    have Hq := hide hsh
    have HS := hide (jtwice_any (v := false) hL1 hO hY1 hT1 hJ)
    have HE := hide (And.intro hL1 (And.intro hO (And.intro hT1 hJ)))
    clear hL hO hTab hJ hb hL1 hT1 hsh
    generalize kindOf t = K at *
    have e0 : sdV false = 0 := rfl
    rw [e0] at HS
    unfold jagg at *
    go_enter Tryz.func65, Tryz.ntmps65
    go_wp2_with fail
    refine (unhide HS).mono ?_
    rintro e w3 ⟨u, f, rfl, h1, h2, hg3⟩
    obtain ⟨hL1, hO, hT1, hJ⟩ := unhide HE
    have HV := hide (jtwice_any (v := true) (LR.kept (w' := w3) (fun k hk _ => hg3.block k hk (by simp)) hL1) hO (fun k hk => by have := hY1 k hk; have := hg3.size; omega) (hT1.grown hg3) hJ)
    have j0 : w3.cell? ⟨w.heap.size, 0, none⟩ = some (.pointer (some ⟨g, 0, none⟩)) := hg3.cell (by rw [cellOf (heap_alloc_new w _) 0]; rfl) (by simp)
    have j1 : w3.cell? ⟨w.heap.size, 1, none⟩ = some (.int .i64 (n : Int)) := hg3.cell (by rw [cellOf (heap_alloc_new w _) 1]; rfl) (by simp)
    have e1 : sdV true = 1 := rfl
    rw [e1] at HV
    unfold jagg at HV
    have H3 := hide (And.intro h1 (And.intro h2 hg3))
    clear h1 h2 hg3 HS hL1 hO hT1 hJ e1 e0
    go_wp2_with fail
    refine (unhide HV).mono ?_
    rintro e w4 ⟨u2, f2, rfl, k1, k2, hg4⟩
    have H4 := hide (And.intro k1 (And.intro k2 hg4))
    clear k1 k2 hg4 HV
    obtain ⟨h1, h2, hg3⟩ := unhide H3
    obtain ⟨k1, k2, hg4⟩ := unhide H4
    have hg := ((World.grownBy_alloc w (.cells #[.pointer (some ⟨g, 0, none⟩), .int .i64 (n : Int)] 109) none).trans hg3).trans hg4
    cases f with
    | true =>
      cases f2 with
      | true =>
        obtain ⟨p1, p2⟩ := h1 rfl
        obtain ⟨p3, p4⟩ := k1 rfl
        have HX := hide (shorter_ (txt u) (txt u2) w4)
        have HP := hide (And.intro p1 (And.intro p3 hg))
        clear h1 h2 hg3 k1 k2 hg4 p1 p3 hg
        go_wp2_with fail
        refine (unhide HX).mono ?_
        rintro e w5 ⟨he, rfl⟩
        obtain ⟨p1, p3, hg⟩ := unhide HP
        rcases he with rfl | rfl
        · go_wp2
          go_ret2
          rw [unhide Hq]
          exact ⟨u, true, rfl, fun _ => ⟨.inl p1, p2⟩, fun h => (by cases h), hg⟩
        · go_wp2
          go_ret2
          rw [unhide Hq]
          exact ⟨u2, true, rfl, fun _ => ⟨.inr p3, p4⟩, fun h => (by cases h), hg⟩
      | false =>
        obtain ⟨rfl, k3⟩ := k2 rfl
        obtain ⟨p1, p2⟩ := h1 rfl
        have hz : ¬ 9223372036854775807 < (txt u).size + (txt []).size := by rw [txt_size, txt_size]; simp; omega
        have HP := hide (And.intro p1 hg)
        clear h1 h2 hg3 k1 k2 hg4 p1 hg k3
        go_wp2_with fail
        go_ret2
        rw [unhide Hq]
        exact ⟨u, true, by rw [show txt u ++ txt [] = txt u from txt_app_nil u]; try rfl, fun _ => ⟨.inl (unhide HP).1, p2⟩, fun h => (by cases h), (unhide HP).2⟩
    | false =>
      obtain ⟨rfl, h3⟩ := h2 rfl
      cases f2 with
      | true =>
        obtain ⟨p1, p2⟩ := k1 rfl
        have hz : ¬ 9223372036854775807 < (txt []).size + (txt u2).size := by rw [txt_size, txt_size]; simp; omega
        have HP := hide (And.intro p1 hg)
        clear h1 h2 hg3 k1 k2 hg4 p1 hg h3
        go_wp2_with fail
        go_ret2
        rw [unhide Hq]
        exact ⟨u2, true, by rw [show txt [] ++ txt u2 = txt u2 from txt_nil_app u2]; try rfl, fun _ => ⟨.inr (unhide HP).1, p2⟩, fun h => (by cases h), (unhide HP).2⟩
      | false =>
        obtain ⟨rfl, k3⟩ := k2 rfl
        have hz : ¬ 9223372036854775807 < (txt []).size + (txt []).size := by rw [txt_size]; simp
        have HP := hide (And.intro h3 (And.intro k3 hg))
        clear h1 h2 hg3 k1 k2 hg4 hg h3 k3
        go_wp2_with fail
        go_ret2
        rw [unhide Hq]
        exact ⟨[], false, by rw [show txt [] ++ txt [] = txt [] from txt_nil_app []]; try rfl, fun h => (by cases h), fun _ => ⟨rfl, fun s hs => hs.elim ((unhide HP).1 s) ((unhide HP).2.1 s)⟩, (unhide HP).2.2⟩

end Go.Proofs.YtlljggefbngkeaaGreatDoor

namespace Go.Proofs.YtlljggefbngkeaaGreatDoor
open Go.RowKit

/-- the places of a lens's joints -/
def placesOf : LT → List Nat
  | .swap at_ _ _ => [at_]
  | .many at_ _ => [at_]
  | .row _ ps => ps
  | .choice _ ps => ps
  | _ => []

theorem lr_joints {s : ByteArray} {w : World} {Y : Nat → Prop} {t : LT} {g : Nat} (h : LR s w Y t g) : ∃ jv, w.cell? ⟨g, 2, none⟩ = some jv ∧ w.ownsRow 0 3 1 jv (placesOf t).length (nums (placesOf t)) ∧ g < w.heap.size := by
  cases t with
  | same l i j => rw [LR] at h; obtain ⟨h0, p, h1, h2⟩ := h; exact ⟨_, by rw [cellOf h1 2]; rfl, World.ownsRow_nil _ _ _ _, heap_lt h1⟩
  | fixed l i j v d a => rw [LR] at h; obtain ⟨h0, p, h1, h2⟩ := h; exact ⟨_, by rw [cellOf h1 2]; rfl, World.ownsRow_nil _ _ _ _, heap_lt h1⟩
  | swap at_ a b => rw [LR] at h; obtain ⟨h0, v, jv, ga, gb, h1, h2, h3, h4, h5⟩ := h; exact ⟨_, by rw [cellOf h1 2]; rfl, h3.1, heap_lt h1⟩
  | group a => rw [LR] at h; obtain ⟨h0, v, ga, h1, h2, h4⟩ := h; exact ⟨_, by rw [cellOf h1 2]; rfl, World.ownsRow_nil _ _ _ _, heap_lt h1⟩
  | many at_ a => rw [LR] at h; obtain ⟨h0, v, jv, ga, h1, h2, h3, h4⟩ := h; exact ⟨_, by rw [cellOf h1 2]; rfl, h3.1, heap_lt h1⟩
  | row l ps => rw [LR] at h; obtain ⟨h0, v, jv, gs, h1, h2, h3, h4⟩ := h; exact ⟨_, by rw [cellOf h1 2]; rfl, h3.1, heap_lt h1⟩
  | choice l ps => rw [LR] at h; obtain ⟨h0, v, jv, gs, h1, h2, h3, h4⟩ := h; exact ⟨_, by rw [cellOf h1 2]; rfl, h3.1, heap_lt h1⟩

set_option maxRecDepth 100000 in
set_option maxHeartbeats 800000 in
/-- the place of a joint -/
theorem jat {s : ByteArray} {t : LT} {w : World} {Y : Nat → Prop} {g n p : Nat} (hL : LR s w Y t g) (hp : (placesOf t)[n]? = some p) :
    Calls Tryz.prog 66 #[jagg g n] w fun e w' => e = .returned (.int .i64 (p : Int)) ∧ w.grownBy w' none := by
  obtain ⟨jv, c2, hown, hgl⟩ := lr_joints hL
  have hn : n < (placesOf t).length := (List.getElem?_eq_some_iff.1 hp).1
  obtain ⟨vb, cap, rfl, _, hvl⟩ := hown.form (by omega)
  have hd : (n : Int) < ((placesOf t).length : Int) := by omega
  have d2 : ∀ o, (w.alloc o).cell? ⟨g, 2, none⟩ = some (.slice (some ⟨vb, 0, none⟩) (placesOf t).length cap) := fun o => by rw [World.cell?_alloc_past _ _ _ hgl]; exact c2
  have dk : ∀ o, (w.alloc o).cell? ⟨vb, n, none⟩ = some (.int .i64 (p : Int)) := fun o => by
    rw [World.cell?_alloc_past _ _ _ hvl, hown.cellAt n (by omega)]
    simp [nums, hp]
  have hmx := own_max hown
  clear hL c2 hown hp
  generalize (placesOf t).length = m at *
  unfold jagg
  go_enter Tryz.func66, Tryz.ntmps66
  go_wp2_with fail
  go_quiet (fail)
  go_wp2
  go_ret
  exact ⟨rfl, (World.grownBy_alloc w _ none).trans (grown_drewN' _ _ _)⟩

mutual
/-- the joints of a lens and of those within it: the lens, and the joint's number -/
def joints_ : LT → List (LT × Nat)
  | .same _ _ _ => []
  | .fixed _ _ _ _ _ _ => []
  | .swap at_ a b => (.swap at_ a b, 0) :: (joints_ a ++ joints_ b)
  | .group a => joints_ a
  | .many at_ a => joints_ a ++ [(.many at_ a, 0)]
  | .row l ps => jointsL (.row l ps) 0 l
  | .choice l ps => jointsL (.choice l ps) 0 l
/-- i: how many parts lie ahead -/
def jointsL (t : LT) (i : Nat) : List LT → List (LT × Nat)
  | [] => []
  | u :: l => (if i = 0 then [] else [(t, i - 1)]) ++ joints_ u ++ jointsL t (i + 1) l
end

end Go.Proofs.YtlljggefbngkeaaGreatDoor

namespace Go.Proofs.YtlljggefbngkeaaGreatDoor
open Go.RowKit Go.Shelf
attribute [local go_sem] Oper.semAt_some

def encJ (x : Nat × LT × Nat) : Array Value := #[jagg x.1 x.2.2]

/-- what walk answers: all joints have come; or a round has said that it is enough -/
def JWalkPost (w0 : World) (J Jx : List (Nat × LT × Nat) → World → Prop) (pre : List (Nat × LT × Nat)) (ss : List (LT × Nat)) (e : Ending) (W' : World) : Prop :=
  (∃ xs, e = .returned (.bool true) ∧ xs.map Prod.snd = ss ∧ J (pre ++ xs) W' ∧ Below w0.heap.size w0 W') ∨ (∃ q r, e = .returned (.bool false) ∧ q.map Prod.snd ++ r = ss ∧ Jx (pre ++ q) W')

def JWalkSaid (G : LT → Prop) (s : ByteArray) (w0 : World) (Y : Nat → Prop) (l : Nat) (J Jx : List (Nat × LT × Nat) → World → Prop) (t : LT) : Prop :=
  ∀ (n g : Nat) (pre : List (Nat × LT × Nat)) (W : World), LR s w0 Y t g → G t → Below w0.heap.size w0 W → J pre W →
    CallsIn Fence.wide n Tryz.prog 90 #[.pointer (some ⟨g, 0, none⟩), .func (.yield l) #[] #[]] W fun e W' => JWalkPost w0 J Jx pre (joints_ t) e W'

/-- a joint's number -/
def nbOf (t : LT) (n : Nat) : Prop := match t with | .many _ _ => n = 0 | t => n + 1 < (parts t).length
theorem nb_of {t : LT} {k : Nat} (h : k + 1 < (parts t).length) : nbOf t k := by
  cases t <;> first | exact h | (simp [parts] at h)
theorem nb_many {t : LT} (h : kindOf t = 4) : nbOf t 0 := by
  cases t <;> first | rfl | (simp [kindOf] at h)
theorem nb_swap {t : LT} (h : kindOf t = 2) : nbOf t 0 := by
  cases t <;> first | (simp [nbOf, parts]; done) | (simp [kindOf] at h)

def JYieldSaid (G : LT → Prop) (s : ByteArray) (w0 : World) (Y : Nat → Prop) (l : Nat) (J Jx : List (Nat × LT × Nat) → World → Prop) : Prop :=
  ∀ m pre x W, J pre W → LR s w0 Y x.2.1 x.1 ∧ G x.2.1 ∧ nbOf x.2.1 x.2.2 → YieldAt Fence.wide m Tryz.prog l (encJ x) W fun e W' =>
    (e = .returned (.bool true) ∧ J (pre ++ [x]) W' ∧ Below w0.heap.size W W') ∨ (e = .returned (.bool false) ∧ Jx (pre ++ [x]) W')

def jsep (t : LT) (i : Nat) : List (LT × Nat) := if i = 0 ∨ kindOf t = 2 then [] else [(t, i - 1)]
def jl (t : LT) : Nat → List LT → List (LT × Nat)
  | _, [] => []
  | i, u :: l => jsep t i ++ joints_ u ++ jl t (i + 1) l

theorem jl_snoc (t : LT) : ∀ (l : List LT) (i : Nat) (u : LT), jl t i (l ++ [u]) = jl t i l ++ (jsep t (i + l.length) ++ joints_ u)
  | [], i, u => by simp [jl]
  | x :: l, i, u => by
    rw [List.cons_append, jl, jl, jl_snoc t l (i + 1) u, List.length_cons, show i + 1 + l.length = i + (l.length + 1) by omega]
    simp only [List.append_assoc]

theorem jointsL_eq (t : LT) (h : kindOf t ≠ 2) : ∀ (l : List LT) (i : Nat), jointsL t i l = jl t i l
  | [], i => by rw [jointsL, jl]
  | u :: l, i => by
    rw [jointsL, jl, jointsL_eq t h l (i + 1)]
    unfold jsep
    by_cases hi : i = 0
    · rw [if_pos hi, if_pos (.inl hi)]
    · rw [if_neg hi, if_neg (fun e => e.elim hi h)]

def jhead (t : LT) : List (LT × Nat) := if kindOf t = 2 then [(t, 0)] else []
def jtail (t : LT) : List (LT × Nat) := if kindOf t = 4 then [(t, 0)] else []
theorem joints_eq (t : LT) : joints_ t = jhead t ++ jl t 0 (parts t) ++ jtail t := by
  cases t with
  | same l i j => simp [joints_, jhead, jtail, kindOf, parts, jl]
  | fixed l i j v d a => simp [joints_, jhead, jtail, kindOf, parts, jl]
  | swap at_ a b => simp [joints_, jhead, jtail, kindOf, parts, jl, jsep]
  | group a => simp [joints_, jhead, jtail, kindOf, parts, jl, jsep]
  | many at_ a => simp [joints_, jhead, jtail, kindOf, parts, jl, jsep]
  | row l ps => rw [joints_, jointsL_eq _ (by simp [kindOf])]; simp [jhead, jtail, kindOf, parts]
  | choice l ps => rw [joints_, jointsL_eq _ (by simp [kindOf])]; simp [jhead, jtail, kindOf, parts]

theorem jl_take (t : LT) (l : List LT) (k : Nat) : ∃ r, jl t 0 (l.take k) ++ r = jl t 0 l := by
  have key : ∀ (a b : List LT) (i : Nat), ∃ r, jl t i (a ++ b) = jl t i a ++ r := by
    intro a
    induction a with
    | nil => intro b i; exact ⟨_, by simp [jl]; rfl⟩
    | cons x a ih =>
      intro b i
      obtain ⟨r, hr⟩ := ih b (i + 1)
      exact ⟨r, by rw [List.cons_append, jl, jl, hr]; simp only [List.append_assoc]⟩
  obtain ⟨r, hr⟩ := key (l.take k) (l.drop k) 0
  rw [List.take_append_drop] at hr
  exact ⟨r, hr.symm⟩

end Go.Proofs.YtlljggefbngkeaaGreatDoor

namespace Go.Proofs.YtlljggefbngkeaaGreatDoor
open Go.RowKit Go.Shelf
attribute [local go_sem] Oper.semAt_some

set_option maxRecDepth 100000 in
set_option maxHeartbeats 3200000 in
theorem jwalk_not {G : LT → Prop} (hG : ∀ t u, G t → u ∈ parts t → G u) {s : ByteArray} {w0 : World} {Y : Nat → Prop} {l : Nat} {J Jx : List (Nat × LT × Nat) → World → Prop} (hY : JYieldSaid G s w0 Y l J Jx) (t : LT) (hk2 : kindOf t ≠ 2) (hp : ∀ u, u ∈ parts t → JWalkSaid G s w0 Y l J Jx u) : JWalkSaid G s w0 Y l J Jx t := by
  intro n g pre W hR hfl hB hJ
  obtain ⟨hng, pv, jv, pat, wr0, vw, df, a, gs, hb, hv, _, hT⟩ := lr_node hR
  have hmax := own_max hv
  obtain ⟨ao, cp, rfl⟩ := own_slice hv
  obtain ⟨hlen, hat⟩ := lrl_at hT
  have hgl := heap_lt hb
  have cK : ∀ A, Below w0.heap.size w0 A → A.cell? ⟨g, 0, none⟩ = some (.int .i64 (kindOf t)) := fun A hA => by rw [cellOf ((hA.block g hgl).trans hb) 0]; rfl
  have c0 := cK W hB
  have c1 : W.cell? ⟨g, 1, none⟩ = some (.slice ao gs.length cp) := by rw [cellOf ((hB.block g hgl).trans hb) 1]; rfl
  have hhd : jhead t = [] := by unfold jhead; rw [if_neg hk2]
  have H0 := hide (And.intro hv (And.intro hat (And.intro hp (And.intro hlen (And.intro hR (And.intro hfl (And.intro hhd (And.intro cK hY))))))))
  have HJ := hide (And.intro hJ hB)
  have b2 : (kindOf t == 2) = false := by simpa using hk2
  have b3 : (kindOf t != 2) = true := by simpa using hk2
  have Hn4 : Hid (kindOf t = 4 → nbOf t 0) := hide nb_many
  have Hjt : Hid (jtail t = if kindOf t = 4 then [(t, 0)] else []) := hide rfl
  have Hjs : Hid (∀ i, jsep t i = if i = 0 then [] else [(t, i - 1)]) := hide (fun i => by unfold jsep; by_cases h : i = 0 <;> simp [h, hk2])
  rw [joints_eq, hhd, List.nil_append]
  clear hv hat hp hlen hR hfl hJ hB hT hb hhd cK hY hk2
  generalize kindOf t = K at *
  refine callsIn_of_wp Tryz.func90 rfl trivial ?_ rfl
  simp only [Tryz.ntmps90, List.size_toArray, List.length_cons, List.length_nil, Nat.reduceAdd, Nat.reduceSub, Array.replicate_succ, Array.replicate_zero, List.push_toArray, List.append_toArray, List.nil_append, List.cons_append]
  gi_wp2_with fail
  refine ⟨fun f h => (by cases h), ?_⟩
  gi_wp2_with fail
  clear c0 c1
  gi_loopw [25] (fun iv wr => ∃ (k : Nat) (xs : List (Nat × LT × Nat)), iv = .int .i64 (k : Int) ∧ k ≤ gs.length ∧ xs.map Prod.snd = jl t 0 ((parts t).take k) ∧ J (pre ++ xs) wr ∧ Below w0.heap.size w0 wr) (fun iv _ => gs.length - (Lib.intOf iv).toNat)
  case atStart => exact ⟨0, [], rfl, Nat.zero_le _, by rw [List.take_zero, jl]; rfl, by rw [List.append_nil]; exact (unhide HJ).1, (unhide HJ).2⟩
  case round =>
    obtain ⟨k, xs, rfl, hk, hxs, hJk, hBk⟩ := hrel
    obtain ⟨hv, hat, hp, hlen, hR, hfl, hhd, cK, hY⟩ := unhide H0
    have c0 := cK wr hBk
    by_cases hlt : k < gs.length
    · have hd : (k : Int) < (gs.length : Int) := by omega
      obtain ⟨vb, cap, hveq, _, hvl⟩ := hv.form (by omega)
      injection hveq with hao _ hcp
      subst hao
      subst hcp
      obtain ⟨gu, hu2⟩ : ∃ gu, gs[k]? = some gu := ⟨_, List.getElem?_eq_getElem hlt⟩
      obtain ⟨u, hu1⟩ : ∃ u, (parts t)[k]? = some u := ⟨_, List.getElem?_eq_getElem (by omega)⟩
      have ck : wr.cell? ⟨vb, k, none⟩ = some (.pointer (some ⟨gu, 0, none⟩)) := by
        rw [World.cell?_of_block (w := w0) (w' := wr) (a := ⟨vb, k, none⟩) (hBk.block vb hvl), hv.cellAt k (by omega)]
        simp [ptrs, hu2]
      have htake : (parts t).take (k + 1) = (parts t).take k ++ [u] := by rw [List.take_add_one, hu1]; rfl
      have hjl : jl t 0 ((parts t).take (k + 1)) = jl t 0 ((parts t).take k) ++ (jsep t k ++ joints_ u) := by
        rw [htake, jl_snoc, List.length_take, Nat.min_eq_left (by omega), Nat.zero_add]
      have hum := List.mem_of_getElem? hu1
      have HWk := hide (fun (A : World) (ys : List (Nat × LT × Nat)) (hj : J (pre ++ ys) A) (hb : Below w0.heap.size w0 A) => hp u hum (n - 1) gu (pre ++ ys) A (hat k u gu hu1 hu2) (hG t u hfl hum) hb hj)
      have HI := hide (And.intro hxs (And.intro hJk (And.intro hBk hjl)))
      cases k with
      | zero =>
        have HW := hide (unhide HWk wr xs hJk hBk)
        clear hv hat hp hlen hR hfl hhd cK hY hxs hJk hBk hjl htake hu1 hu2 hum HWk
        gi_wp2_with fail
        refine ⟨fun f h => (by cases h), ?_⟩
        gi_wp2_with fail
        refine ⟨trivial, depth_any, ?_⟩
        refine (unhide HW).mono ?_
        rintro e W3 (⟨ys, rfl, hys, hJ3, hB3⟩ | ⟨q, r, rfl, hq, hx3⟩)
        · gi_wp2_with fail
          go_roundw
          case rel =>
            obtain ⟨hxs, hJk, hBk, hjl⟩ := unhide HI
            refine ⟨0 + 1, xs ++ ys, by simp, by omega, ?_, by rw [← List.append_assoc]; exact hJ3, hB3⟩
            rw [hjl, unhide Hjs, List.map_append, hxs, hys]
            rfl
          case measure => simp [Lib.intOf]; omega
        · gi_wp2
          go_ret
          obtain ⟨hxs, hJk, hBk, hjl⟩ := unhide HI
          obtain ⟨r2, hr2⟩ := jl_take t (parts t) (0 + 1)
          refine .inr ⟨xs ++ q, r ++ (r2 ++ jtail t), rfl, ?_, by rw [← List.append_assoc]; exact hx3⟩
          rw [← hr2, hjl, unhide Hjs, ← hq, List.map_append, hxs]
          simp only [List.append_assoc, if_true, List.nil_append]
      | succ k =>
        obtain ⟨fn, tmps, assign, body, hy, hRd⟩ := hY (n - 1) (pre ++ xs) (g, t, k) wr hJk ⟨hR, hfl, nb_of (show k + 1 < (parts t).length by omega)⟩
        dsimp only [encJ, jagg] at hy
        have HRd := hide hRd
        have hpos : (0 : Int) < ((k + 1 : Nat) : Int) := by omega
        clear hv hat hp hlen hR hfl hhd cK hY hxs hJk hBk hjl htake hu1 hu2 hum hRd
        gi_wp2_with fail
        refine ⟨depth_any, ?_⟩
        refine (unhide HRd).mono ?_
        rintro e W3 (⟨rfl, hJ3, hb3⟩ | ⟨rfl, hx3⟩)
        · have hB3 := (unhide HI).2.2.1.trans hb3
          have HW := hide (unhide HWk W3 (xs ++ [(g, t, k)]) (by rw [← List.append_assoc]; exact hJ3) hB3)
          clear HWk hJ3 hb3 hB3
          gi_wp2_with fail
          refine ⟨trivial, depth_any, ?_⟩
          refine (unhide HW).mono ?_
          rintro e W4 (⟨ys, rfl, hys, hJ4, hB4⟩ | ⟨q, r, rfl, hq, hx4⟩)
          · gi_wp2_with fail
            go_roundw
            case rel =>
              obtain ⟨hxs, hJk, hBk, hjl⟩ := unhide HI
              refine ⟨k + 1 + 1, xs ++ [(g, t, k)] ++ ys, by simp, by omega, ?_, by rw [← List.append_assoc]; exact hJ4, hB4⟩
              rw [hjl, unhide Hjs, if_neg (by omega), List.map_append, List.map_append, hxs, hys]
              simp
            case measure => simp [Lib.intOf]; omega
          · gi_wp2
            go_ret
            obtain ⟨hxs, hJk, hBk, hjl⟩ := unhide HI
            obtain ⟨r2, hr2⟩ := jl_take t (parts t) (k + 1 + 1)
            refine .inr ⟨xs ++ [(g, t, k)] ++ q, r ++ (r2 ++ jtail t), rfl, ?_, by rw [← List.append_assoc]; exact hx4⟩
            rw [← hr2, hjl, unhide Hjs, if_neg (by omega), ← hq, List.map_append, List.map_append, hxs]
            simp [List.append_assoc]
        · gi_wp2
          refine ⟨trivial, ?_⟩
          gi_wp2
          go_ret
          obtain ⟨hxs, hJk, hBk, hjl⟩ := unhide HI
          obtain ⟨r2, hr2⟩ := jl_take t (parts t) (k + 1 + 1)
          refine .inr ⟨xs ++ [(g, t, k)], joints_ u ++ (r2 ++ jtail t), rfl, ?_, by rw [← List.append_assoc]; exact hx3⟩
          rw [← hr2, hjl, unhide Hjs, if_neg (by omega), List.map_append, hxs]
          simp [List.append_assoc]
    · have hd : decide ((k : Int) < (gs.length : Int)) = false := by simp; omega
      have hke : (parts t).take k = parts t := List.take_of_length_le (by omega)
      rw [hke] at hxs
      by_cases h4 : K = 4
      · obtain ⟨fn, tmps, assign, body, hy, hRd⟩ := hY (n - 1) (pre ++ xs) (g, t, 0) wr hJk ⟨hR, hfl, unhide Hn4 h4⟩
        dsimp only [encJ, jagg] at hy
        rw [show ((0 : Nat) : Int) = 0 from rfl] at hy
        have HRd := hide hRd
        have b4 : (K != 4) = false := by simpa using h4
        have HI := hide (And.intro hxs (And.intro hJk hBk))
        clear hv hat hp hlen hR hfl hhd cK hY hxs hJk hBk hke hRd
        gi_wp2_with fail
        refine ⟨depth_any, ?_⟩
        refine (unhide HRd).mono ?_
        rintro e W3 (⟨rfl, hJ3, hb3⟩ | ⟨rfl, hx3⟩)
        · have H3 := hide (And.intro hJ3 hb3)
          clear hJ3 hb3
          gi_wp2
          go_ret
          obtain ⟨hxs, hJk, hBk⟩ := unhide HI
          exact .inl ⟨xs ++ [(g, t, 0)], rfl, by rw [List.map_append, hxs, unhide Hjt, if_pos h4]; rfl, by rw [← List.append_assoc]; exact (unhide H3).1, hBk.trans (unhide H3).2⟩
        · gi_wp2
          go_ret
          obtain ⟨hxs, hJk, hBk⟩ := unhide HI
          exact .inr ⟨xs ++ [(g, t, 0)], [], rfl, by rw [List.map_append, hxs, unhide Hjt, if_pos h4, List.append_nil]; rfl, by rw [← List.append_assoc]; exact hx3⟩
      · have b4 : (K != 4) = true := by simpa using h4
        have HI := hide (And.intro hxs (And.intro hJk hBk))
        clear hv hat hp hlen hR hfl hhd cK hY hxs hJk hBk hke
        gi_wp2_with fail
        refine ⟨fun f h => (by cases h), ?_⟩
        gi_wp2
        go_ret
        obtain ⟨hxs, hJk, hBk⟩ := unhide HI
        exact .inl ⟨xs, rfl, by rw [hxs, unhide Hjt, if_neg h4, List.append_nil], hJk, hBk⟩

end Go.Proofs.YtlljggefbngkeaaGreatDoor

namespace Go.Proofs.YtlljggefbngkeaaGreatDoor
open Go.RowKit Go.Shelf
attribute [local go_sem] Oper.semAt_some

set_option maxRecDepth 100000 in
set_option maxHeartbeats 3200000 in
theorem jwalk_swap {G : LT → Prop} (hG : ∀ t u, G t → u ∈ parts t → G u) {s : ByteArray} {w0 : World} {Y : Nat → Prop} {l : Nat} {J Jx : List (Nat × LT × Nat) → World → Prop} (hY : JYieldSaid G s w0 Y l J Jx) (t : LT) (hk2 : kindOf t = 2) (hp : ∀ u, u ∈ parts t → JWalkSaid G s w0 Y l J Jx u) : JWalkSaid G s w0 Y l J Jx t := by
  intro n g pre W hR hfl hB hJ
  obtain ⟨hng, pv, jv, pat, wr0, vw, df, a, gs, hb, hv, _, hT⟩ := lr_node hR
  have hmax := own_max hv
  obtain ⟨ao, cp, rfl⟩ := own_slice hv
  obtain ⟨hlen, hat⟩ := lrl_at hT
  have hgl := heap_lt hb
  rw [hk2] at hb
  have cK : ∀ A, Below w0.heap.size w0 A → A.cell? ⟨g, 0, none⟩ = some (.int .i64 2) := fun A hA => by rw [cellOf ((hA.block g hgl).trans hb) 0]; rfl
  have cP : ∀ A, Below w0.heap.size w0 A → A.cell? ⟨g, 1, none⟩ = some (.slice ao gs.length cp) := fun A hA => by rw [cellOf ((hA.block g hgl).trans hb) 1]; rfl
  have c0 := cK W hB
  have hhd : jhead t = [(t, 0)] := by unfold jhead; rw [if_pos hk2]
  have htl : jtail t = [] := by unfold jtail; rw [if_neg (by omega)]
  obtain ⟨fn, tmps, assign, body, hy, hRd⟩ := hY (n - 1) pre (g, t, 0) W hJ ⟨hR, hfl, nb_swap hk2⟩
  dsimp only [encJ, jagg] at hy
  rw [show ((0 : Nat) : Int) = 0 from rfl] at hy
  have HRd := hide hRd
  have H0 := hide (And.intro hv (And.intro hat (And.intro hp (And.intro hlen (And.intro hR (And.intro hfl (And.intro cP (And.intro cK hB))))))))
  have Hjs : Hid (∀ i, jsep t i = []) := hide (fun i => by unfold jsep; rw [if_pos (.inr hk2)])
  rw [joints_eq, hhd, htl, List.append_nil]
  clear hv hat hp hlen hR hfl hJ hB hT hb hhd htl cK cP hY hk2 hRd
  refine callsIn_of_wp Tryz.func90 rfl trivial ?_ rfl
  simp only [Tryz.ntmps90, List.size_toArray, List.length_cons, List.length_nil, Nat.reduceAdd, Nat.reduceSub, Array.replicate_succ, Array.replicate_zero, List.push_toArray, List.append_toArray, List.nil_append, List.cons_append]
  gi_wp2_with fail
  refine ⟨depth_any, ?_⟩
  refine (unhide HRd).mono ?_
  rintro e W1 (⟨rfl, hJ1, hb1⟩ | ⟨rfl, hx1⟩)
  · have hB1 := (unhide H0).2.2.2.2.2.2.2.2.trans hb1
    have c1 := (unhide H0).2.2.2.2.2.2.1 W1 hB1
    have HJ := hide (And.intro hJ1 hB1)
    clear hJ1 hb1 hB1 c0 hy
    gi_wp2_with fail
    clear c1
    gi_loopw [25] (fun iv wr => ∃ (k : Nat) (xs : List (Nat × LT × Nat)), iv = .int .i64 (k : Int) ∧ k ≤ gs.length ∧ xs.map Prod.snd = (t, 0) :: jl t 0 ((parts t).take k) ∧ J (pre ++ xs) wr ∧ Below w0.heap.size w0 wr) (fun iv _ => gs.length - (Lib.intOf iv).toNat)
    case atStart => exact ⟨0, [(g, t, 0)], rfl, Nat.zero_le _, by rw [List.take_zero, jl]; rfl, (unhide HJ).1, (unhide HJ).2⟩
    case round =>
      obtain ⟨k, xs, rfl, hk, hxs, hJk, hBk⟩ := hrel
      obtain ⟨hv, hat, hp, hlen, hR, hfl, cP, cK, _⟩ := unhide H0
      have c0 := cK wr hBk
      by_cases hlt : k < gs.length
      · have hd : (k : Int) < (gs.length : Int) := by omega
        obtain ⟨vb, cap, hveq, _, hvl⟩ := hv.form (by omega)
        injection hveq with hao _ hcp
        subst hao
        subst hcp
        obtain ⟨gu, hu2⟩ : ∃ gu, gs[k]? = some gu := ⟨_, List.getElem?_eq_getElem hlt⟩
        obtain ⟨u, hu1⟩ : ∃ u, (parts t)[k]? = some u := ⟨_, List.getElem?_eq_getElem (by omega)⟩
        have ck : wr.cell? ⟨vb, k, none⟩ = some (.pointer (some ⟨gu, 0, none⟩)) := by
          rw [World.cell?_of_block (w := w0) (w' := wr) (a := ⟨vb, k, none⟩) (hBk.block vb hvl), hv.cellAt k (by omega)]
          simp [ptrs, hu2]
        have hjl : jl t 0 ((parts t).take (k + 1)) = jl t 0 ((parts t).take k) ++ joints_ u := by
          have htake : (parts t).take (k + 1) = (parts t).take k ++ [u] := by rw [List.take_add_one, hu1]; rfl
          rw [htake, jl_snoc, unhide Hjs, List.nil_append]
        have hum := List.mem_of_getElem? hu1
        have HW := hide (hp u hum (n - 1) gu (pre ++ xs) wr (hat k u gu hu1 hu2) (hG t u hfl hum) hBk hJk)
        have HI := hide (And.intro hxs hjl)
        have hkk : 0 < k ∨ k = 0 := by omega
        clear hv hat hp hlen hR hfl cK cP hxs hJk hBk hjl hu1 hu2 hum
        rcases hkk with hkk | rfl
        · have hpos : (0 : Int) < (k : Int) := by omega
          gi_wp2_with fail
          refine ⟨fun f h => (by cases h), ?_⟩
          gi_wp2_with fail
          refine ⟨trivial, depth_any, ?_⟩
          refine (unhide HW).mono ?_
          rintro e W3 (⟨ys, rfl, hys, hJ3, hB3⟩ | ⟨q, r, rfl, hq, hx3⟩)
          · gi_wp2_with fail
            go_roundw
            case rel =>
              refine ⟨k + 1, xs ++ ys, by simp, by omega, ?_, by rw [← List.append_assoc]; exact hJ3, hB3⟩
              rw [(unhide HI).2, List.map_append, (unhide HI).1, hys]
              rfl
            case measure => simp [Lib.intOf]; omega
          · gi_wp2
            go_ret
            obtain ⟨r2, hr2⟩ := jl_take t (parts t) (k + 1)
            refine .inr ⟨xs ++ q, r ++ r2, rfl, ?_, by rw [← List.append_assoc]; exact hx3⟩
            rw [← hr2, (unhide HI).2, ← hq, List.map_append, (unhide HI).1]
            simp only [List.append_assoc, List.cons_append]
        · gi_wp2_with fail
          refine ⟨fun f h => (by cases h), ?_⟩
          gi_wp2_with fail
          refine ⟨trivial, depth_any, ?_⟩
          refine (unhide HW).mono ?_
          rintro e W3 (⟨ys, rfl, hys, hJ3, hB3⟩ | ⟨q, r, rfl, hq, hx3⟩)
          · gi_wp2_with fail
            go_roundw
            case rel =>
              refine ⟨0 + 1, xs ++ ys, by simp, by omega, ?_, by rw [← List.append_assoc]; exact hJ3, hB3⟩
              rw [(unhide HI).2, List.map_append, (unhide HI).1, hys]
              rfl
            case measure => simp [Lib.intOf]; omega
          · gi_wp2
            go_ret
            obtain ⟨r2, hr2⟩ := jl_take t (parts t) (0 + 1)
            refine .inr ⟨xs ++ q, r ++ r2, rfl, ?_, by rw [← List.append_assoc]; exact hx3⟩
            rw [← hr2, (unhide HI).2, ← hq, List.map_append, (unhide HI).1]
            simp only [List.append_assoc, List.cons_append]
      · have hd : decide ((k : Int) < (gs.length : Int)) = false := by simp; omega
        have hke : (parts t).take k = parts t := List.take_of_length_le (by omega)
        rw [hke] at hxs
        have HI := hide (And.intro hxs (And.intro hJk hBk))
        clear hv hat hp hlen hR hfl cK cP hxs hJk hBk hke
        gi_wp2_with fail
        refine ⟨fun f h => (by cases h), ?_⟩
        gi_wp2
        go_ret
        obtain ⟨hxs, hJk, hBk⟩ := unhide HI
        exact .inl ⟨xs, rfl, by rw [hxs], hJk, hBk⟩
  · gi_wp2
    go_ret
    exact .inr ⟨[(g, t, 0)], jl t 0 (parts t), rfl, rfl, hx1⟩

mutual
theorem jwalk {G : LT → Prop} (hG : ∀ t u, G t → u ∈ parts t → G u) {s : ByteArray} {w0 : World} {Y : Nat → Prop} {l : Nat} {J Jx : List (Nat × LT × Nat) → World → Prop} (hY : JYieldSaid G s w0 Y l J Jx) : ∀ t, JWalkSaid G s w0 Y l J Jx t
  | .same br i j => jwalk_not hG hY _ (by simp [kindOf]) (fun u hu => by simp [parts] at hu)
  | .fixed br i j v d a => jwalk_not hG hY _ (by simp [kindOf]) (fun u hu => by simp [parts] at hu)
  | .swap at_ a b => jwalk_swap hG hY _ rfl (fun u hu => by
    simp [parts] at hu
    rcases hu with h | h
    · rw [h]; exact jwalk hG hY a
    · rw [h]; exact jwalk hG hY b)
  | .group a => jwalk_not hG hY _ (by simp [kindOf]) (fun u hu => by
    simp [parts] at hu
    rw [hu]; exact jwalk hG hY a)
  | .many at_ a => jwalk_not hG hY _ (by simp [kindOf]) (fun u hu => by
    simp [parts] at hu
    rw [hu]; exact jwalk hG hY a)
  | .row ts ps => jwalk_not hG hY _ (by simp [kindOf]) (fun u hu => jwalkL hG hY ts u hu)
  | .choice ts ps => jwalk_not hG hY _ (by simp [kindOf]) (fun u hu => jwalkL hG hY ts u hu)
theorem jwalkL {G : LT → Prop} (hG : ∀ t u, G t → u ∈ parts t → G u) {s : ByteArray} {w0 : World} {Y : Nat → Prop} {l : Nat} {J Jx : List (Nat × LT × Nat) → World → Prop} (hY : JYieldSaid G s w0 Y l J Jx) : ∀ (ts : List LT) (t : LT), t ∈ ts → JWalkSaid G s w0 Y l J Jx t
  | [], t, h => absurd h (List.not_mem_nil)
  | u :: ts, t, h => by
    rcases List.mem_cons.1 h with h | h
    · rw [h]; exact jwalk hG hY u
    · exact jwalkL hG hY ts t h
end

end Go.Proofs.YtlljggefbngkeaaGreatDoor

namespace Go.Proofs.YtlljggefbngkeaaGreatDoor
open Go.RowKit Go.Shelf
attribute [local go_sem] Oper.semAt_some

set_option maxRecDepth 100000 in
set_option maxHeartbeats 1600000 in
/-- joints(): the lens is boxed, the function value captures the box -/
theorem jjoints (n g : Nat) (w : World) : CallsIn Fence.wide n Tryz.prog 64 #[.pointer (some ⟨g, 0, none⟩)] w fun e w' =>
    e = .returned (.func (.func 89) #[] #[.pointer (some ⟨w.heap.size, 0, none⟩)]) ∧ w' = w.alloc (.cells #[.pointer (some ⟨g, 0, none⟩)] 54) := by
  refine callsIn_of_wp Tryz.func64 rfl trivial ?_ rfl
  simp only [Tryz.ntmps64, List.size_toArray, List.length_cons, List.length_nil, Nat.reduceAdd, Nat.reduceSub, Array.replicate_succ, Array.replicate_zero, List.push_toArray, List.append_toArray, List.nil_append, List.cons_append]
  gi_wp2
  go_ret
  exact ⟨rfl, rfl⟩

set_option maxRecDepth 100000 in
set_option maxHeartbeats 1600000 in
theorem joints_seq {G : LT → Prop} (hG : ∀ t u, G t → u ∈ parts t → G u) {s : ByteArray} {w0 w : World} {Y : Nat → Prop} {t : LT} {g Bl n : Nat} {fp : World → Nat → Prop} (hfp : ∀ A k, fp A k → w0.heap.size ≤ k) (hR : LR s w0 Y t g) (hfl : G t) (hB : Below w0.heap.size w0 w) (hc : w.heap[Bl]? = some (.cells #[.pointer (some ⟨g, 0, none⟩)] 54 (0, 0))) :
    SeqF Fence.wide n Tryz.prog 89 #[.pointer (some ⟨Bl, 0, none⟩)] encJ fp false (fun _ x => LR s w0 Y x.2.1 x.1 ∧ G x.2.1 ∧ nbOf x.2.1 x.2.2) (fun xs => xs.map Prod.snd = joints_ t) (fun pre => ∃ r, pre.map Prod.snd ++ r = joints_ t) w := by
  intro l J Jx W hW hJs hJx _ hY h0
  have hBW : Below w0.heap.size w0 W := ⟨hW.os.trans hB.os, hW.tape.trans hB.tape, hW.output.trans hB.output, Nat.le_trans hB.size hW.size, fun k hk => (hW.block k (Nat.lt_of_lt_of_le hk hB.size) (by simp)).trans (hB.block k hk)⟩
  have hcW := (hW.block Bl (heap_lt hc) (by simp)).trans hc
  have c0 := cellOf hcW 0
  simp at c0
  have HW := hide (jwalk hG (s := s) (w0 := w0) (Y := Y) (l := l) (J := fun pre A => J pre A ∧ w0.heap.size ≤ A.heap.size) (Jx := Jx) (fun m pre x A hj hx => YieldAt.anyD m (YieldAt.mono (hY pre x A hj.1 hx) (fun e A' h => h.imp (fun ⟨h1, h2, h3⟩ => ⟨h1, ⟨h2, Nat.le_trans hj.2 h3.size⟩, Below.of_kf h3 hj.2 (hfp A)⟩) id))) t (n - 1) g [] W hR hfl hBW ⟨h0, hBW.size⟩)
  clear hJs hJx hY h0 hW hR hB hc hcW
  refine callsIn_of_wp Tryz.func89 rfl trivial ?_ rfl
  simp only [Tryz.ntmps89, List.size_toArray, List.length_cons, List.length_nil, Nat.reduceAdd, Nat.reduceSub, Array.replicate_succ, Array.replicate_zero, List.push_toArray, List.append_toArray, List.nil_append, List.cons_append]
  gi_wp2_with fail
  refine ⟨trivial, depth_any, ?_⟩
  refine (unhide HW).mono ?_
  rintro e W1 (⟨xs, rfl, hx, hJ, _⟩ | ⟨q, r, rfl, hq, hx⟩)
  · gi_wp2
    go_end0
    exact ⟨⟨_, rfl⟩, .inl ⟨xs, hx, by simpa using hJ.1⟩⟩
  · gi_wp2
    go_end0
    exact ⟨⟨_, rfl⟩, .inr ⟨q, ⟨r, hq⟩, by simpa using hx⟩⟩

end Go.Proofs.YtlljggefbngkeaaGreatDoor

namespace Go.Proofs.YtlljggefbngkeaaGreatDoor
open Go.RowKit

/-! As P1's law: what a round is given is laid into memory of its own first. -/
variable {F : Fence} {n : Nat} {P : Program}

theorem wpIn_rangeG {α : Type} {g : Operand} {ps : Array Tmp} {assign body : Code} {Q : Exit → Act → World → Prop} {a : Act} {w : World}
    (hro : F.round = none) (h1 : 1 ≤ n) {gf : Nat} {lb : Array Value} (hg : a.eval g = .func (.func gf) #[] lb) (hFg : F.fn gf) (eg : ∀ args w, (callFunc gf args).run P w = .ok (.enter gf args) w)
    {encs : α → Array Value} {fp : World → Nat → Prop} {fresh : Bool} {Ok : List α → α → Prop} {S Sp : List α → Prop} (hseq : SeqF F (n - 1) P gf lb encs fp fresh Ok S Sp w) (hps : ∀ x, (encs x).size = ps.size)
    (I Ix : List α → World → Prop) (hI : ∀ pre A A', I pre A → Fz w.heap.size fp A A' → I pre A' ∧ ∀ k, fp A' k ↔ fp A k) (hIx : ∀ pre A A', Ix pre A → (∀ k, k < A.heap.size → (k < w.heap.size ∨ w.heap.size + 2 ≤ k) → A'.heap[k]? = A.heap[k]?) → A'.heap.size = A.heap.size → A'.os = A.os → A'.tape = A.tape → A'.output = A.output → Ix pre A')
    (hIy : ∀ pre A A', Ix pre A → Fz w.heap.size fp A A' → Ix pre A')
    (hfl : ∀ pre A k, I pre A → fp A k → k < w.heap.size ∨ w.heap.size + 2 ≤ k) (hf0 : fresh = true → ∀ pre A, I pre A → ∀ k, fp A k → k < A.heap.size)
    (h0 : I [] w) (a₁ : α → Nat → Act) (At : α → Nat → World → Prop) (hAt : ∀ x b A A', At x b A → (∀ (k : Nat) (c : Array Value) (t : TypeId) (f : Nat × Nat), A.heap[k]? = some (.cells c t f) → A'.heap[k]? = some (.cells c t f)) → At x b A')
    (hassign : ∀ (l : Nat) (x : α) (W : World) (K : Act → World → Prop), (∀ W', W.grownBy W' none → At x W.heap.size W' → K (a₁ x W.heap.size) W') →
      assign.wpIn (F.inRound l) (n - 1 - 1) P (Exit.then K (fun _ _ _ => False)) { tmps := (ps.zip (encs x)).foldl (fun t (p, v) => t.setIfInBounds p v) a.tmps, defers := [] } W)
    (hbody : ∀ (l : Nat) (pre : List α) (x : α) (b : Nat) (W : World), I pre W → Ok pre x → w.heap.size + 2 ≤ b → At x b W → body.wpIn (F.inRound l) (n - 1 - 1) P (ownPostF fp I Ix (pre ++ [x]) W) (a₁ x b) W)
    (hdone : ∀ (D : Nat) (xs : List α) (W : World), D = w.heap.size → S xs → I xs W → W.heap[D]? = some (.deferred (some [])) → Q .normal { a with defers := { target := .collected D, args := #[] } :: a.defers } W)
    (hstop : ∀ (D : Nat) (pre : List α) (W : World), D = w.heap.size → Sp pre → Ix pre W → W.heap[D]? = some (.deferred (some [])) → Code.ret.wpIn F n P Q { a with defers := { target := .collected D, args := #[] } :: a.defers } W) :
    (Code.rangeFunc g ps assign body).wpIn F n P Q a w := by
  refine wpIn_rangeFunc ?_
  intro fn hfn
  rw [hro]
  obtain ⟨rec, hrec⟩ : ∃ rec : LoopState → Option Code → Loop, rec = fun st pe => { state := st, pending := pe, fn, tmps := a.tmps, params := ps, assign, body, defers := w.heap.size } := ⟨_, rfl⟩
  obtain ⟨W1, hW1⟩ : ∃ W1, (w.alloc (.deferred (some []))).alloc (.loop (rec .ready none)) = W1 := ⟨_, rfl⟩
  have hL1 : W1.heap[w.heap.size + 1]? = some (.loop (rec .ready none)) := by
    rw [← hW1]; have := World.alloc_heap_new (w.alloc (.deferred (some []))) (.loop (rec .ready none)); rwa [World.size_alloc] at this
  have hK1 : W1.heap[w.heap.size]? = some (.deferred (some [])) := by
    rw [← hW1]; exact (Below.heap_alloc _ _ _ (by simp)).trans (World.alloc_heap_new w _)
  have hs1 : W1.heap.size = w.heap.size + 2 := by rw [← hW1]; simp
  have hg1 : w.grownBy W1 none := by rw [← hW1]; exact (World.grownBy_alloc w _ none).trans (World.grownBy_alloc _ _ _)
  have hz1 : Fz w.heap.size fp w W1 := Fz.of_grown hg1 (fun k e => by cases e)
  have hI1 := hI [] w W1 h0 hz1
  refine ⟨w.heap.size + 1, [{ target := .collected w.heap.size, args := #[] }], W1, { target := .fn (.func gf) lb, args := #[.func (.yield (w.heap.size + 1)) #[] #[]] }, W1, gf,
    #[.func (.yield (w.heap.size + 1)) #[] #[]] ++ lb, W1, ?_, ?_, ?_, ?_, fun _ => h1, ?_⟩
  · rw [← hW1, hrec]; exact run_enterLoop_outer _ _ _ _ _
  · simp only [resolve, hg]
    simp [go_sem]
  · intro f' hf'; simp [Target.leads] at hf'; subst hf'; exact hFg
  · simp [invoke, go_sem, eg]
  · refine (hseq (w.heap.size + 1)
      (fun pre W => I pre W ∧ W.heap[w.heap.size + 1]? = some (.loop (rec .ready none)) ∧ W.heap[w.heap.size]? = some (.deferred (some [])))
      (fun pre W => Ix pre W ∧ W.heap[w.heap.size + 1]? = some (.loop (rec .done (some .ret))) ∧ W.heap[w.heap.size]? = some (.deferred (some [])))
      W1 hg1
      (fun pre A A' hs hz => ?_) (fun pre A A' hs hz => ?_) (fun hfr pre A hs k hk => hf0 hfr pre A hs.1 k hk) ?_ ⟨hI1.1, hL1, hK1⟩).mono ?_
    · obtain ⟨q1, q2⟩ := hI pre A A' hs.1 (hz.mono (by omega))
      exact ⟨⟨q1, (hz.block _ (Array.getElem?_eq_some_iff.1 hs.2.1).1 (.inl (by omega))).trans hs.2.1, (hz.block _ (Array.getElem?_eq_some_iff.1 hs.2.2).1 (.inl (by omega))).trans hs.2.2⟩, q2⟩
    · exact ⟨hIy pre A A' hs.1 (hz.mono (by omega)), (hz.block _ (Array.getElem?_eq_some_iff.1 hs.2.1).1 (.inl (by omega))).trans hs.2.1, (hz.block _ (Array.getElem?_eq_some_iff.1 hs.2.2).1 (.inl (by omega))).trans hs.2.2⟩
    · -- one round
      rintro pre x W0 ⟨hi0, hl0, hk0⟩ hok
      have hy := run_yield (P := P) (args := encs x) hl0 (by rw [hrec]; exact hps x)
      rw [hrec] at hy
      refine ⟨fn, _, assign, body, hy, roundIn_of_wpIn hfn (hassign _ x W0 _ (fun W hgW hA => ?_))⟩
      obtain ⟨hi, hfW⟩ := hI pre _ _ hi0 (Fz.of_grown hgW (fun k e => by cases e))
      have hl := (hgW.block _ (Array.getElem?_eq_some_iff.1 hl0).1 (by simp)).trans hl0
      have hk := (hgW.block _ (Array.getElem?_eq_some_iff.1 hk0).1 (by simp)).trans hk0
      have hlt0 : w.heap.size + 1 < W0.heap.size := (Array.getElem?_eq_some_iff.1 hl0).1
      have hlt : w.heap.size + 1 < W.heap.size := (Array.getElem?_eq_some_iff.1 hl).1
      have hnl : ¬ fp W (w.heap.size + 1) := fun h => by have := hfl pre W _ hi h; omega
      have hnk : ¬ fp W w.heap.size := fun h => by have := hfl pre W _ hi h; omega
      refine ⟨_, run_beginRound hl (by rw [hrec]), ?_⟩
      have hl2 : (W.putObj (w.heap.size + 1) (.loop { rec .ready none with state := .busy })).heap[w.heap.size + 1]? = some (.loop { rec .ready none with state := .busy }) := World.putObj_heap_same hlt
      have hk2 : (W.putObj (w.heap.size + 1) (.loop { rec .ready none with state := .busy })).heap[w.heap.size]? = some (.deferred (some [])) := (World.putObj_heap_other (by omega)).trans hk
      have hg2 := grownBy_putObj' W (w.heap.size + 1) (.loop { rec .ready none with state := .busy })
      obtain ⟨hi2, hf2⟩ := hI pre _ _ hi (Fz.of_grown hg2 (fun k e => by cases e; exact ⟨by omega, hnl⟩))
      have hsz2 : (W.putObj (w.heap.size + 1) (.loop { rec .ready none with state := .busy })).heap.size = W.heap.size := by simp [World.putObj]
      have hA2 := hAt x _ _ (W.putObj (w.heap.size + 1) (.loop { rec .ready none with state := .busy })) hA (fun k c t f hc => by
        have hkne : k ≠ w.heap.size + 1 := fun e => by rw [e, hl] at hc; cases hc
        exact (World.putObj_heap_other hkne).trans hc)
      generalize W.putObj (w.heap.size + 1) (.loop { rec .ready none with state := .busy }) = W2 at *
      refine wpIn_mono (hbody _ pre x _ _ hi2 hok (by omega) hA2) ?_
      have fin : ∀ (jump : Option Code) (W3 : World), Kf fp W2 W3 →
          (Instr.endRound (w.heap.size + 1) jump).run P W3 = .ok (.bool jump.isNone) (W3.putObj (w.heap.size + 1) (.loop (rec (if jump.isNone then .ready else .done) jump))) ∧
          W3.heap[w.heap.size + 1]? = some (.loop { rec .ready none with state := .busy }) ∧
          (W3.putObj (w.heap.size + 1) (.loop (rec (if jump.isNone then .ready else .done) jump))).heap[w.heap.size + 1]? = some (.loop (rec (if jump.isNone then .ready else .done) jump)) ∧
          (W3.putObj (w.heap.size + 1) (.loop (rec (if jump.isNone then .ready else .done) jump))).heap[w.heap.size]? = some (.deferred (some [])) := fun jump W3 hk3 => by
        have hl3 := (hk3.block _ (by omega) (fun h => hnl ((hf2 _).1 h))).trans hl2
        have hd3 := (hk3.block _ (by omega) (fun h => hnk ((hf2 _).1 h))).trans hk2
        have := run_endRound (P := P) jump hl3
        rw [hrec] at this ⊢
        exact ⟨this, by rw [hrec] at hl3; exact hl3, World.putObj_heap_same (Array.getElem?_eq_some_iff.1 hl3).1, (World.putObj_heap_other (by omega)).trans hd3⟩
      rintro e a3 W3 hp
      cases e with
      | normal =>
        obtain ⟨hk3, hi3⟩ := hp
        obtain ⟨hr, hl3, hl4, hk4⟩ := fin none W3 hk3
        have hn3 : ¬ fp W3 (w.heap.size + 1) := fun h => by have := hfl _ W3 _ hi3 h; omega
        have hg4 := grownBy_putObj' W3 (w.heap.size + 1) (.loop (rec .ready none))
        obtain ⟨hi4, hf4⟩ := hI _ _ _ hi3 (Fz.of_grown hg4 (fun k e => by cases e; exact ⟨by omega, hn3⟩))
        refine ⟨_, _, hr, .inl ⟨rfl, ⟨hi4, hl4, hk4⟩, ?_⟩⟩
        refine ⟨(hg4.os.trans (hk3.os.trans hg2.os)).trans hgW.os, (hg4.tape.trans (hk3.tape.trans hg2.tape)).trans hgW.tape, (hg4.output.trans (hk3.output.trans hg2.output)).trans hgW.output, Nat.le_trans hgW.size (Nat.le_trans hg2.size (Nat.le_trans hk3.size hg4.size)), fun k hk' hnf => ?_, fun k hf => ?_⟩
        · by_cases e : k = w.heap.size + 1
          · subst e
            exact hl4.trans hl0.symm
          · have hsW := hgW.size
            exact ((hg4.block k (by have := hk3.size; omega) (by simpa using e)).trans ((hk3.block k (by omega) (fun h => hnf ((hfW k).1 ((hf2 k).1 h)))).trans (hg2.block k (by omega) (by simpa using e)))).trans (hgW.block k hk' (by simp))
        · rcases hk3.new k ((hf4 k).1 hf) with h | h
          · exact .inl ((hfW k).1 ((hf2 k).1 h))
          · exact .inr (by have := hgW.size; omega)
      | ret =>
        obtain ⟨hk3, hi3⟩ := hp
        obtain ⟨hr, hl3, hl4, hk4⟩ := fin (some .ret) W3 hk3
        refine ⟨_, _, hr, .inr ⟨rfl, hIx _ W3 _ hi3 (fun k _ hz => World.putObj_heap_other (by omega)) (by simp [World.putObj]) rfl rfl rfl, hl4, hk4⟩⟩
      | exit id => exact hp.elim
      | goto t => exact hp.elim
      | panic ch => exact hp.elim
      | outgrown => exact hp.elim
    · -- behind the iterator
      rintro e W2 ⟨⟨v, rfl⟩, (⟨xs, hS, hi, hl, hk⟩ | ⟨pre, hSp, hi, hl, hk⟩)⟩
      · have hn2 : ¬ fp W2 (w.heap.size + 1) := fun h => by have := hfl _ W2 _ hi h; omega
        exact ⟨none, _, by have := run_endLoop (P := P) hl (by rw [hrec]; simp); rw [hrec] at this; exact this, hdone _ xs _ rfl hS (hI _ _ _ hi (Fz.of_grown (grownBy_putObj' W2 (w.heap.size + 1) _) (fun k e => by cases e; exact ⟨by omega, hn2⟩))).1 ((World.putObj_heap_other (by omega)).trans hk)⟩
      · exact ⟨some .ret, _, by have := run_endLoop (P := P) hl (by rw [hrec]; simp); rw [hrec] at this; exact this, hstop _ pre _ rfl hSp (hIx _ W2 _ hi (fun k _ hz => World.putObj_heap_other (by omega)) (by simp [World.putObj]) rfl rfl rfl) ((World.putObj_heap_other (by omega)).trans hk)⟩


end Go.Proofs.YtlljggefbngkeaaGreatDoor

namespace Go.Proofs.YtlljggefbngkeaaGreatDoor
open Go.RowKit Go.Shelf
attribute [local go_sem] Oper.semAt_some

/-- what FirstWrong asks of a lens -/
def FG (t : LT) : Prop := VOk t ∧ ∀ u, u ∈ subs t → ∀ n, nbOf u n → JOk u n ∧ n < (placesOf u).length
theorem FG.part (t u : LT) (h : FG t) (hu : u ∈ parts t) : FG u := ⟨h.1.part hu, fun x hx => h.2 x (by rw [subs_eq]; exact List.mem_cons_of_mem _ (subsL_mem _ u x hu hx))⟩

def FwPost (w : World) (t : LT) (e : Ending) (w' : World) : Prop :=
  ((∃ t' n p u, (t', n) ∈ joints_ t ∧ (placesOf t')[n]? = some p ∧ JWit t' n u ∧ u.length ≤ 100000000 ∧ e = .returned (.tuple #[.int .i64 (p : Int), .string (txt u), .bool true])) ∨
   (e = .returned (.tuple #[.int .i64 0, .string ⟨#[]⟩, .bool false]) ∧ ∀ x, x ∈ joints_ t → ∀ u, ¬ JWit x.1 x.2 u)) ∧ w.grownBy w' none

def FwI (W : World) (pre : List (Nat × LT × Nat)) (A : World) : Prop := (∀ x, x ∈ pre → ∀ u, ¬ JWit x.2.1 x.2.2 u) ∧ A.heap[W.heap.size]? = some (.cells #[.int .i64 0] 3 (0, 0)) ∧ A.heap[W.heap.size + 1]? = some (.cells #[.string ⟨#[]⟩] 9 (0, 0)) ∧ A.heap[W.heap.size + 2]? = some (.cells #[.bool false] 4 (0, 0)) ∧ Below W.heap.size W A
def FwX (W : World) (pre : List (Nat × LT × Nat)) (A : World) : Prop := ∃ g t' n p u, (g, t', n) ∈ pre ∧ (placesOf t')[n]? = some p ∧ JWit t' n u ∧ u.length ≤ 100000000 ∧ A.heap[W.heap.size]? = some (.cells #[.int .i64 (p : Int)] 3 (0, 0)) ∧ A.heap[W.heap.size + 1]? = some (.cells #[.string (txt u)] 9 (0, 0)) ∧ A.heap[W.heap.size + 2]? = some (.cells #[.bool true] 4 (0, 0)) ∧ Below W.heap.size W A
def fpFw (W : World) (_ : World) (k : Nat) : Prop := k = W.heap.size ∨ k = W.heap.size + 1 ∨ k = W.heap.size + 2

theorem Tab.below {w A : World} (h : Tab w) (hB : Below w.heap.size w A) : Tab A := fun j hj => by
  have hh : A.heap[1]? = w.heap[1]? := hB.block _ h.lt
  rw [World.cell?_of_block (a := ⟨1, j, none⟩) hh]
  exact h j hj

/-- a joint in memory -/
def JAt (x : Nat × LT × Nat) (b : Nat) (A : World) : Prop := A.heap[b]? = some (.cells #[.pointer (some ⟨x.1, 0, none⟩), .int .i64 (x.2.2 : Int)] 109 (0, 0))

theorem below_fz {w A A' : World} {N : Nat} {fp : World → Nat → Prop} (h : Below w.heap.size w A) (hN : w.heap.size ≤ N) (hz : Fz N fp A A') : Below w.heap.size w A' :=
  ⟨hz.os.trans h.os, hz.tape.trans h.tape, hz.output.trans h.output, Nat.le_trans h.size hz.size, fun k hk => (hz.block k (Nat.lt_of_lt_of_le hk h.size) (.inl (by omega))).trans (h.block k hk)⟩

/-- three boxes, one behind the other, are written -/
theorem three_set {A : World} {N : Nat} {x1 x2 x3 : Value} {t1 t2 t3 : TypeId} (h1 : A.heap[N]? = some (.cells #[x1] t1 (0, 0))) (h2 : A.heap[N + 1]? = some (.cells #[x2] t2 (0, 0))) (h3 : A.heap[N + 2]? = some (.cells #[x3] t3 (0, 0))) (v1 v2 v3 : Value) :
    ∃ A3, ((A.setCell ⟨N, 0, none⟩ v1).setCell ⟨N + 1, 0, none⟩ v2).setCell ⟨N + 2, 0, none⟩ v3 = A3 ∧ A3.heap.size = A.heap.size ∧ A3.os = A.os ∧ A3.tape = A.tape ∧ A3.output = A.output ∧
      A3.heap[N]? = some (.cells #[v1] t1 (0, 0)) ∧ A3.heap[N + 1]? = some (.cells #[v2] t2 (0, 0)) ∧ A3.heap[N + 2]? = some (.cells #[v3] t3 (0, 0)) ∧ ∀ k, k ≠ N → k ≠ N + 1 → k ≠ N + 2 → A3.heap[k]? = A.heap[k]? := by
  refine ⟨_, rfl, by simp [World.setCell], rfl, rfl, rfl, ?_, ?_, ?_, fun k q1 q2 q3 => ?_⟩
  · have g := heap_set h1 0 v1
    exact (Below.heap_setCell _ _ _ _ (by simp)).trans ((Below.heap_setCell _ _ _ _ (by simp)).trans (by simpa using g))
  · have g := heap_set ((Below.heap_setCell A ⟨N, 0, none⟩ v1 (N + 1) (by simp)).trans h2) 0 v2
    exact (Below.heap_setCell _ _ _ _ (by simp)).trans (by simpa using g)
  · have g := heap_set ((Below.heap_setCell (A.setCell ⟨N, 0, none⟩ v1) ⟨N + 1, 0, none⟩ v2 (N + 2) (by simp)).trans ((Below.heap_setCell A ⟨N, 0, none⟩ v1 (N + 2) (by simp)).trans h3)) 0 v3
    simpa using g
  · exact (Below.heap_setCell _ _ _ _ q3).trans ((Below.heap_setCell _ _ _ _ q2).trans (Below.heap_setCell _ _ _ _ q1))

set_option maxRecDepth 100000 in
set_option maxHeartbeats 6400000 in
theorem firstWrong {s : ByteArray} {t : LT} {W : World} {Y : Nat → Prop} {g : Nat} (hR : LR s W Y t g) (hG : FG t) (hYl : ∀ k, Y k → k < W.heap.size) (hT : Tab W) :
    Calls Tryz.prog 46 #[.pointer (some ⟨g, 0, none⟩)] W fun e w' => FwPost W t e w' := by
  refine (callsIn_wide (n := 3)).1 ?_
  refine callsIn_of_wp_marks Tryz.func46 rfl trivial ?_ rfl
  simp only [Tryz.ntmps46, List.size_toArray, List.length_cons, List.length_nil, Nat.reduceAdd, Nat.reduceSub, Array.replicate_succ, Array.replicate_zero, List.push_toArray, List.append_toArray, List.nil_append, List.cons_append]
  gi_wp2_with fail
  refine ⟨trivial, (jjoints 2 g _).mono ?_⟩
  rintro e w' ⟨rfl, rfl⟩
  gi_wp2_with fail
  obtain ⟨w5, hw5, hs5, h51, h52, h53, h54, hg5⟩ := four_at W (.cells #[.int .i64 0] 3) (.cells #[.string ⟨#[]⟩] 9) (.cells #[.bool false] 4) (.cells #[.pointer (some ⟨g, 0, none⟩)] 54)
  rw [hw5]
  simp only [Nat.add_assoc, Nat.reduceAdd]
  have hB5 : Below W.heap.size W w5 := ⟨hg5.os, hg5.tape, hg5.output, hg5.size, fun k hk => hg5.block k hk (by simp)⟩
  clear hw5
  refine wpIn_rangeG (α := Nat × LT × Nat) rfl (by decide) (gf := 89) (lb := #[.pointer (some ⟨W.heap.size + 3, 0, none⟩)]) rfl trivial (enters_of Tryz.func89 (by kernel_rfl) rfl)
    (joints_seq (G := FG) FG.part (fp := fpFw W) (fun A k h => by rcases h with h | h | h <;> omega) hR hG hB5 h54) (fun _ => rfl)
    (FwI W) (FwX W)
    (fun pre A A' h hz => ⟨⟨h.1, (hz.block _ (heap_lt h.2.1) (.inr (.inl rfl))).trans h.2.1, (hz.block _ (heap_lt h.2.2.1) (.inr (.inr (.inl rfl)))).trans h.2.2.1, (hz.block _ (heap_lt h.2.2.2.1) (.inr (.inr (.inr rfl)))).trans h.2.2.2.1, below_fz h.2.2.2.2 (by omega) hz⟩, fun _ => Iff.rfl⟩)
    (fun pre A A' h hb hs ho ht hu => ?sx)
    (fun pre A A' h hz => ?sy)
    (fun pre A k h hk => .inl (by rcases hk with hk | hk | hk <;> omega)) (fun h => by cases h)
    ⟨fun x hx => (by cases hx), h51, h52, h53, hB5⟩
    (fun x b => { tmps := #[.pointer (some ⟨g, 0, none⟩), undef, .pointer (some ⟨W.heap.size, 0, none⟩), .pointer (some ⟨W.heap.size + 1, 0, none⟩), .pointer (some ⟨W.heap.size + 2, 0, none⟩), .pointer (some ⟨b, 0, none⟩), undef, undef, .pointer (some ⟨g, 0, none⟩), .func (.func 89) #[] #[.pointer (some ⟨W.heap.size + 3, 0, none⟩)], .agg #[.pointer (some ⟨x.1, 0, none⟩), .int .i64 (x.2.2 : Int)], undef, undef, undef, undef, undef, undef, undef, undef, undef], defers := [] }) JAt (fun x b A A' h hc => hc _ _ _ _ h) ?assign ?body ?done ?stop
  case sx =>
    obtain ⟨g', t', n, p, u, h1, h2, h3, h4, h5, h6, h7, h8⟩ := h
    exact ⟨g', t', n, p, u, h1, h2, h3, h4, (hb _ (heap_lt h5) (.inl (by omega))).trans h5, (hb _ (heap_lt h6) (.inl (by omega))).trans h6, (hb _ (heap_lt h7) (.inl (by omega))).trans h7, ho.trans h8.os, ht.trans h8.tape, hu.trans h8.output, by rw [hs]; exact h8.size, fun k hk => (hb k (Nat.lt_of_lt_of_le hk h8.size) (.inl (by omega))).trans (h8.block k hk)⟩
  case sy =>
    obtain ⟨g', t', n, p, u, h1, h2, h3, h4, h5, h6, h7, h8⟩ := h
    exact ⟨g', t', n, p, u, h1, h2, h3, h4, (hz.block _ (heap_lt h5) (.inr (.inl rfl))).trans h5, (hz.block _ (heap_lt h6) (.inr (.inr (.inl rfl)))).trans h6, (hz.block _ (heap_lt h7) (.inr (.inr (.inr rfl)))).trans h7, below_fz h8 (by omega) hz⟩
  case assign =>
    intro l' x W' K hK
    simp only [encJ, jagg]
    gi_wp2
    exact hK _ (World.grownBy_alloc _ _ _) (heap_alloc_new _ _)
  case body =>
    rintro l' pre ⟨gx, tx, nx⟩ b A ⟨hI1, hI2, hI3, hI4, hIB⟩ ⟨hX, hXG, hXn⟩ hb hA
    simp only [JAt] at *
    have HI := hide (And.intro hI1 (And.intro hI2 (And.intro hI3 (And.intro hI4 hIB))))
    have c0 := cellOf hA 0
    have c1 := cellOf hA 1
    simp at c0 c1
    obtain ⟨hjo, hjl⟩ := hXG.2 tx (by rw [subs_eq]; exact List.mem_cons_self ..) nx hXn
    have hXA := LR.kept (w' := A) (fun k hk _ => hIB.block k hk) hX
    have HW := hide (jwitness hXA hXG.1 (fun k hk => by have := hYl k hk; have := hIB.size; omega) (hT.below hIB) hjo)
    have HA := hide (And.intro hA hXA)
    unfold jagg at HW
    clear hI1 hI2 hI3 hI4 hIB hA hXA
    gi_wp2_with fail
    refine ⟨trivial, CallsIn.inRound l' (callsIn_wide.2 ((unhide HW).mono ?_))⟩
    rintro e A1 ⟨u, f, rfl, h1, h2, hg1⟩
    obtain ⟨hA, hXA⟩ := unhide HA
    have hA1 := (hg1.block b (heap_lt hA) (by simp)).trans hA
    have e0 := cellOf hA1 0
    have e1 := cellOf hA1 1
    simp at e0 e1
    have H1 := hide (And.intro h1 (And.intro h2 hg1))
    obtain ⟨p, hp⟩ : ∃ p, (placesOf tx)[nx]? = some p := ⟨_, List.getElem?_eq_getElem hjl⟩
    have HP := hide hp
    have HJ := hide (jat (w := A1) (LR.kept (w' := A1) (fun k hk _ => hg1.block k hk (by simp)) hXA) hp)
    unfold jagg at HJ
    clear h1 h2 hg1 HW HA hA hXA hA1 hp
    cases f with
    | false =>
      gi_wp2_with fail
      obtain ⟨hI1, hI2, hI3, hI4, hIB⟩ := unhide HI
      obtain ⟨_, h2, hg1⟩ := unhide H1
      have kk : ∀ k y, A.heap[k]? = some y → A1.heap[k]? = some y := fun k y hy => (hg1.block k (heap_lt hy) (by simp)).trans hy
      refine ⟨⟨hg1.os, hg1.tape, hg1.output, hg1.size, fun k hk _ => hg1.block k hk (by simp), fun k hk => .inl hk⟩, ?_, kk _ _ hI2, kk _ _ hI3, kk _ _ hI4, hg1.os.trans hIB.os, hg1.tape.trans hIB.tape, hg1.output.trans hIB.output, Nat.le_trans hIB.size hg1.size, fun k hk => (hg1.block k (Nat.lt_of_lt_of_le hk hIB.size) (by simp)).trans (hIB.block k hk)⟩
      intro x hx
      rcases List.mem_append.1 hx with h | h
      · exact hI1 x h
      · rw [List.mem_singleton] at h
        subst h
        exact (h2 (by first | rfl | trivial)).2
    | true =>
      gi_wp2_with fail
      refine ⟨trivial, CallsIn.inRound l' (callsIn_wide.2 ((unhide HJ).mono ?_))⟩
      rintro e A2 ⟨rfl, hg2⟩
      obtain ⟨hI1, hI2, hI3, hI4, hIB⟩ := unhide HI
      obtain ⟨h1, _, hg1⟩ := unhide H1
      have hg := hg1.trans hg2
      have kk : ∀ k y, A.heap[k]? = some y → A2.heap[k]? = some y := fun k y hy => (hg.block k (heap_lt hy) (by simp)).trans hy
      have q1 := kk _ _ hI2
      have q2 := kk _ _ hI3
      have q3 := kk _ _ hI4
      have d1 := cellOf q1 0
      have d2 := cellOf q2 0
      have d3 := cellOf q3 0
      have f1 := frozenOf q1 0
      have f2 := frozenOf q2 0
      have f3 := frozenOf q3 0
      simp at d1 d2 d3
      obtain ⟨A3, e3, s3, o3, t3, u3, b1, b2, b3, far⟩ := three_set q1 q2 q3 (.int .i64 (p : Int)) (.string (txt u)) (.bool true)
      have H3 := hide e3
      have HL := hide (And.intro h1 (And.intro hg (And.intro hIB (And.intro s3 (And.intro o3 (And.intro t3 (And.intro u3 (And.intro b1 (And.intro b2 (And.intro b3 far))))))))))
      clear hI1 hI2 hI3 hI4 hIB hg1 hg2 hg kk q1 q2 q3 e3 s3 o3 t3 u3 b1 b2 b3 far h1
      gi_wp2_with fail
      rw [unhide H3]
      obtain ⟨h1, hg, hIB, s3, o3, t3, u3, b1, b2, b3, far⟩ := unhide HL
      refine ⟨⟨o3.trans hg.os, t3.trans hg.tape, u3.trans hg.output, by rw [s3]; exact hg.size, fun k hk hn => (far k (fun e => hn (.inl e)) (fun e => hn (.inr (.inl e))) (fun e => hn (.inr (.inr e)))).trans (hg.block k hk (by simp)), fun k hk => .inl hk⟩, gx, tx, nx, p, u, by simp, unhide HP, (h1 (by first | rfl | trivial)).1, (h1 (by first | rfl | trivial)).2, b1, b2, b3, o3.trans (hg.os.trans hIB.os), t3.trans (hg.tape.trans hIB.tape), u3.trans (hg.output.trans hIB.output), by rw [s3]; exact Nat.le_trans hIB.size hg.size, fun k hk => (far k (by omega) (by omega) (by omega)).trans ((hg.block k (Nat.lt_of_lt_of_le hk hIB.size) (by simp)).trans (hIB.block k hk))⟩
  case done =>
    rintro D xs A hD hS ⟨hF, h1, h2, h3, hB⟩ hK
    have e1 := cellOf h1 0
    have e2 := cellOf h2 0
    have e3 := cellOf h3 0
    have f1 := frozenOf h1 0
    have f2 := frozenOf h2 0
    have f3 := frozenOf h3 0
    simp at e1 e2 e3
    obtain ⟨A3, ea, s3, o3, t3, u3, b1, b2, b3, far⟩ := three_set h1 h2 h3 (.int .i64 0) (.string ⟨#[]⟩) (.bool false)
    have HA := hide ea
    have HI := hide (And.intro hF (And.intro hB (And.intro hS (And.intro hK (And.intro s3 (And.intro o3 (And.intro t3 (And.intro u3 (And.intro b1 (And.intro b2 (And.intro b3 far)))))))))))
    clear hF h1 h2 h3 hB hS s3 o3 t3 u3 b1 b2 b3 far ea
    gi_wp2_with fail
    rw [unhide HA]
    obtain ⟨hF, hB, hS, hK, s3, o3, t3, u3, b1, b2, b3, far⟩ := unhide HI
    refine ⟨by simp, .inl ⟨_, _, rfl, run_takeDeferred ((far D (by omega) (by omega) (by omega)).trans hK), ?_⟩⟩
    have hp1 := (World.putObj_heap_other (w := A3) (r := D) (o := .deferred none) (k := W.heap.size) (by omega)).trans b1
    have hp2 := (World.putObj_heap_other (w := A3) (r := D) (o := .deferred none) (k := W.heap.size + 1) (by omega)).trans b2
    have hp3 := (World.putObj_heap_other (w := A3) (r := D) (o := .deferred none) (k := W.heap.size + 2) (by omega)).trans b3
    have q1 := cellOf hp1 0
    have q2 := cellOf hp2 0
    have q3 := cellOf hp3 0
    simp at q1 q2 q3
    refine ⟨.tuple #[.int .i64 0, .string ⟨#[]⟩, .bool false], ?_, ?_⟩
    · simp [results, Tryz.f46, go_sem, q1, q2, q3]
    · refine ⟨.inr ⟨rfl, fun x hx => ?_⟩, o3.trans hB.os, t3.trans hB.tape, u3.trans hB.output, by simp [World.putObj, s3]; exact hB.size, fun k hk _ => (World.putObj_heap_other (by omega)).trans ((far k (by omega) (by omega) (by omega)).trans (hB.block k hk))⟩
      rw [← hS] at hx
      obtain ⟨y, hy, rfl⟩ := List.mem_map.1 hx
      exact hF y hy
  case stop =>
    rintro D pre A hD ⟨r, hr⟩ ⟨g', t', n, p, u, h1, h2, h3, h4, b1, b2, b3, hB⟩ hK
    have HI := hide (And.intro h1 (And.intro h2 (And.intro h3 (And.intro h4 (And.intro b1 (And.intro b2 (And.intro b3 (And.intro hB (And.intro hr hK)))))))))
    clear h1 h2 h3 h4 b1 b2 b3 hB hr
    gi_wp2_with fail
    refine ⟨by simp, .inl ⟨_, _, rfl, run_takeDeferred hK, ?_⟩⟩
    obtain ⟨h1, h2, h3, h4, b1, b2, b3, hB, hr, hK⟩ := unhide HI
    have hp1 := (World.putObj_heap_other (w := A) (r := D) (o := .deferred none) (k := W.heap.size) (by omega)).trans b1
    have hp2 := (World.putObj_heap_other (w := A) (r := D) (o := .deferred none) (k := W.heap.size + 1) (by omega)).trans b2
    have hp3 := (World.putObj_heap_other (w := A) (r := D) (o := .deferred none) (k := W.heap.size + 2) (by omega)).trans b3
    have q1 := cellOf hp1 0
    have q2 := cellOf hp2 0
    have q3 := cellOf hp3 0
    simp at q1 q2 q3
    refine ⟨.tuple #[.int .i64 (p : Int), .string (txt u), .bool true], ?_, ?_⟩
    · simp [results, Tryz.f46, go_sem, q1, q2, q3]
    · refine ⟨.inl ⟨t', n, p, u, ?_, h2, h3, h4, rfl⟩, hB.os, hB.tape, hB.output, by simp [World.putObj]; exact hB.size, fun k hk _ => (World.putObj_heap_other (by omega)).trans (hB.block k hk)⟩
      rw [← hr]
      exact List.mem_append_left _ (List.mem_map.2 ⟨_, h1, rfl⟩)

end Go.Proofs.YtlljggefbngkeaaGreatDoor
