import Derived.Test.YtlljggefbngkeaaGreatDoorV14
import Derived.Test.YtlljggefbngkeaaGreatDoorV13
import Derived.Shelf.Abstract
import Derived.Shelf.RegionOpen
import Derived.OwnWalkIn
import Derived.TacticsInMore
import Derived.LoopNIn
import Derived.LoopIn
import Derived.Test.YtlljggefbngkeaaGreatDoorV11
import Derived.Test.YtlljggefbngkeaaGreatDoorV09
import Derived.Deep.RegionHeld3
namespace Go.Proofs.YtlljggefbngkeaaGreatDoor
open Go.RowKit Go.Shelf
attribute [local go_sem] Oper.semAt_some

theorem depth_any {k : Nat} : Fence.wide.depth.isSome = true → 1 ≤ k := fun h => by cases h
theorem room_any (k : Nat) : Fence.wide.room k := fun d h => by cases h
theorem RoundIn.anyD {m m' : Nat} {P : Program} {l : Nat} {f : FuncId} {tmps : Array Value} {assign body : Code} {w : World} {R : Ending → World → Prop}
    (h : RoundIn Fence.wide m P l f tmps assign body w R) : RoundIn Fence.wide m' P l f tmps assign body w R := ⟨h.1, fun c cs _ => h.2 c cs (room_any _)⟩
theorem YieldAt.anyD {m : Nat} (m' : Nat) {P : Program} {l : Nat} {args : Array Value} {W : World} {R : Ending → World → Prop} (h : YieldAt Fence.wide m P l args W R) : YieldAt Fence.wide m' P l args W R := by
  obtain ⟨fn, tmps, assign, body, hy, hR⟩ := h
  exact ⟨fn, tmps, assign, body, hy, RoundIn.anyD hR⟩
theorem Below.of_kf {N : Nat} {fp : World → Nat → Prop} {A A' : World} (h : Kf fp A A') (hN : N ≤ A.heap.size) (hfp : ∀ k, fp A k → N ≤ k) : Below N A A' :=
  ⟨h.os, h.tape, h.output, h.size, fun k hk => h.block k (by omega) (fun hf => by have := hfp k hf; omega)⟩

/-- the lenses that a lens is made of -/
def parts : LT → List LT
  | .same _ _ _ => []
  | .fixed _ _ _ _ _ _ => []
  | .swap _ a b => [a, b]
  | .group a => [a]
  | .many _ a => [a]
  | .row l _ => l
  | .choice l _ => l

mutual
/-- a lens and those within it -/
def subs : LT → List LT
  | .same l i j => [.same l i j]
  | .fixed l i j v d a => [.fixed l i j v d a]
  | .swap at_ a b => .swap at_ a b :: (subs a ++ subs b)
  | .group a => .group a :: subs a
  | .many at_ a => .many at_ a :: subs a
  | .row l ps => .row l ps :: subsL l
  | .choice l ps => .choice l ps :: subsL l
def subsL : List LT → List LT
  | [] => []
  | t :: l => subs t ++ subsL l
end

theorem subs_eq (t : LT) : subs t = t :: subsL (parts t) := by
  cases t <;> simp [subs, parts, subsL]

theorem subsL_snoc : ∀ (l : List LT) (t : LT), subsL (l ++ [t]) = subsL l ++ subs t
  | [], t => by rw [List.nil_append, subsL, subsL]; simp [subsL]
  | u :: l, t => by rw [List.cons_append, subsL, subsL, subsL_snoc l t, List.append_assoc]
theorem subsL_take (l : List LT) (k : Nat) : ∃ r, subsL (l.take k) ++ r = subsL l := by
  have key : ∀ (a b : List LT), subsL (a ++ b) = subsL a ++ subsL b := by
    intro a b
    induction a with
    | nil => simp [subsL]
    | cons t a ih => rw [List.cons_append, subsL, subsL, ih, List.append_assoc]
  exact ⟨subsL (l.drop k), by rw [← key, List.take_append_drop]⟩

theorem LR.parts {s : ByteArray} {w : World} {Y : Nat → Prop} {t : LT} {g : Nat} (h : LR s w Y t g) : ∃ v gs, w.cell? ⟨g, 1, none⟩ = some v ∧ w.ownsRow 0 54 1 v gs.length (ptrs gs) ∧ LRL s w Y (parts t) gs ∧ g < w.heap.size := by
  cases t with
  | same l i j =>
    rw [LR] at h
    obtain ⟨_, p, h1, _⟩ := h
    exact ⟨_, [], by rw [cellOf h1 1]; rfl, World.ownsRow_nil _ _ _ _, by rw [YtlljggefbngkeaaGreatDoor.parts, LRL]; trivial, heap_lt h1⟩
  | fixed l i j v d a =>
    rw [LR] at h
    obtain ⟨_, p, h1, _⟩ := h
    exact ⟨_, [], by rw [cellOf h1 1]; rfl, World.ownsRow_nil _ _ _ _, by rw [YtlljggefbngkeaaGreatDoor.parts, LRL]; trivial, heap_lt h1⟩
  | swap at_ a b =>
    rw [LR] at h
    obtain ⟨_, v, jv, ga, gb, h1, h2, _, h4, h5⟩ := h
    exact ⟨v, [ga, gb], by rw [cellOf h1 1]; rfl, h2.1, by rw [YtlljggefbngkeaaGreatDoor.parts, LRL, LRL, LRL]; exact ⟨h4, h5, trivial⟩, heap_lt h1⟩
  | group a =>
    rw [LR] at h
    obtain ⟨_, v, ga, h1, h2, h4⟩ := h
    exact ⟨v, [ga], by rw [cellOf h1 1]; rfl, h2.1, by rw [YtlljggefbngkeaaGreatDoor.parts, LRL, LRL]; exact ⟨h4, trivial⟩, heap_lt h1⟩
  | many at_ a =>
    rw [LR] at h
    obtain ⟨_, v, jv, ga, h1, h2, _, h4⟩ := h
    exact ⟨v, [ga], by rw [cellOf h1 1]; rfl, h2.1, by rw [YtlljggefbngkeaaGreatDoor.parts, LRL, LRL]; exact ⟨h4, trivial⟩, heap_lt h1⟩
  | row l ps =>
    rw [LR] at h
    obtain ⟨_, v, jv, gs, h1, h2, _, h4⟩ := h
    exact ⟨v, gs, by rw [cellOf h1 1]; rfl, h2.1, h4, heap_lt h1⟩
  | choice l ps =>
    rw [LR] at h
    obtain ⟨_, v, jv, gs, h1, h2, _, h4⟩ := h
    exact ⟨v, gs, by rw [cellOf h1 1]; rfl, h2.1, h4, heap_lt h1⟩

theorem formT_mem (s : ByteArray) (sep : List UInt8) : ∀ (l : List LT) (u : LT), u ∈ l → (form s u).length ≤ (formT s sep l).length
  | [], u, h => absurd h (List.not_mem_nil)
  | t :: l, u, h => by
    rw [formT]
    simp only [List.length_append]
    rcases List.mem_cons.1 h with rfl | h
    · omega
    · have := formT_mem s sep l u h
      omega
theorem formL_mem (s : ByteArray) (sep : List UInt8) (l : List LT) (u : LT) (h : u ∈ l) : (form s u).length ≤ (formL s sep l).length := by
  cases l with
  | nil => exact absurd h (List.not_mem_nil)
  | cons t l =>
    rw [formL]
    simp only [List.length_append]
    rcases List.mem_cons.1 h with rfl | h
    · omega
    · have := formT_mem s sep l u h
      omega
theorem form_parts (s : ByteArray) (t u : LT) (h : u ∈ parts t) : (form s u).length ≤ (form s t).length := by
  cases t with
  | same l i j => exact absurd h (List.not_mem_nil)
  | fixed l i j v d a => exact absurd h (List.not_mem_nil)
  | swap at_ a b =>
    rw [parts] at h
    rw [form]
    simp only [List.length_append]
    rcases List.mem_cons.1 h with rfl | h
    · omega
    · rw [List.mem_singleton] at h
      subst h
      omega
  | group a =>
    rw [parts, List.mem_singleton] at h
    subst h
    rw [form]
    simp only [List.length_append, List.length_cons]
    omega
  | many at_ a =>
    rw [parts, List.mem_singleton] at h
    subst h
    rw [form]
    simp only [List.length_append]
    omega
  | row l ps => rw [form]; exact formL_mem s _ l u h
  | choice l ps => rw [form]; exact formL_mem s _ l u h

def encX (x : Nat × LT) : Array Value := #[.pointer (some ⟨x.1, 0, none⟩)]

/-- what walk answers: all have come; or a round has said that it is enough -/
def WalkPost (w0 : World) (J Jx : List (Nat × LT) → World → Prop) (pre : List (Nat × LT)) (ss : List LT) (e : Ending) (W' : World) : Prop :=
  (∃ xs, e = .returned (.bool true) ∧ xs.map Prod.snd = ss ∧ J (pre ++ xs) W' ∧ Below w0.heap.size w0 W') ∨ (∃ q r, e = .returned (.bool false) ∧ q.map Prod.snd ++ r = ss ∧ Jx (pre ++ q) W')

def WalkSaid (G : LT → Prop) (s : ByteArray) (w0 : World) (Y : Nat → Prop) (l : Nat) (J Jx : List (Nat × LT) → World → Prop) (t : LT) : Prop :=
  ∀ (n g : Nat) (pre : List (Nat × LT)) (W : World), LR s w0 Y t g → G t → Below w0.heap.size w0 W → J pre W →
    CallsIn Fence.wide n Tryz.prog 128 #[.pointer (some ⟨g, 0, none⟩), .func (.yield l) #[] #[]] W fun e W' => WalkPost w0 J Jx pre (subs t) e W'

def YieldSaid (G : LT → Prop) (s : ByteArray) (w0 : World) (Y : Nat → Prop) (l : Nat) (J Jx : List (Nat × LT) → World → Prop) : Prop :=
  ∀ m pre x W, J pre W → LR s w0 Y x.2 x.1 ∧ G x.2 → YieldAt Fence.wide m Tryz.prog l (encX x) W fun e W' =>
    (e = .returned (.bool true) ∧ J (pre ++ [x]) W' ∧ Below w0.heap.size W W') ∨ (e = .returned (.bool false) ∧ Jx (pre ++ [x]) W')

set_option maxRecDepth 100000 in
set_option maxHeartbeats 3200000 in
theorem lwalk_of {G : LT → Prop} (hG : ∀ t u, G t → u ∈ parts t → G u) {s : ByteArray} {w0 : World} {Y : Nat → Prop} {l : Nat} {J Jx : List (Nat × LT) → World → Prop} (hY : YieldSaid G s w0 Y l J Jx) (t : LT) (hp : ∀ u, u ∈ parts t → WalkSaid G s w0 Y l J Jx u) : WalkSaid G s w0 Y l J Jx t := by
  intro n g pre W hR hfl hB hJ
  obtain ⟨v, gs, c1, hv, hT, hgl⟩ := hR.parts
  have hmax := own_max hv
  obtain ⟨ao, cp, rfl⟩ := own_slice hv
  have hlen := hT.len
  obtain ⟨fn, tmps, assign, body, hy, hRd⟩ := hY (n - 1) pre (g, t) W hJ ⟨hR, hfl⟩
  have H0 := hide (And.intro hv (And.intro hT (And.intro hp (And.intro hlen (And.intro c1 hB)))))
  rw [subs_eq]
  dsimp only [encX] at hy
  clear hv hT hp hlen hR hJ hB c1
  refine callsIn_of_wp Tryz.func128 rfl trivial ?_ rfl
  simp only [Tryz.ntmps128, List.size_toArray, List.length_cons, List.length_nil, Nat.reduceAdd, Nat.reduceSub, Array.replicate_succ, Array.replicate_zero, List.push_toArray, List.append_toArray, List.nil_append, List.cons_append]
  gi_wp2
  refine ⟨depth_any, ?_⟩
  refine hRd.mono ?_
  rintro e W1 (⟨rfl, hJ1, hb1⟩ | ⟨rfl, hx1⟩)
  · have hB1 := (unhide H0).2.2.2.2.2.trans hb1
    have d1 : W1.cell? ⟨g, 1, none⟩ = some (.slice ao gs.length cp) := by
      rw [World.cell?_of_block (w := w0) (w' := W1) (a := ⟨g, 1, none⟩) (hB1.block g hgl)]
      exact (unhide H0).2.2.2.2.1
    have H1 := hide (And.intro hJ1 hB1)
    clear hJ1 hb1 hB1
    gi_wp2
    gi_loopw [16] (fun iv wr => ∃ (k : Nat) (xs : List (Nat × LT)), iv = .int .i64 (k : Int) ∧ k ≤ gs.length ∧ xs.map Prod.snd = t :: subsL ((parts t).take k) ∧ J (pre ++ xs) wr ∧ Below w0.heap.size w0 wr) (fun iv _ => gs.length - (Lib.intOf iv).toNat)
    case atStart => exact ⟨0, [(g, t)], rfl, Nat.zero_le _, by rw [List.take_zero, subsL]; rfl, (unhide H1).1, (unhide H1).2⟩
    case round =>
      obtain ⟨k, xs, rfl, hk, hxs, hJk, hBk⟩ := hrel
      have HI := hide (And.intro hxs (And.intro hJk hBk))
      clear hxs hJk hBk
      by_cases hlt : k < gs.length
      · have hd : (k : Int) < (gs.length : Int) := by omega
        obtain ⟨hv, hT, hp, hlen, _, _⟩ := unhide H0
        obtain ⟨vb, cap, hveq, _, hvl⟩ := hv.form (by omega)
        injection hveq with hao _ hcp
        subst hao
        subst hcp
        obtain ⟨u, gu, hu1, hu2, hu3⟩ := LRL.at hT k (by omega)
        have ck : wr.cell? ⟨vb, k, none⟩ = some (.pointer (some ⟨gu, 0, none⟩)) := by
          have h1 := hv.cellAt k (by omega)
          rw [World.cell?_of_block (w := w0) (w' := wr) (a := ⟨vb, k, none⟩) ((unhide HI).2.2.block vb hvl), h1]
          simp [ptrs, hu2]
        have htake : (parts t).take (k + 1) = (parts t).take k ++ [u] := by rw [List.take_add_one, hu1]; rfl
        have HW := hide (hp u (List.mem_of_getElem? hu1) (n - 1) gu (pre ++ xs) wr hu3 (hG t u hfl (List.mem_of_getElem? hu1)) (unhide HI).2.2 (unhide HI).2.1)
        have Ht := hide (And.intro htake (List.mem_of_getElem? hu1))
        clear hv hT hp hlen hu1 hu2 hu3 htake d1
        gi_wp2_with fail
        refine ⟨trivial, depth_any, ?_⟩
        refine (unhide HW).mono ?_
        rintro e W3 (⟨ys, rfl, hys, hJ3, hB3⟩ | ⟨q, r, rfl, hq, hx3⟩)
        · gi_wp2_with fail
          go_roundw
          case rel =>
            refine ⟨k + 1, xs ++ ys, by simp, by omega, ?_, by rw [← List.append_assoc]; exact hJ3, hB3⟩
            rw [(unhide Ht).1, subsL_snoc, List.map_append, (unhide HI).1, hys]
            rfl
          case measure => simp [Lib.intOf]; omega
        · gi_wp2
          go_ret
          obtain ⟨r2, hr2⟩ := subsL_take (parts t) (k + 1)
          refine .inr ⟨xs ++ q, r ++ r2, rfl, ?_, by rw [← List.append_assoc]; exact hx3⟩
          rw [← hr2, (unhide Ht).1, subsL_snoc, ← hq, List.map_append, (unhide HI).1]
          simp only [List.append_assoc, List.cons_append]
      · have hd : decide ((k : Int) < (gs.length : Int)) = false := by simp; omega
        have hke : (parts t).take k = parts t := List.take_of_length_le (by have := (unhide H0).2.2.2.1; omega)
        have HK := hide hke
        clear hke
        gi_wp2
        go_ret
        obtain ⟨hxs, hJk, hBk⟩ := unhide HI
        rw [unhide HK] at hxs
        exact .inl ⟨xs, rfl, hxs, hJk, hBk⟩
  · gi_wp2
    go_ret
    exact .inr ⟨[(g, t)], subsL (parts t), rfl, by simp, hx1⟩

mutual
theorem lwalk {G : LT → Prop} (hG : ∀ t u, G t → u ∈ parts t → G u) {s : ByteArray} {w0 : World} {Y : Nat → Prop} {l : Nat} {J Jx : List (Nat × LT) → World → Prop} (hY : YieldSaid G s w0 Y l J Jx) : ∀ t, WalkSaid G s w0 Y l J Jx t
  | .same br i j => lwalk_of hG hY _ (fun u hu => by simp [parts] at hu)
  | .fixed br i j v d a => lwalk_of hG hY _ (fun u hu => by simp [parts] at hu)
  | .swap at_ a b => by
    have ia := lwalk hG hY a
    have ib := lwalk hG hY b
    refine lwalk_of hG hY _ (fun u hu => ?_)
    rw [parts] at hu
    rcases List.mem_cons.1 hu with rfl | hu
    · exact ia
    · rw [List.mem_singleton] at hu
      subst hu
      exact ib
  | .group a => by
    have ia := lwalk hG hY a
    refine lwalk_of hG hY _ (fun u hu => ?_)
    rw [parts, List.mem_singleton] at hu
    subst hu
    exact ia
  | .many at_ a => by
    have ia := lwalk hG hY a
    refine lwalk_of hG hY _ (fun u hu => ?_)
    rw [parts, List.mem_singleton] at hu
    subst hu
    exact ia
  | .row ts ps => by
    have il := lwalkL hG hY ts
    exact lwalk_of hG hY _ (fun u hu => il u hu)
  | .choice ts ps => by
    have il := lwalkL hG hY ts
    exact lwalk_of hG hY _ (fun u hu => il u hu)
theorem lwalkL {G : LT → Prop} (hG : ∀ t u, G t → u ∈ parts t → G u) {s : ByteArray} {w0 : World} {Y : Nat → Prop} {l : Nat} {J Jx : List (Nat × LT) → World → Prop} (hY : YieldSaid G s w0 Y l J Jx) : ∀ (ts : List LT) (t : LT), t ∈ ts → WalkSaid G s w0 Y l J Jx t
  | [], t, h => absurd h (List.not_mem_nil)
  | u :: ts, t, h => by
    have iu := lwalk hG hY u
    have il := lwalkL hG hY ts
    rcases List.mem_cons.1 h with rfl | h
    · exact iu
    · exact il t h
end

set_option maxRecDepth 100000 in
set_option maxHeartbeats 1600000 in
/-- all(): the receiver is boxed, the function value captures the box -/
theorem lall (n g : Nat) (w : World) : CallsIn Fence.wide n Tryz.prog 82 #[.pointer (some ⟨g, 0, none⟩)] w fun e w' =>
    e = .returned (.func (.func 127) #[] #[.pointer (some ⟨w.heap.size, 0, none⟩)]) ∧ w' = w.alloc (.cells #[.pointer (some ⟨g, 0, none⟩)] 54) := by
  refine callsIn_of_wp Tryz.func82 rfl trivial ?_ rfl
  simp only [Tryz.ntmps82, List.size_toArray, List.length_cons, List.length_nil, Nat.reduceAdd, Nat.reduceSub, Array.replicate_succ, Array.replicate_zero, List.push_toArray, List.append_toArray, List.nil_append, List.cons_append]
  gi_wp2
  go_ret
  exact ⟨rfl, rfl⟩

set_option maxRecDepth 100000 in
set_option maxHeartbeats 1600000 in
theorem lall_seq {G : LT → Prop} (hG : ∀ t u, G t → u ∈ parts t → G u) {s : ByteArray} {w0 w : World} {Y : Nat → Prop} {t : LT} {g Bl n : Nat} {fp : World → Nat → Prop} (hfp : ∀ A k, fp A k → w0.heap.size ≤ k) (hR : LR s w0 Y t g) (hfl : G t) (hB : Below w0.heap.size w0 w) (hc : w.heap[Bl]? = some (.cells #[.pointer (some ⟨g, 0, none⟩)] 54 (0, 0))) :
    SeqF Fence.wide n Tryz.prog 127 #[.pointer (some ⟨Bl, 0, none⟩)] encX fp false (fun _ x => LR s w0 Y x.2 x.1 ∧ G x.2) (fun xs => xs.map Prod.snd = subs t) (fun pre => ∃ r, pre.map Prod.snd ++ r = subs t) w := by
  intro l J Jx W hW hJs hJx _ hY h0
  have hBW : Below w0.heap.size w0 W := ⟨hW.os.trans hB.os, hW.tape.trans hB.tape, hW.output.trans hB.output, Nat.le_trans hB.size hW.size, fun k hk => (hW.block k (Nat.lt_of_lt_of_le hk hB.size) (by simp)).trans (hB.block k hk)⟩
  have hcW := (hW.block Bl (heap_lt hc) (by simp)).trans hc
  have c0 := cellOf hcW 0
  simp at c0
  have HW := hide (lwalk hG (s := s) (w0 := w0) (Y := Y) (l := l) (J := fun pre A => J pre A ∧ w0.heap.size ≤ A.heap.size) (Jx := Jx) (fun m pre x A hj hx => YieldAt.anyD m (YieldAt.mono (hY pre x A hj.1 hx) (fun e A' h => h.imp (fun ⟨h1, h2, h3⟩ => ⟨h1, ⟨h2, Nat.le_trans hj.2 h3.size⟩, Below.of_kf h3 hj.2 (hfp A)⟩) id))) t (n - 1) g [] W hR hfl hBW ⟨h0, hBW.size⟩)
  clear hJs hJx hY h0 hW hR hB hc hcW
  refine callsIn_of_wp Tryz.func127 rfl trivial ?_ rfl
  simp only [Tryz.ntmps127, List.size_toArray, List.length_cons, List.length_nil, Nat.reduceAdd, Nat.reduceSub, Array.replicate_succ, Array.replicate_zero, List.push_toArray, List.append_toArray, List.nil_append, List.cons_append]
  gi_wp2_with fail
  refine ⟨trivial, depth_any, ?_⟩
  refine (unhide HW).mono ?_
  rintro e W1 (⟨xs, rfl, hx, hJ, _⟩ | ⟨q, r, rfl, hq, hx⟩)
  · gi_wp2
    go_end0
    exact ⟨⟨_, rfl⟩, .inl ⟨xs, hx, by simpa using hJ.1⟩⟩
  · gi_wp2
    go_end0
    exact ⟨⟨_, rfl⟩, .inr ⟨q, ⟨r, hq⟩, by simpa using hx⟩⟩

end Go.Proofs.YtlljggefbngkeaaGreatDoor

namespace Go.Proofs.YtlljggefbngkeaaGreatDoor
open Go.RowKit

mutual
/-- how many parts a pattern has: no fewer than its states -/
def stSize : PT → Nat
  | .chr _ => 1
  | .seq l => stSizeL l + 1
  | .alt l => stSizeL l + 1
  | .rep _ t => stSize t + 1
def stSizeL : List PT → Nat
  | [] => 0
  | t :: l => stSize t + stSizeL l
end

theorem stSizeL_len : ∀ l : List PT, l.length ≤ stSizeL l
  | [] => by rw [stSizeL]; exact Nat.le_refl _
  | t :: l => by
    rw [stSizeL, List.length_cons]
    have h1 := stSizeL_len l
    have h2 : 1 ≤ stSize t := by cases t <;> rw [stSize] <;> omega
    omega

mutual
theorem mLay_len : ∀ (t : PT) (S : List MSt) (to : Nat), (mLay t S to).1.length ≤ S.length + stSize t
  | .chr l, S, to => by rw [mLay, stSize]; simp
  | .seq l, S, to => by rw [mLay, stSize]; have := mSeq_len l S to; omega
  | .alt l, S, to => by rw [mLay, stSize]; simp only [List.length_append, List.length_singleton]; have := mAlt_len l S to; omega
  | .rep c t, S, to => by
    rw [mLay, stSize]
    split
    · show (List.set _ _ _).length ≤ _
      rw [List.length_set]
      have := mLay_len t (S ++ [⟨[], 0, []⟩]) S.length
      simp only [List.length_append, List.length_singleton] at this
      omega
    · simp only [List.length_append, List.length_singleton]
      have := mLay_len t S to
      omega
theorem mSeq_len : ∀ (l : List PT) (S : List MSt) (to : Nat), (mSeq l S to).1.length ≤ S.length + stSizeL l
  | [], S, to => by rw [mSeq, stSizeL]; exact Nat.le_refl _
  | t :: l, S, to => by rw [mSeq, stSizeL]; have := mLay_len t (mSeq l S to).1 (mSeq l S to).2; have := mSeq_len l S to; omega
theorem mAlt_len : ∀ (l : List PT) (S : List MSt) (to : Nat), (mAlt l S to).1.length ≤ S.length + stSizeL l
  | [], S, to => by rw [mAlt, stSizeL]; exact Nat.le_refl _
  | t :: l, S, to => by rw [mAlt, stSizeL]; have := mAlt_len l (mLay t S to).1 to; have := mLay_len t S to; simp only; omega
end

theorem stSizeL_one (t : PT) : stSizeL [t] = stSize t := by rw [stSizeL, stSizeL]; omega
theorem pSeq_size (l : List PT) : stSize (pSeq l) ≤ stSizeL l + 1 := by
  match l with
  | [] => rw [pSeq, stSize]; exact Nat.le_refl _; intro t h; cases h
  | [t] => rw [pSeq, stSizeL_one]; omega
  | t :: u :: l => rw [pSeq, stSize]; exact Nat.le_refl _; intro t h; cases h
theorem pAlt_size (l : List PT) : stSize (pAlt l) ≤ stSizeL l + 1 := by
  match l with
  | [] => rw [pAlt, stSize]; exact Nat.le_refl _; intro t h; cases h
  | [t] => rw [pAlt, stSizeL_one]; omega
  | t :: u :: l => rw [pAlt, stSize]; exact Nat.le_refl _; intro t h; cases h
mutual
theorem nf_size : ∀ t, stSize (nf t) ≤ stSize t
  | .chr l => by rw [nf]; exact Nat.le_refl _
  | .seq l => by rw [nf, stSize]; have := pSeq_size (nfL l); have := nfL_size l; omega
  | .alt l => by rw [nf, stSize]; have := pAlt_size (nfL l); have := nfL_size l; omega
  | .rep c t => by rw [nf, stSize, stSize]; have := nf_size t; omega
theorem nfL_size : ∀ l, stSizeL (nfL l) ≤ stSizeL l
  | [] => by rw [nfL]; exact Nat.le_refl _
  | t :: l => by rw [nfL, stSizeL, stSizeL]; have := nf_size t; have := nfL_size l; omega
end

theorem pSeq_ok {l : List PT} (h : okRepL l) : okRep (pSeq l) := by
  match l, h with
  | [], h => rw [pSeq, okRep]; exact h; intro t e; cases e
  | [t], h => rw [pSeq]; rw [okRepL] at h; exact h.1
  | t :: u :: l, h => rw [pSeq, okRep]; exact h; intro t e; cases e
theorem pAlt_ok {l : List PT} (h : okRepL l) : okRep (pAlt l) := by
  match l, h with
  | [], h => rw [pAlt, okRep]; exact h; intro t e; cases e
  | [t], h => rw [pAlt]; rw [okRepL] at h; exact h.1
  | t :: u :: l, h => rw [pAlt, okRep]; exact h; intro t e; cases e
mutual
theorem nf_ok : ∀ t, okRep t → okRep (nf t)
  | .chr l, h => by rw [nf]; exact h
  | .seq l, h => by rw [okRep] at h; rw [nf]; exact pSeq_ok (nfL_ok l h)
  | .alt l, h => by rw [okRep] at h; rw [nf]; exact pAlt_ok (nfL_ok l h)
  | .rep c t, h => by rw [okRep] at h; rw [nf, okRep]; exact ⟨h.1, nf_ok t h.2⟩
theorem nfL_ok : ∀ l, okRepL l → okRepL (nfL l)
  | [], h => by rw [nfL]; exact h
  | t :: l, h => by rw [okRepL] at h; rw [nfL, okRepL]; exact ⟨nf_ok t h.1, nfL_ok l h.2⟩
end

theorem gRep_size (s : ByteArray) (t : PT) (j : Nat) : stSize (gRep s t j).1 + 3 * j ≤ stSize t + 3 * (gRep s t j).2 := by
  unfold gRep
  split
  · show stSize (.rep _ t) + 3 * j ≤ _
    rw [stSize]
    show _ ≤ stSize t + 3 * (j + 1)
    omega
  · exact Nat.le_refl _

theorem g_size (s : ByteArray) : ∀ n, (∀ i t j, gBase s n i = .ok t j → stSize t + 3 * i ≤ 3 * j) ∧ (∀ i l j, gBranch s n i = .ok l j → stSizeL l + 3 * i ≤ 3 * j) ∧ (∀ i l j, gAlts s n i = .ok l j → stSizeL l + 3 * i ≤ 3 * j + 1)
  | 0 => ⟨fun i t j h => (by rw [gBase] at h; cases h), fun i l j h => (by rw [gBranch] at h; cases h), fun i l j h => (by rw [gAlts] at h; cases h)⟩
  | n + 1 => by
    obtain ⟨h1, h2, h3⟩ := g_size s n
    refine ⟨fun i t j h => ?_, fun i l j h => ?_, fun i l j h => ?_⟩
    · rw [gBase] at h
      split at h
      · cases hg : gSpans s n (i + 1) [] with
        | err p => rw [hg] at h; cases h
        | ok l j' =>
          rw [hg] at h
          cases h
          have := gSpans_lt s n _ _ _ _ hg
          rw [stSize]
          omega
      · split at h
        · cases hg : gAlts s n (i + 1) with
          | err p => rw [hg] at h; cases h
          | ok l j' =>
            rw [hg] at h
            have := h3 _ _ _ hg
            simp only [Res.bind] at h
            split at h
            · cases h; rw [stSize]; omega
            · cases h
        · split at h
          · cases h; rw [stSize]; omega
          · cases h
    · rw [gBranch] at h
      split at h
      · cases hg : gBase s n i with
        | err p => rw [hg] at h; cases h
        | ok t j' =>
          rw [hg] at h
          simp only [Res.bind] at h
          cases hb : gBranch s n (gRep s t j').2 with
          | err p => rw [hb] at h; cases h
          | ok l' j'' =>
            rw [hb] at h
            cases h
            have := h1 _ _ _ hg
            have := h2 _ _ _ hb
            have := gRep_size s t j'
            rw [stSizeL]
            omega
      · cases h; rw [stSizeL]; omega
    · rw [gAlts] at h
      cases hg : gBranch s n i with
      | err p => rw [hg] at h; cases h
      | ok l' j' =>
        rw [hg] at h
        have := h2 _ _ _ hg
        simp only [Res.bind] at h
        split at h
        · cases hb : gAlts s n (j' + 1) with
          | err p => rw [hb] at h; cases h
          | ok l' j'' =>
            rw [hb] at h
            cases h
            have := h3 _ _ _ hb
            rw [stSizeL, stSize]
            omega
        · cases h; rw [stSizeL_one, stSize]; omega

/-- a lens's own pattern is one that the machine takes -/
def pOk : LT → Prop
  | .fixed l _ _ _ _ _ => okRepL l ∧ stSizeL l ≤ 400
  | _ => True
def LOk (t : LT) : Prop := ∀ u, u ∈ subs t → pOk u
theorem subsL_mem : ∀ (l : List LT) (t u : LT), t ∈ l → u ∈ subs t → u ∈ subsL l
  | [], t, u, h, _ => absurd h (List.not_mem_nil)
  | x :: l, t, u, h, hu => by
    rw [subsL, List.mem_append]
    rcases List.mem_cons.1 h with rfl | h
    · exact .inl hu
    · exact .inr (subsL_mem l t u h hu)
theorem subsL_of : ∀ (l : List LT) (u : LT), u ∈ subsL l → ∃ t, t ∈ l ∧ u ∈ subs t
  | [], u, h => by rw [subsL] at h; exact absurd h (List.not_mem_nil)
  | x :: l, u, h => by
    rw [subsL, List.mem_append] at h
    rcases h with h | h
    · exact ⟨x, List.mem_cons_self, h⟩
    · obtain ⟨t, h1, h2⟩ := subsL_of l u h
      exact ⟨t, List.mem_cons_of_mem _ h1, h2⟩
theorem LOk.part {t u : LT} (h : LOk t) (hu : u ∈ parts t) : LOk u := fun x hx => h x (by rw [subs_eq]; exact List.mem_cons_of_mem _ (subsL_mem _ u x hu hx))
theorem LOk.self {t : LT} (h : LOk t) : pOk t := h t (by rw [subs_eq]; exact List.mem_cons_self)
theorem LOk.of {t : LT} (h0 : pOk t) (h : ∀ u, u ∈ parts t → LOk u) : LOk t := fun x hx => by
  rw [subs_eq] at hx
  rcases List.mem_cons.1 hx with rfl | hx
  · exact h0
  · obtain ⟨u, h1, h2⟩ := subsL_of _ _ hx
    exact h u h1 x h2
theorem LOk.joinRow {l : List LT} (ps : List Nat) (h : ∀ u, u ∈ l → LOk u) : LOk (joinRow l ps) := by
  match l, h with
  | [], h => exact LOk.of trivial (fun u hu => h u hu)
  | [t], h => exact h t List.mem_cons_self
  | t :: u :: l, h => exact LOk.of trivial (fun u hu => h u hu)
theorem LOk.joinAlt {l : List LT} (ps : List Nat) (h : ∀ u, u ∈ l → LOk u) : LOk (joinAlt l ps) := by
  match l, h with
  | [], h => exact LOk.of trivial (fun u hu => h u hu)
  | [t], h => exact h t List.mem_cons_self
  | t :: u :: l, h => exact LOk.of trivial (fun u hu => h u hu)

theorem gPlain_ok {s : ByteArray} (hs : s.size ≤ 120) {n i : Nat} {t : LT} {j : Nat} (h : gPlain s n i = .ok t j) : LOk t := by
  unfold gPlain at h
  cases hg : gAlts s n (i + 1) with
  | err p => rw [hg] at h; cases h
  | ok l k =>
    rw [hg] at h
    simp only [Res.bind] at h
    split at h
    · rename_i h47
      have hk : k < s.size := pk_lt (by rw [h47]; decide)
      have hsz := (g_size s n).2.2 _ _ _ hg
      have hok := (gAlts_wf s hs n _ _ _ hg).2
      split at h
      · cases hq : gQuoted s (skipB s (k + 1)) with
        | err p => rw [hq] at h; cases h
        | ok v k1 =>
          rw [hq] at h
          simp only at h
          cases hq2 : gQuoted s (skipB s k1) with
          | err p => rw [hq2] at h; cases h
          | ok d m =>
            rw [hq2] at h
            cases h
            exact LOk.of ⟨hok, by omega⟩ (fun u hu => absurd hu (List.not_mem_nil))
      · cases h
        exact LOk.of trivial (fun u hu => absurd hu (List.not_mem_nil))
    · cases h

theorem gL_ok (s : ByteArray) (hs : s.size ≤ 120) : ∀ n, (∀ i t j, gPiece s n i = .ok t j → LOk t) ∧ (∀ i t j, gItem s n i = .ok t j → LOk t) ∧
    (∀ i x j, gItems s n i = .ok x j → ∀ u, u ∈ x.1 → LOk u) ∧ (∀ i x j, gRows s n i = .ok x j → ∀ u, u ∈ x.1 → LOk u)
  | 0 => ⟨fun i t j h => (by rw [gPiece] at h; cases h), fun i l j h => (by rw [gItem] at h; cases h), fun i l j h => (by rw [gItems] at h; cases h), fun i l j h => (by rw [gRows] at h; cases h)⟩
  | n + 1 => by
    obtain ⟨k1, k2, k3, k4⟩ := gL_ok s hs n
    refine ⟨fun i t j h => ?_, fun i t j h => ?_, fun i t j h => ?_, fun i t j h => ?_⟩
    · rw [gPiece] at h
      split at h
      · exact gPlain_ok hs h
      · split at h
        · split at h
          · cases hq : gRows s n (skipB s (i + 1) + 1) with
            | err p => rw [hq] at h; cases h
            | ok a j1 =>
              rw [hq] at h
              simp only [Res.bind] at h
              have h1 := k4 _ _ _ hq
              split at h
              · cases hq2 : gRows s n (j1 + 1) with
                | err p => rw [hq2] at h; cases h
                | ok b k =>
                  rw [hq2] at h
                  simp only at h
                  have h3 := k4 _ _ _ hq2
                  split at h
                  · cases h
                    refine LOk.of trivial (fun u hu => ?_)
                    rw [parts] at hu
                    rcases List.mem_cons.1 hu with rfl | hu
                    · exact LOk.joinAlt _ h1
                    · rw [List.mem_singleton] at hu
                      subst hu
                      exact LOk.joinAlt _ h3
                  · cases h
              · cases h
          · cases h
        · split at h
          · cases hq : gRows s n (i + 1) with
            | err p => rw [hq] at h; cases h
            | ok a j1 =>
              rw [hq] at h
              simp only [Res.bind] at h
              have h1 := k4 _ _ _ hq
              split at h
              · cases h
                refine LOk.of trivial (fun u hu => ?_)
                rw [parts, List.mem_singleton] at hu
                subst hu
                exact LOk.joinAlt _ h1
              · cases h
          · cases h
    · rw [gItem] at h
      cases hq : gPiece s n i with
      | err p => rw [hq] at h; cases h
      | ok a j1 =>
        rw [hq] at h
        simp only [Res.bind] at h
        have h1 := k1 _ _ _ hq
        split at h
        · cases h
          refine LOk.of trivial (fun u hu => ?_)
          rw [parts, List.mem_singleton] at hu
          subst hu
          exact h1
        · cases h
          exact h1
    · rw [gItems] at h
      cases hq : gItem s n i with
      | err p => rw [hq] at h; cases h
      | ok a j1 =>
        rw [hq] at h
        simp only [Res.bind] at h
        have h1 := k2 _ _ _ hq
        split at h
        · cases hq2 : gItems s n j1 with
          | err p => rw [hq2] at h; cases h
          | ok b k =>
            rw [hq2] at h
            have h3 := k3 _ _ _ hq2
            cases h
            intro u hu
            rcases List.mem_cons.1 hu with rfl | hu
            · exact h1
            · exact h3 u hu
        · cases h
          intro u hu
          rw [List.mem_singleton] at hu
          subst hu
          exact h1
    · rw [gRows] at h
      cases hq : gItems s n (skipB s i) with
      | err p => rw [hq] at h; cases h
      | ok a j1 =>
        rw [hq] at h
        simp only [Res.bind] at h
        have h1 := k3 _ _ _ hq
        split at h
        · cases hq2 : gRows s n (j1 + 1) with
          | err p => rw [hq2] at h; cases h
          | ok b k =>
            rw [hq2] at h
            have h3 := k4 _ _ _ hq2
            cases h
            intro u hu
            rcases List.mem_cons.1 hu with rfl | hu
            · exact LOk.joinRow _ h1
            · exact h3 u hu
        · cases h
          intro u hu
          rw [List.mem_singleton] at hu
          subst hu
          exact LOk.joinRow _ h1

end Go.Proofs.YtlljggefbngkeaaGreatDoor

namespace Go.Proofs.YtlljggefbngkeaaGreatDoor
open Go.RowKit

/-- what is asked of laying a pattern: its tree lies in the memory of w0, which is kept -/
def LaySaid (w0 : World) (b : Nat) (t : PT) : Prop :=
  ∀ (w : World) (Y : Nat → Prop) (S : List MSt) (to st en p : Nat), TR w0 (fun _ => False) t p → (∀ k, k < w0.heap.size → Y k) → Below w0.heap.size w0 w → (∀ k, Y k → k < w.heap.size) → MH w Y b S st en → S.length + stSize t ≤ 50000 →
    Calls Tryz.prog 141 #[.pointer (some ⟨b, 0, none⟩), .pointer (some ⟨p, 0, none⟩), .int .i64 (to : Int)] w fun e w' => e = .returned (.int .i64 ((mLay t S to).2 : Int)) ∧ MH w' Y b (mLay t S to).1 st en ∧ Kp Y w w'

theorem below_cell {w0 w : World} (h : Below w0.heap.size w0 w) {p : Nat} {x : Obj} (hp : w0.heap[p]? = some x) : w.heap[p]? = some x := (h.block p (heap_lt hp)).trans hp

set_option maxRecDepth 100000 in
set_option maxHeartbeats 1600000 in
theorem mlay_chr {w0 : World} {b : Nat} (l : List UInt8) : LaySaid w0 b (.chr l) := by
  intro w Y S to st en p hT hY0 hB hY hM hlen
  rw [TR] at hT
  obtain ⟨_, n, hset, hp⟩ := hT
  rw [stSize] at hlen
  have hp1 := below_cell hB hp
  have hpl := heap_lt hp1
  have k0 : ∀ o o', ((w.alloc o).alloc o').cell? ⟨p, 0, none⟩ = some (.int .i64 0) := fun o o' => by rw [World.cell?_alloc_past _ _ _ (by simp; omega), World.cell?_alloc_past _ _ _ hpl, cellOf hp1 0]; rfl
  have k1 : ∀ o o', ((w.alloc o).alloc o').cell? ⟨p, 1, none⟩ = some (.int .u64 (n : Int)) := fun o o' => by rw [World.cell?_alloc_past _ _ _ (by simp; omega), World.cell?_alloc_past _ _ _ hpl, cellOf hp1 1]; rfl
  have HA := hide (MAdd ⟨l, to, []⟩ n (.slice none 0 0) hset ((hM.alloc (.cells #[.pointer (some ⟨b, 0, none⟩)] 120)).alloc (.cells #[.int .i64 (to : Int)] 3)).drew (by omega) (World.ownsRow_nil _ _ _ _) (fun k hk => by cases hk) (fun k hk => by have := hY k hk; simp; omega))
  rw [mLay]
  clear hp hp1 hM hset hB
  go_enter Tryz.func141, Tryz.ntmps141
  go_wp2_with fail
  go_region_law (go_simp; go_at_call 140; refine (unhide HA).mono ?_; rintro e w1 ⟨rfl, hM1, hK1⟩)
  all_goals
    go_wp2
    go_ret
    exact ⟨rfl, hM1, (((Kp.alloc Y w _).trans (Kp.alloc Y _ _)).trans (Kp.drew Y _)).trans hK1⟩

end Go.Proofs.YtlljggefbngkeaaGreatDoor

namespace Go.Proofs.YtlljggefbngkeaaGreatDoor
open Go.RowKit

theorem mAlt_snoc : ∀ (l : List PT) (t : PT) (S : List MSt) (to : Nat), mAlt (l ++ [t]) S to = ((mLay t (mAlt l S to).1 to).1, (mAlt l S to).2 ++ [(mLay t (mAlt l S to).1 to).2])
  | [], t, S, to => by rw [List.nil_append, mAlt, mAlt, mAlt]; simp
  | u :: l, t, S, to => by rw [List.cons_append, mAlt, mAlt_snoc l t, mAlt]; simp

theorem TRL.at {w : World} {Y : Nat → Prop} : ∀ {l : List PT} {gs : List Nat}, TRL w Y l gs → ∀ k, k < l.length → ∃ t g, l[k]? = some t ∧ gs[k]? = some g ∧ TR w Y t g
  | [], [], _, k, hk => absurd hk (Nat.not_lt_zero _)
  | t :: l, g :: gs, h, 0, _ => by rw [TRL] at h; exact ⟨t, g, rfl, rfl, h.1⟩
  | t :: l, g :: gs, h, k + 1, hk => by
    rw [TRL] at h
    obtain ⟨t', g', h1, h2, h3⟩ := TRL.at h.2 k (by simpa using hk)
    exact ⟨t', g', by simpa using h1, by simpa using h2, h3⟩
  | [], k :: ks, h, _, _ => by simp [TRL] at h
  | t :: l, [], h, _, _ => by simp [TRL] at h

theorem stSizeL_take : ∀ (l : List PT) (k : Nat), stSizeL (l.take k) ≤ stSizeL l
  | [], k => by simp
  | t :: l, 0 => by rw [List.take_zero, stSizeL]; omega
  | t :: l, k + 1 => by rw [List.take_succ_cons, stSizeL, stSizeL]; have := stSizeL_take l k; omega
theorem stSizeL_snoc : ∀ (l : List PT) (t : PT), stSizeL (l ++ [t]) = stSizeL l + stSize t
  | [], t => by rw [List.nil_append, stSizeL_one, stSizeL]; omega
  | u :: l, t => by rw [List.cons_append, stSizeL, stSizeL, stSizeL_snoc l t]; omega

theorem stSizeL_drop : ∀ (l : List PT) (k : Nat), stSizeL (l.drop k) ≤ stSizeL l
  | [], k => by simp
  | t :: l, 0 => by simp
  | t :: l, k + 1 => by rw [List.drop_succ_cons, stSizeL]; have := stSizeL_drop l k; omega


/-- the machine stands apart from what is new -/
theorem MH.far {w : World} {Y : Nat → Prop} {b : Nat} {S : List MSt} {st en : Nat} (h : MH w Y b S st en) : MH w (fun k => Y k ∨ w.heap.size ≤ k) b S st en := h.reY (fun k hk hz => hz.elim id (fun h => by omega))

/-- what lay keeps of its own: two boxes, and a row that is being made -/
def YL (Y : Nat → Prop) (w : World) (v : Value) (k : Nat) : Prop := Y k ∨ k = w.heap.size ∨ k = w.heap.size + 1 ∨ v.ownBlock = some k

def AltRel (w : World) (Y : Nat → Prop) (b : Nat) (S : List MSt) (to st en : Nat) (l : List PT) (gk : Nat) (fv iv : Value) (wv : World) : Prop :=
  ∃ k : Nat, iv = .int .i64 (k : Int) ∧ k ≤ l.length ∧ l.length - k < gk ∧ MH wv (YL Y w fv) b (mAlt (l.take k) S to).1 st en ∧ wv.ownsRow 0 3 1 fv k (nums (mAlt (l.take k) S to).2) ∧
    (∀ j, fv.ownBlock = some j → w.heap.size + 2 ≤ j) ∧ Kp Y w wv ∧ wv.heap[w.heap.size]? = some (.cells #[.pointer (some ⟨b, 0, none⟩)] 120 (0, 0)) ∧ wv.heap[w.heap.size + 1]? = some (.cells #[.int .i64 (to : Int)] 3 (0, 0))

set_option maxRecDepth 100000 in
set_option maxHeartbeats 3200000 in
theorem mlay_alt {w0 : World} {b : Nat} (l : List PT) (ih : ∀ t, t ∈ l → LaySaid w0 b t) : LaySaid w0 b (.alt l) := by
  intro w Y S to st en p hT hY0 hB hY hM hlen
  obtain ⟨i2, hi2, hy0, hy1, hy2⟩ := info_parts Tryz.infoInt
  rw [TR] at hT
  obtain ⟨_, v, gs, hp, hv, hTL⟩ := hT
  rw [stSize] at hlen
  have hgs := hTL.len
  have hmx := own_max hv.1
  obtain ⟨ao, cp, rfl⟩ := own_slice hv.1
  have hp1 := below_cell hB hp
  have hpl := heap_lt hp1
  have k0 : ∀ o o', ((w.alloc o).alloc o').cell? ⟨p, 0, none⟩ = some (.int .i64 2) := fun o o' => by rw [World.cell?_alloc_past _ _ _ (by simp; omega), World.cell?_alloc_past _ _ _ hpl, cellOf hp1 0]; rfl
  have k2 : ∀ o o', ((w.alloc o).alloc o').cell? ⟨p, 2, none⟩ = some (.slice ao gs.length cp) := fun o o' => by rw [World.cell?_alloc_past _ _ _ (by simp; omega), World.cell?_alloc_past _ _ _ hpl, cellOf hp1 2]; rfl
  have H0 : Hid (AltRel w Y b S to st en l (l.length + 1) (.slice none 0 0) (.int .i64 0) ((w.alloc (.cells #[.pointer (some ⟨b, 0, none⟩)] 120)).alloc (.cells #[.int .i64 (to : Int)] 3))) := by
    refine ⟨0, rfl, Nat.zero_le _, by omega, ?_, by rw [List.take_zero, mAlt]; exact World.ownsRow_nil _ _ _ _, (by intro j hj; cases hj), (Kp.alloc Y w _).trans (Kp.alloc Y _ _), heap_alloc_old _ (heap_alloc_new w _), alloc2_at w _ _⟩
    rw [List.take_zero, mAlt]
    refine MH.reY ((hM.far.alloc _).alloc _) (fun k _ hz => ?_)
    rcases hz with hz | hz | hz | hz
    · exact .inl hz
    · exact .inr (by omega)
    · exact .inr (by omega)
    · cases hz
  have HT := hide (And.intro hv (And.intro hTL (And.intro ih (And.intro hB (And.intro hY0 hgs)))))
  clear hp hp1 hM hB hv hTL ih hgs
  rw [mLay]
  go_enter Tryz.func141, Tryz.ntmps141
  go_wp2_with fail
  go_loopg [9, 49] (l.length + 1) (fun gk fv iv wv => AltRel w Y b S to st en l gk fv iv wv)
  case atStart => exact unhide H0
  case round =>
    clear H0
    obtain ⟨k, rfl, hk, hgk, hMk, hfv, hfn, hKk, hb1, hb2⟩ := hrel
    obtain ⟨aj, cj, rfl⟩ := own_slice hfv
    have hsz := mAlt_len (l.take k) S to
    have hst := stSizeL_take l k
    have e1 : wr.cell? ⟨w.heap.size, 0, none⟩ = some (.pointer (some ⟨b, 0, none⟩)) := by rw [cellOf hb1 0]; rfl
    have e2 : wr.cell? ⟨w.heap.size + 1, 0, none⟩ = some (.int .i64 (to : Int)) := by rw [cellOf hb2 0]; rfl
    have hKs := hKk.size
    have HI := hide (And.intro hMk (And.intro hfv (And.intro hfn (And.intro hKk (And.intro hb1 hb2)))))
    clear hMk hfv hKk hb1 hb2
    by_cases hlt : k < l.length
    · obtain ⟨hv, hTL, ih, hB, hY0, hgs⟩ := unhide HT
      have hd : (k : Int) < (gs.length : Int) := by omega
      have hkg : k < gs.length := by omega
      obtain ⟨vb, cap, hveq, _, hvl⟩ := hv.1.form (by omega)
      injection hveq with hao _ hcp
      subst hao
      subst hcp
      obtain ⟨t, gt, ht1, ht2, ht3⟩ := TRL.at hTL k hlt
      have hBr : Below w0.heap.size w0 wr := by
        have hKk := (unhide HI).2.2.2.1
        exact ⟨hKk.os.trans hB.os, hKk.tape.trans hB.tape, hKk.output.trans hB.output, Nat.le_trans hB.size hKk.size, fun j hj => (hKk.block j (Nat.lt_of_lt_of_le hj hB.size) (hY0 j hj)).trans (hB.block j hj)⟩
      have ck : wr.cell? ⟨vb, k, none⟩ = some (.pointer (some ⟨gt, 0, none⟩)) := by
        have h1 := hv.1.cellAt k (by omega)
        rw [World.cell?_of_block (w := w0) (w' := wr) (a := ⟨vb, k, none⟩) (hBr.block vb hvl), h1]
        simp [ptrs, ht2]
      have htake : l.take (k + 1) = l.take k ++ [t] := by rw [List.take_add_one, ht1]; rfl
      have hst1 := stSizeL_take l (k + 1)
      rw [htake, stSizeL_snoc] at hst1
      have hYlt : ∀ j, YL Y w (.slice aj k cj) j → j < wr.heap.size := by
        intro j hj
        rcases hj with hj | hj | hj | hj
        · have := hY j hj; omega
        · have := heap_lt (unhide HI).2.2.2.2.1; omega
        · have := heap_lt (unhide HI).2.2.2.2.2; omega
        · exact own_lt (unhide HI).2.1 j hj
      have HC := hide (ih t (List.mem_of_getElem? ht1) wr (YL Y w (.slice aj k cj)) (mAlt (l.take k) S to).1 to st en gt ht3 (fun j hj => .inl (hY0 j hj)) hBr hYlt (unhide HI).1 (by omega))
      have Ht := hide (And.intro htake (And.intro hgs hYlt))
      clear hv hTL ih hB hY0 ht1 ht2 ht3 htake hBr hgs hYlt
      go_wp2_with fail
      refine (unhide HC).mono ?_
      rintro e w3 ⟨rfl, hM3, hK3⟩
      have hown3 : w3.ownsRow 0 3 1 (.slice aj k cj) k (nums (mAlt (l.take k) S to).2) := own_same (unhide HI).2.1 (fun j e => hK3.block j (own_lt (unhide HI).2.1 j e) (.inr (.inr (.inr e))))
      have H3 := hide (And.intro hM3 hK3)
      have hlen3 : k ≤ 50000 := by have := stSizeL_len l; omega
      clear hM3 hK3 HC
      go_wp2_with (at_builtin; refine wpList_append_lies _ rfl (.tmp 53) (.tmp 58) 80 rfl 0 3 i2 _ 1 8 Tryz.underlying80 hi2 hy0 hy1 hy2 rfl (by decide) (.slice aj k cj) k (nums (mAlt (l.take k) S to).2) rfl (hown3.alloc _) ⟨w3.heap.size, 0, none⟩ 1 1 [.int .i64 ((mLay t (mAlt (l.take k) S to).1 to).2 : Int)] rfl rfl (World.news_of_block (cs := #[.int .i64 ((mLay t (mAlt (l.take k) S to).1 to).2 : Int)]) (heap_alloc_new w3 _)) (by simp [Value.oneCell']) (by omega) (by unfold maxLen; omega) (by omega) (by omega) (w3.heap.size + 1) (by simp) ?_)
      intro g5 cap5 w5 hown5 hgrow5 hat5 hlt5
      go_wp2_with fail
      go_roundg (l.length - k)
      case measure => exact hgk
      case rel =>
        obtain ⟨hMk, hfv, hfn, hKk, hb1, hb2⟩ := unhide HI
        obtain ⟨hM3, hK3⟩ := unhide H3
        obtain ⟨htake, hgs, hYlt⟩ := unhide Ht
        have hob : ∀ j, (Value.slice (some ⟨g5, 0, none⟩) (k + 1) cap5).ownBlock = some j ↔ g5 = j := fun j => by simp [Value.ownBlock]
        have ha3 : ∀ o : Obj, (w3.alloc o).heap.size = w3.heap.size + 1 := fun o => by simp
        have hK3s := hK3.size
        have old : ∀ j, j < w3.heap.size → (Value.slice aj k cj).ownBlock ≠ some j → w5.heap[j]? = w3.heap[j]? := fun j hj hne => by
          rw [hgrow5.block j (by rw [ha3]; omega) (Ne.symm hne)]
          exact Below.heap_alloc _ _ _ hj
        have hnew : g5 = w3.heap.size + 1 ∨ w.heap.size + 2 ≤ g5 ∧ YL Y w (.slice aj k cj) g5 := by
          rcases hat5 with h | h
          · exact .inr ⟨hfn g5 h, .inr (.inr (.inr h))⟩
          · exact .inl h
        have hfs : ∀ j, YL Y w (.slice aj k cj) j → j < w3.heap.size := fun j hj => Nat.lt_of_lt_of_le (hYlt j hj) hK3s
        have hb13 := (hK3.block _ (heap_lt hb1) (.inr (.inl rfl))).trans hb1
        have hb23 := (hK3.block _ (heap_lt hb2) (.inr (.inr (.inl rfl)))).trans hb2
        have hnb : ∀ j, j < w.heap.size + 2 → (Value.slice aj k cj).ownBlock ≠ some j := fun j hj e => by have := hfn j e; omega
        refine ⟨k + 1, by simp, by omega, by omega, ?_, ?_, ?_, ?_, (old _ (heap_lt hb13) (hnb _ (by omega))).trans hb13, (old _ (heap_lt hb23) (hnb _ (by omega))).trans hb23⟩
        · rw [htake, mAlt_snoc]
          have h1 : MH w5 (fun j => YL Y w (.slice aj k cj) j ∨ w3.heap.size ≤ j) b (mLay t (mAlt (l.take k) S to).1 to).1 st en :=
            MH.kept hM3.far (fun j hj hz => old j hj (fun e => hz (.inl (.inr (.inr (.inr e))))))
          refine MH.reY h1 (fun j _ hz => ?_)
          rcases hz with hz | hz | hz | hz
          · exact .inl (.inl hz)
          · exact .inl (.inr (.inl hz))
          · exact .inl (.inr (.inr (.inl hz)))
          · have := (hob j).1 hz
            subst this
            rcases hnew with h | h
            · exact .inr (by omega)
            · exact .inl h.2
        · rw [htake, mAlt_snoc]
          simpa [nums] using hown5
        · intro j hj
          have := (hob j).1 hj
          subst this
          rcases hnew with h | h
          · have := heap_lt hb23; omega
          · exact h.1
        · refine ((hKk.trans (Kp.mono hK3 (fun j _ hj => .inl hj))).trans (Kp.alloc Y w3 _)).trans (Kp.of_grown hgrow5 (fun j e hy => ?_))
          have := hfn j e
          have := hY j hy
          omega
    · have hd : decide ((k : Int) < (gs.length : Int)) = false := by have := (unhide HT).2.2.2.2.2; simp; omega
      have hd2 : ¬ (k : Int) < (gs.length : Int) := by have := (unhide HT).2.2.2.2.2; omega
      have hke : l.take k = l := List.take_of_length_le (by omega)
      rw [hke] at HI
      obtain ⟨hMk, hfv, hfn, hKk, hb1, hb2⟩ := unhide HI
      have hlen2 : (mAlt l S to).2.length = k := by have := hfv.1; simp [nums] at this; exact this
      have hML := mAlt_len l S to
      have hYs : ∀ j, Y j → j < wr.heap.size := fun j hj => by have := hY j hj; omega
      have HA := hide (MAdd ⟨[], 0, (mAlt l S to).2⟩ 0 (.slice aj k cj) setRep_nil (hMk.reY (fun j _ hj => .inl hj)) (by omega) (by rw [hlen2]; exact hfv) (fun j hj hy => by have := hfn j hj; have := hY j hy; omega) hYs)
      have HK := hide hKk
      clear hMk hfv hKk hb1 hb2 HI hlen2
      go_wp2_with fail
      refine (unhide HA).mono ?_
      rintro e w3 ⟨rfl, hM3, hK3⟩
      go_wp2
      go_ret
      exact ⟨rfl, hM3, (unhide HK).trans hK3⟩

end Go.Proofs.YtlljggefbngkeaaGreatDoor

namespace Go.Proofs.YtlljggefbngkeaaGreatDoor
open Go.RowKit

set_option maxRecDepth 100000 in
set_option maxHeartbeats 3200000 in
theorem mlay_maybe {w0 : World} {b : Nat} (t : PT) (ih : LaySaid w0 b t) : LaySaid w0 b (.rep 63 t) := by
  intro w Y S to st en p hT hY0 hB hY hM hlen
  rw [TR] at hT
  obtain ⟨_, v, gt, hp, hv, hTt⟩ := hT
  rw [stSize] at hlen
  obtain ⟨vb, cap, rfl, _, hvl⟩ := hv.1.form (by simp)
  have cv := hv.1.cellAt 0 (by simp)
  simp [ptrs] at cv
  have hp1 := below_cell hB hp
  have hpl := heap_lt hp1
  have hvl1 : vb < w.heap.size := Nat.lt_of_lt_of_le hvl hB.size
  have cv1 : w.cell? ⟨vb, 0, none⟩ = some (.pointer (some ⟨gt, 0, none⟩)) := by rw [World.cell?_of_block (w := w0) (w' := w) (a := ⟨vb, 0, none⟩) (hB.block vb hvl)]; exact cv
  have k0 : ∀ o o', ((w.alloc o).alloc o').cell? ⟨p, 0, none⟩ = some (.int .i64 5) := fun o o' => by rw [World.cell?_alloc_past _ _ _ (by simp; omega), World.cell?_alloc_past _ _ _ hpl, cellOf hp1 0]; rfl
  have k2 : ∀ o o', ((w.alloc o).alloc o').cell? ⟨p, 2, none⟩ = some (.slice (some ⟨vb, 0, none⟩) 1 cap) := fun o o' => by rw [World.cell?_alloc_past _ _ _ (by simp; omega), World.cell?_alloc_past _ _ _ hpl, cellOf hp1 2]; rfl
  have k3 : ∀ o o', ((w.alloc o).alloc o').cell? ⟨vb, 0, none⟩ = some (.pointer (some ⟨gt, 0, none⟩)) := fun o o' => by rw [World.cell?_alloc_past _ _ _ (by simp; omega), World.cell?_alloc_past _ _ _ hvl1]; exact cv1
  have hpY : Y p := hY0 p (heap_lt hp)
  have hvY : Y vb := hY0 vb hvl
  have hb1 : ((w.alloc (.cells #[.pointer (some ⟨b, 0, none⟩)] 120)).alloc (.cells #[.int .i64 (to : Int)] 3)).heap[w.heap.size]? = some (.cells #[.pointer (some ⟨b, 0, none⟩)] 120 (0, 0)) := heap_alloc_old _ (heap_alloc_new w _)
  have hb2 : ((w.alloc (.cells #[.pointer (some ⟨b, 0, none⟩)] 120)).alloc (.cells #[.int .i64 (to : Int)] 3)).heap[w.heap.size + 1]? = some (.cells #[.int .i64 (to : Int)] 3 (0, 0)) := alloc2_at w _ _
  have hM1 : MH ((w.alloc (.cells #[.pointer (some ⟨b, 0, none⟩)] 120)).alloc (.cells #[.int .i64 (to : Int)] 3)).drew (YL Y w (.slice none 0 0)) b S st en := by
    refine MH.reY ((hM.far.alloc _).alloc _).drew (fun k _ hz => ?_)
    rcases hz with hz | hz | hz | hz
    · exact .inl hz
    · exact .inr (by omega)
    · exact .inr (by omega)
    · cases hz
  have hB1 : Below w0.heap.size w0 ((w.alloc (.cells #[.pointer (some ⟨b, 0, none⟩)] 120)).alloc (.cells #[.int .i64 (to : Int)] 3)).drew := hB.trans (((Below.refl _ w).alloc hB.size _).alloc (by have := hB.size; simp; omega) _).drew
  have hYlt : ∀ k, YL Y w (.slice none 0 0) k → k < ((w.alloc (.cells #[.pointer (some ⟨b, 0, none⟩)] 120)).alloc (.cells #[.int .i64 (to : Int)] 3)).drew.heap.size := by
    intro k hk
    rcases hk with hk | hk | hk | hk
    · have := hY k hk; simp; omega
    · simp; omega
    · simp; omega
    · cases hk
  have HC := hide (ih _ (YL Y w (.slice none 0 0)) S to st en gt hTt (fun j hj => .inl (hY0 j hj)) hB1 hYlt hM1 (by omega))
  have HB := hide (And.intro hb1 (And.intro hb2 hYlt))
  have hML := mLay_len t S to
  have HK0 : Hid (Kp Y w ((w.alloc (.cells #[.pointer (some ⟨b, 0, none⟩)] 120)).alloc (.cells #[.int .i64 (to : Int)] 3)).drew) := ((Kp.alloc Y w _).trans (Kp.alloc Y _ _)).trans (Kp.drew Y _)
  have Hc := hide (And.intro (k2 (.cells #[.pointer (some ⟨b, 0, none⟩)] 120) (.cells #[.int .i64 (to : Int)] 3)) (k3 (.cells #[.pointer (some ⟨b, 0, none⟩)] 120) (.cells #[.int .i64 (to : Int)] 3)))
  have HA := hide (fun (w3 : World) (hM3 : MH w3 (YL Y w (.slice none 0 0)) b (mLay t S to).1 st en) (hs3 : ∀ k, YL Y w (.slice none 0 0) k → k < w3.heap.size) =>
    MAdd ⟨[], 0, [to, (mLay t S to).2]⟩ 0 (.slice (some ⟨w3.heap.size, 0, none⟩) 2 2) setRep_nil (hM3.alloc (.cells #[.int .i64 (to : Int), .int .i64 ((mLay t S to).2 : Int)] 3)) (by omega) (World.ownsRow_lit (base := 0) (e := 3) (size := 1) w3 #[.int .i64 (to : Int), .int .i64 ((mLay t S to).2 : Int)] 2 (by omega) (by unfold maxLen; omega) rfl) (fun k hk hy => by simp [Value.ownBlock] at hk; have := hs3 k hy; omega) (fun k hk => by have := hs3 k hk; simp; omega))
  rw [mLay, if_neg (by decide)]
  clear hp hp1 hM hB hv hTt ih hb1 hb2 hM1 hB1 hYlt cv cv1
  go_enter Tryz.func141, Tryz.ntmps141
  go_wp2_with fail
  have s1 : ((w.alloc (.cells #[.pointer (some ⟨b, 0, none⟩)] 120)).alloc (.cells #[.int .i64 (to : Int)] 3)).cell? ⟨w.heap.size, 0, none⟩ = some (.pointer (some ⟨b, 0, none⟩)) := by rw [cellOf (unhide HB).1 0]; rfl
  have s2 : ((w.alloc (.cells #[.pointer (some ⟨b, 0, none⟩)] 120)).alloc (.cells #[.int .i64 (to : Int)] 3)).cell? ⟨w.heap.size + 1, 0, none⟩ = some (.int .i64 (to : Int)) := by rw [cellOf (unhide HB).2.1 0]; rfl
  have HS : Hid (∀ w3, Kp (YL Y w (.slice none 0 0)) ((w.alloc (.cells #[.pointer (some ⟨b, 0, none⟩)] 120)).alloc (.cells #[.int .i64 (to : Int)] 3)).drew w3 → w3.cell? ⟨w.heap.size, 0, none⟩ = some (.pointer (some ⟨b, 0, none⟩)) ∧ w3.cell? ⟨w.heap.size + 1, 0, none⟩ = some (.int .i64 (to : Int)) ∧ w3.cell? ⟨p, 2, none⟩ = some (.slice (some ⟨vb, 0, none⟩) 1 cap) ∧ w3.cell? ⟨vb, 0, none⟩ = some (.pointer (some ⟨gt, 0, none⟩))) := by
    intro w3 hK
    refine ⟨?_, ?_, ?_, ?_⟩
    · rw [World.cell?_of_block (a := ⟨w.heap.size, 0, none⟩) (hK.block w.heap.size (by simp; omega) (.inr (.inl rfl)))]; exact s1
    · rw [World.cell?_of_block (a := ⟨w.heap.size + 1, 0, none⟩) (hK.block (w.heap.size + 1) (by simp) (.inr (.inr (.inl rfl))))]; exact s2
    · rw [World.cell?_of_block (a := ⟨p, 2, none⟩) (hK.block p (by simp; omega) (.inl hpY))]; exact (unhide Hc).1
    · rw [World.cell?_of_block (a := ⟨vb, 0, none⟩) (hK.block vb (by simp; omega) (.inl hvY))]; exact (unhide Hc).2
  go_region_held3 (fun w' => w'.cell? ⟨w.heap.size, 0, none⟩ = some (.pointer (some ⟨b, 0, none⟩)) ∧ w'.cell? ⟨w.heap.size + 1, 0, none⟩ = some (.int .i64 (to : Int)) ∧ w'.cell? ⟨p, 2, none⟩ = some (.slice (some ⟨vb, 0, none⟩) 1 cap) ∧ w'.cell? ⟨vb, 0, none⟩ = some (.pointer (some ⟨gt, 0, none⟩))) (go_keep) (first
    | (go_at_call 141; refine (unhide HC).mono ?_; rintro e w3 ⟨rfl, hM3, hK3⟩; have hz3 : ∀ k, YL Y w (.slice none 0 0) k → k < w3.heap.size := (fun k hk => Nat.lt_of_lt_of_le ((unhide HB).2.2 k hk) hK3.size); obtain ⟨t1, t2, t3, t4⟩ := unhide HS w3 hK3; have a1 := (fun o => (World.cell?_alloc_past (w := w3) o (w.heap.size) 0 (hz3 _ (.inr (.inl rfl)))).trans t1); have a2 := (fun o => (World.cell?_alloc_past (w := w3) o (w.heap.size + 1) 0 (hz3 _ (.inr (.inr (.inl rfl))))).trans t2); have a3 := (fun o => (World.cell?_alloc_past (w := w3) o (p) 2 (hz3 _ (.inl hpY))).trans t3); have a4 := (fun o => (World.cell?_alloc_past (w := w3) o (vb) 0 (hz3 _ (.inl hvY))).trans t4); have HA3 := hide (unhide HA w3 hM3 hz3); have HK3 := hide hK3; clear hM3 hK3)
    | (go_at_call 140; refine (unhide HA3).mono ?_; rintro e w4 ⟨rfl, hM4, hK4⟩; obtain ⟨u1, u2, u3, u4⟩ := unhide HS w4 (((unhide HK3).trans (Kp.alloc _ w3 _)).trans hK4)))
  all_goals
    go_wp2
    go_ret
    exact ⟨rfl, hM4.reY (fun k _ hk => .inl hk), (unhide HK0).trans (Kp.mono (((unhide HK3).trans (Kp.alloc _ w3 _)).trans hK4) (fun k _ hk => .inl hk))⟩

end Go.Proofs.YtlljggefbngkeaaGreatDoor
