import Derived.Test.YtlljggefbngkeaaGreatDoorU41
import Derived.Test.YtlljggefbngkeaaGreatDoorU27
import Derived.Deep.AppendLies
import Derived.BigQuiet
import Derived.Test.YtlljggefbngkeaaGreatDoorU32
namespace Go.Proofs.YtlljggefbngkeaaGreatDoor
open Go.RowKit

mutual
/-- the texts that a lens has on a side (false: its sources, true: its views), as the program makes them -/
def sideT (v : Bool) : LT → PT
  | .same l _ _ => nf (.alt l)
  | .fixed l _ _ vw _ _ => if v then pSeq (vw.map fun c => .chr [c]) else nf (.alt l)
  | .swap _ a b => pSeq (if v then [sideT v b, sideT v a] else [sideT v a, sideT v b])
  | .group a => sideT v a
  | .many _ a => .rep 42 (sideT v a)
  | .row l _ => pSeq (sideTL v l)
  | .choice l _ => pAlt (sideTL v l)
def sideTL (v : Bool) : List LT → List PT
  | [] => []
  | t :: l => sideT v t :: sideTL v l
end

theorem sideTL_snoc (v : Bool) : ∀ (l : List LT) (t : LT), sideTL v (l ++ [t]) = sideTL v l ++ [sideT v t]
  | [], t => by rw [List.nil_append, sideTL, sideTL, sideTL]; rfl
  | u :: l, t => by rw [List.cons_append, sideTL, sideTL, sideTL_snoc v l t]; rfl
theorem sideTL_len (v : Bool) : ∀ l : List LT, (sideTL v l).length = l.length
  | [] => by rw [sideTL]; rfl
  | t :: l => by rw [sideTL, List.length_cons, List.length_cons, sideTL_len v l]

/-- the texts of the parts, in the order in which a text of that side has them -/
def sideP (v : Bool) (t : LT) : List PT := match t with
  | .swap _ a b => if v then [sideT v b, sideT v a] else [sideT v a, sideT v b]
  | t => sideTL v (parts t)

set_option maxRecDepth 100000 in
set_option maxHeartbeats 800000 in
theorem pmany {w : World} {Y : Nat → Prop} {t : PT} {g : Nat} (hT : TR w Y t g) (hY : ∀ k, Y k → k < w.heap.size) :
    Calls Tryz.prog 139 #[.pointer (some ⟨g, 0, none⟩)] w fun e w' => JPost w Y (.rep 42 t) e w' := by
  have HF : Hid (JPost w Y (.rep 42 t) (.returned (.pointer (some ⟨w.heap.size + 1, 0, none⟩))) ((w.alloc (.cells #[.pointer (some ⟨g, 0, none⟩)] 116)).alloc (pblk 3 0 (.slice (some ⟨w.heap.size, 0, none⟩) 1 1)))) := by
    refine ⟨w.heap.size + 1, rfl, (World.grownBy_alloc _ _ _).trans (World.grownBy_alloc _ _ _), ?_⟩
    rw [TR]
    refine ⟨fun hy => by have := hY _ hy; omega, .slice (some ⟨w.heap.size, 0, none⟩) 1 1, g, alloc2_at w _ _, ⟨?_, fun k e hy => ?_⟩, ?_⟩
    · exact (World.ownsRow_lit (base := 0) (e := 116) (size := 1) w #[.pointer (some ⟨g, 0, none⟩)] 1 (by omega) (by unfold maxLen; omega) rfl).alloc _
    · have := hY k hy
      simp [Value.ownBlock] at e
      omega
    · refine TR.kept (fun k hk hy => ?_) hT
      rw [Below.heap_alloc _ _ _ (by simp; omega), Below.heap_alloc _ _ _ (by omega)]
  clear hT hY
  go_enter Tryz.func139, Tryz.ntmps139
  go_wp2
  go_ret
  exact unhide HF

/-- a row of patterns that is being made -/
structure RowP (w : World) (Y : Nat → Prop) (A : World) (v : Value) (gs : List Nat) (ts : List PT) : Prop where
  own : A.ownsRow 0 116 1 v gs.length (ptrs gs)
  nil : gs = [] → v = .slice none 0 0
  far : ∀ k, v.ownBlock = some k → w.heap.size ≤ k
  trl : TRL A (fun k => Y k ∨ v.ownBlock = some k) ts gs
  gr : w.grownBy A none

theorem RowP.start (w : World) (Y : Nat → Prop) : RowP w Y w (.slice none 0 0) [] [] where
  own := World.ownsRow_nil _ _ _ _
  nil := fun _ => rfl
  far := fun k hk => by cases hk
  trl := by rw [TRL]; trivial
  gr := World.grownBy.refl _ _

theorem TRL.snoc {w : World} {Y : Nat → Prop} : ∀ {l : List PT} {gs : List Nat} {t : PT} {g : Nat}, TRL w Y l gs → TR w Y t g → TRL w Y (l ++ [t]) (gs ++ [g])
  | [], [], t, g, _, h => by rw [List.nil_append, List.nil_append, TRL]; exact ⟨h, by rw [TRL]; trivial⟩
  | u :: l, k :: gs, t, g, h', h => by rw [TRL] at h'; rw [List.cons_append, List.cons_append, TRL]; exact ⟨h'.1, TRL.snoc h'.2 h⟩
  | [], k :: ks, _, _, h', _ => by simp [TRL] at h'
  | u :: l, [], _, _, h', _ => by simp [TRL] at h'

/-- one more -/
theorem RowP.push {w : World} {Y : Nat → Prop} {A w3 w5 : World} {ao : Option Addr} {cp g5 cap5 g : Nat} {gs : List Nat} {ts : List PT} {t : PT} {o : Obj} (h : RowP w Y A (.slice ao gs.length cp) gs ts) (hg3 : A.grownBy w3 none) (hT : TR w3 (fun k => Y k ∨ (Value.slice ao gs.length cp).ownBlock = some k) t g)
    (hown5 : w5.ownsRow 0 116 1 (.slice (some ⟨g5, 0, none⟩) (gs.length + 1) cap5) (gs.length + 1) (ptrs gs ++ [.pointer (some ⟨g, 0, none⟩)])) (hgrow5 : (w3.alloc o).grownBy w5 (Value.slice ao gs.length cp).ownBlock) (hat5 : (Value.slice ao gs.length cp).ownBlock = some g5 ∨ g5 = w3.heap.size + 1) :
    RowP w Y w5 (.slice (some ⟨g5, 0, none⟩) (gs.length + 1) cap5) (gs ++ [g]) (ts ++ [t]) := by
  have hs3 := hg3.size
  have hsA := h.gr.size
  have old : ∀ k, k < w3.heap.size → ¬ ((Y k ∨ (Value.slice ao gs.length cp).ownBlock = some k) ∨ w3.heap.size ≤ k) → w5.heap[k]? = w3.heap[k]? := fun k hk hn => by
    rw [hgrow5.block k (by simp; omega) (fun e => hn (.inl (.inr e.symm)))]
    exact Below.heap_alloc _ _ _ hk
  have up : ∀ k, k < w3.heap.size → ((Y k ∨ (Value.slice ao gs.length cp).ownBlock = some k) ∨ w3.heap.size ≤ k) → (Y k ∨ (Value.slice ao gs.length cp).ownBlock = some k) := fun k hk hz => hz.resolve_right (by omega)
  have dn : ∀ k, k < w5.heap.size → (Y k ∨ (Value.slice (some ⟨g5, 0, none⟩) (gs.length + 1) cap5).ownBlock = some k) → ((Y k ∨ (Value.slice ao gs.length cp).ownBlock = some k) ∨ w3.heap.size ≤ k) := fun k _ hz => by
    rcases hz with hz | hz
    · exact .inl (.inl hz)
    · simp only [Value.ownBlock, Option.some.injEq] at hz
      subst hz
      rcases hat5 with h1 | h1
      · exact .inl (.inr h1)
      · exact .inr (by omega)
  have h3 : TRL w3 (fun k => Y k ∨ (Value.slice ao gs.length cp).ownBlock = some k) ts gs := TRL.kept (fun k hk _ => hg3.block k hk (by simp)) h.trl
  exact {
    own := by simpa [ptrs] using hown5
    nil := fun e => by simp at e
    far := fun k hk => by
      simp only [Value.ownBlock, Option.some.injEq] at hk
      subst hk
      rcases hat5 with h1 | h1
      · exact h.far _ h1
      · omega
    trl := TRL.snoc (TRL.reY dn (TRL.kept old (TRL.reY up h3))) (TR.reY dn (TR.kept old (TR.reY up hT)))
    gr := by
      refine ⟨hgrow5.os.trans (hg3.os.trans h.gr.os), hgrow5.tape.trans (hg3.tape.trans h.gr.tape), hgrow5.output.trans (hg3.output.trans h.gr.output), by have := hgrow5.size; simp at this; omega, fun k hk hn => ?_⟩
      rw [hgrow5.block k (by simp; omega) (fun e => by have := h.far k e.symm; omega), Below.heap_alloc _ _ _ (by omega), hg3.block k (by omega) (by simp)]
      exact h.gr.block k hk hn }

set_option maxRecDepth 100000 in
set_option maxHeartbeats 1600000 in
/-- Text(): the signs, one behind the other -/
theorem ptext {w : World} {Y : Nat → Prop} {l : List UInt8} (hl : ∀ c, c ∈ l → signI (c.toNat : Int) = true) (hn : l.length ≤ 1000) (hY : ∀ k, Y k → k < w.heap.size) :
    Calls Tryz.prog 138 #[.string (txt l)] w fun e w' => JPost w Y (pSeq (l.map fun c => .chr [c])) e w' := by
  obtain ⟨i1, hi1, hz0, hz1, hz2⟩ := info_parts Tryz.infoPtr
  have hts : (txt l).size = l.length := txt_size l
  have H0 := hide (RowP.start w Y)
  go_enter Tryz.func138, Tryz.ntmps138
  go_wp2_with fail
  go_loopg [3, 7] (l.length + 1) (fun gk v3 v7 wv => ∃ (k : Nat) (gs : List Nat), v7 = .int .i64 (k : Int) ∧ k ≤ l.length ∧ l.length - k < gk ∧ gs.length = k ∧ RowP w Y wv v3 gs ((l.map fun c => PT.chr [c]).take k))
  case atStart => exact ⟨0, [], rfl, Nat.zero_le _, by omega, rfl, by rw [List.take_zero]; exact unhide H0⟩
  case round =>
    clear H0
    obtain ⟨k, gs, rfl, hk, hgk, hgl, hR⟩ := hrel
    obtain ⟨ao, cp, rfl⟩ := own_slice hR.own
    have Hgl := hide hgl
    by_cases hlt : k < l.length
    · have hd : (k : Int) < ((txt l).size : Int) := by rw [hts]; omega
      have hkt : k < (txt l).size := by rw [hts]; exact hlt
      have hel : (txt l)[k] = l[k] := rfl
      have hgs : gs.length ≤ 1000 := by omega
      have hsg := hl (l[k]) (List.getElem_mem hlt)
      have HS := hide (psign (l[k].toNat : Int) hsg wr)
      rw [← hel] at HS
      have hown := hR.own
      have HR := hide hR
      clear hR hgl hsg
      go_wp2_with fail
      refine (unhide HS).mono ?_
      rintro e w3 ⟨g, rfl, hg3, hT3⟩
      have hown3 := own_same hown (fun j e => hg3.block j (own_lt hown j e) (by simp))
      have H3 := hide (And.intro hg3 (And.intro hT3 hel))
      clear hg3 hT3 HS hown hel
      go_wp2_with (at_builtin; refine wpList_append_lies _ rfl (.tmp 10) (.tmp 15) 162 rfl 0 116 i1 _ 1 8 Tryz.underlying162 hi1 hz0 hz1 hz2 rfl (by decide) (.slice ao gs.length cp) gs.length (ptrs gs) rfl (hown3.alloc _) ⟨w3.heap.size, 0, none⟩ 1 1 [.pointer (some ⟨g, 0, none⟩)] rfl rfl (World.news_of_block (cs := #[.pointer (some ⟨g, 0, none⟩)]) (heap_alloc_new w3 _)) (by simp [Value.oneCell']) (by omega) (by unfold maxLen; omega) (by omega) (by omega) (w3.heap.size + 1) (by simp) ?_)
      intro g5 cap5 w5 hown5 hgrow5 hat5 hlt5
      have H5 := hide (And.intro hown5 (And.intro hgrow5 hat5))
      clear hown5 hgrow5 hat5 hlt5 hown3
      go_wp2_with fail
      go_roundg (l.length - k)
      case measure => exact hgk
      case rel =>
        obtain ⟨hown5, hgrow5, hat5⟩ := unhide H5
        obtain ⟨hg3, hT3, hel⟩ := unhide H3
        have hR := unhide HR
        refine ⟨k + 1, gs ++ [g], by simp, by omega, by omega, by simp [unhide Hgl], ?_⟩
        have hT : TR w3 (fun j => Y j ∨ (Value.slice ao gs.length cp).ownBlock = some j) (.chr [l[k]]) g := by
          rw [hel] at hT3
          have e : UInt8.ofNat ((l[k].toNat : Int)).toNat = l[k] := by simp
          rw [e] at hT3
          exact TR.reY (fun j hj hz => by
            rcases hz with hz | hz
            · have := hY j hz; have := hR.gr.size; omega
            · exact own_lt hR.own j hz) hT3
        have := hR.push hg3 hT hown5 hgrow5 hat5
        rw [List.take_add_one, List.getElem?_map, List.getElem?_eq_getElem hlt]
        exact this
    · have hke : k = l.length := by omega
      subst hke
      have hd : ¬ ((l.length : Int) < ((txt l).size : Int)) := by rw [hts]; omega
      rw [List.take_of_length_le (by simp)] at hR
      have HP := hide (prow hR.own hR.nil (by omega) (TRL.reY (fun j _ hz => .inl hz) hR.trl) (fun j hj => by have := hY j hj; have := hR.gr.size; omega))
      have HG := hide hR.gr
      clear hR hgl
      go_wp2_with fail
      refine (unhide HP).mono ?_
      rintro e w4 ⟨g, rfl, hg4, hT4⟩
      have H4 := hide (And.intro hg4 hT4)
      clear hg4 hT4
      go_wp2
      go_ret
      exact ⟨g, rfl, (unhide HG).trans (unhide H4).1, (unhide H4).2⟩

end Go.Proofs.YtlljggefbngkeaaGreatDoor

namespace Go.Proofs.YtlljggefbngkeaaGreatDoor
open Go.RowKit

/-- what the texts of a side ask of a lens -/
def vOk : LT → Prop
  | .fixed _ _ _ v _ _ => (∀ c, c ∈ v → signI (c.toNat : Int) = true) ∧ v.length ≤ 1000
  | t => (parts t).length ≤ 1000
def VOk (t : LT) : Prop := ∀ u, u ∈ subs t → vOk u
theorem VOk.part {t u : LT} (h : VOk t) (hu : u ∈ parts t) : VOk u := fun x hx => h x (by rw [subs_eq]; exact List.mem_cons_of_mem _ (subsL_mem _ u x hu hx))
theorem VOk.self {t : LT} (h : VOk t) : vOk t := h t (by rw [subs_eq]; exact List.mem_cons_self)
theorem VOk.len {t : LT} (h : VOk t) : (parts t).length ≤ 1000 := by
  have := h.self
  cases t <;> first | exact this | simp [parts]

def kindOf : LT → Int
  | .same _ _ _ => 0
  | .fixed _ _ _ _ _ _ => 1
  | .swap _ _ _ => 2
  | .group _ => 3
  | .many _ _ => 4
  | .row _ _ => 5
  | .choice _ _ => 6

theorem lr_node {s : ByteArray} {w : World} {Y : Nat → Prop} {t : LT} {g : Nat} (h : LR s w Y t g) : ¬ Y g ∧ ∃ pv jv pat wr vw df a gs, w.heap[g]? = some (lblk (kindOf t) pv jv pat wr vw df a) ∧ w.ownsRow 0 54 1 pv gs.length (ptrs gs) ∧ (∀ k, pv.ownBlock = some k → ¬ Y k) ∧ LRL s w Y (parts t) gs := by
  cases t with
  | same l i j => rw [LR] at h; obtain ⟨h0, p, h1, h2⟩ := h; exact ⟨h0, _, _, _, _, _, _, _, [], h1, World.ownsRow_nil _ _ _ _, fun k hk => (by cases hk), by rw [parts, LRL]; trivial⟩
  | fixed l i j v d a => rw [LR] at h; obtain ⟨h0, p, h1, h2⟩ := h; exact ⟨h0, _, _, _, _, _, _, _, [], h1, World.ownsRow_nil _ _ _ _, fun k hk => (by cases hk), by rw [parts, LRL]; trivial⟩
  | swap at_ a b => rw [LR] at h; obtain ⟨h0, v, jv, ga, gb, h1, h2, h3, h4, h5⟩ := h; exact ⟨h0, _, _, _, _, _, _, _, [ga, gb], h1, h2.1, h2.2, by rw [parts, LRL, LRL, LRL]; exact ⟨h4, h5, trivial⟩⟩
  | group a => rw [LR] at h; obtain ⟨h0, v, ga, h1, h2, h4⟩ := h; exact ⟨h0, _, _, _, _, _, _, _, [ga], h1, h2.1, h2.2, by rw [parts, LRL, LRL]; exact ⟨h4, trivial⟩⟩
  | many at_ a => rw [LR] at h; obtain ⟨h0, v, jv, ga, h1, h2, h3, h4⟩ := h; exact ⟨h0, _, _, _, _, _, _, _, [ga], h1, h2.1, h2.2, by rw [parts, LRL, LRL]; exact ⟨h4, trivial⟩⟩
  | row l ps => rw [LR] at h; obtain ⟨h0, v, jv, gs, h1, h2, h3, h4⟩ := h; exact ⟨h0, _, _, _, _, _, _, _, gs, h1, h2.1, h2.2, h4⟩
  | choice l ps => rw [LR] at h; obtain ⟨h0, v, jv, gs, h1, h2, h3, h4⟩ := h; exact ⟨h0, _, _, _, _, _, _, _, gs, h1, h2.1, h2.2, h4⟩

def sdV (v : Bool) : Int := if v then 1 else 0

def TextsSaid (s : ByteArray) (v : Bool) (t : LT) : Prop := ∀ (w : World) (Y : Nat → Prop) (g : Nat), LR s w Y t g → VOk t → (∀ k, Y k → k < w.heap.size) →
  Calls Tryz.prog 97 #[.int .i64 (sdV v), .pointer (some ⟨g, 0, none⟩)] w fun e w' => JPost w Y (sideT v t) e w'

def PartsPost (w : World) (Y : Nat → Prop) (v : Bool) (t : LT) (e : Ending) (w' : World) : Prop := ∃ v' gs, e = .returned v' ∧ RowP w Y w' v' gs (sideP v t)

theorem lrl_at {s : ByteArray} {w : World} {Y : Nat → Prop} : ∀ {l : List LT} {gs : List Nat}, LRL s w Y l gs → gs.length = l.length ∧ ∀ (k : Nat) (t : LT) (g : Nat), l[k]? = some t → gs[k]? = some g → LR s w Y t g
  | [], [], _ => ⟨rfl, fun k t g h => by simp at h⟩
  | t :: l, g :: gs, h => by
    rw [LRL] at h
    obtain ⟨q1, q2⟩ := lrl_at h.2
    refine ⟨by simp [q1], fun k u x hu hx => ?_⟩
    cases k with
    | zero => simp at hu hx; subst hu hx; exact h.1
    | succ k => exact q2 k u x (by simpa using hu) (by simpa using hx)
  | [], k :: ks, h => by simp [LRL] at h
  | t :: l, [], h => by simp [LRL] at h

theorem RowP.turn {w : World} {Y : Nat → Prop} {A w6 : World} {ao : Option Addr} {cp : Nat} {gs : List Nat} {t : LT} (h : RowP w Y A (.slice ao gs.length cp) gs (sideTL true (parts t))) (h2 : kindOf t = 2) (hown : w6.ownsRow 0 116 1 (.slice ao gs.length cp) gs.length (ptrs gs.reverse)) (hg : A.grownBy w6 (Value.slice ao gs.length cp).ownBlock) :
    RowP w Y w6 (.slice ao gs.length cp) gs.reverse (sideP true t) := by
  cases t with
  | swap at_ a b =>
    have hT := h.trl
    rw [show sideTL true (parts (.swap at_ a b)) = [sideT true a, sideT true b] by simp [parts, sideTL]] at hT
    match gs, hT with
    | [x, y], hT =>
      simp only [TRL] at hT
      refine ⟨by simpa using hown, fun e => by simp at e, h.far, ?_, ?_⟩
      · show TRL w6 _ [sideT true b, sideT true a] [y, x]
        have key : ∀ k, k < A.heap.size → ¬ (Y k ∨ (Value.slice ao [x, y].length cp).ownBlock = some k) → w6.heap[k]? = A.heap[k]? := fun k hk hn => hg.block k hk (fun e => hn (.inr e.symm))
        simp only [TRL]
        exact ⟨TR.kept key hT.2.1, TR.kept key hT.1, trivial⟩
      · exact ⟨hg.os.trans h.gr.os, hg.tape.trans h.gr.tape, hg.output.trans h.gr.output, Nat.le_trans h.gr.size hg.size, fun k hk hn => (hg.block k (Nat.lt_of_lt_of_le hk h.gr.size) (fun e => by have := h.far k e.symm; omega)).trans (h.gr.block k hk hn)⟩
    | [], hT => simp [TRL] at hT
    | [x], hT => simp [TRL] at hT
    | x :: y :: z :: r, hT => simp [TRL] at hT
  | _ => simp [kindOf] at h2

set_option maxRecDepth 100000 in
set_option maxHeartbeats 3200000 in
theorem sparts {s : ByteArray} {v : Bool} {t : LT} (ih : ∀ u, u ∈ parts t → TextsSaid s v u) {w : World} {Y : Nat → Prop} {g : Nat} (hL : LR s w Y t g) (hO : VOk t) (hY : ∀ k, Y k → k < w.heap.size) :
    Calls Tryz.prog 106 #[.int .i64 (sdV v), .pointer (some ⟨g, 0, none⟩)] w fun e w' => PartsPost w Y v t e w' := by
  obtain ⟨i1, hi1, hz0, hz1, hz2⟩ := info_parts Tryz.infoPtr
  obtain ⟨hng, pv, jv, pat, wr0, vw, df, a, gs0, hb, hpo, hpn, hLL⟩ := lr_node hL
  obtain ⟨ao0, cp0, rfl⟩ := own_slice hpo
  obtain ⟨hlen, hat⟩ := lrl_at hLL
  have c1 : w.cell? ⟨g, 1, none⟩ = some (.slice ao0 gs0.length cp0) := by rw [cellOf hb 1]; rfl
  have H0 := hide (RowP.start w Y)
  have HE := hide (And.intro hb (And.intro hpo (And.intro hpn (And.intro hlen (And.intro hat (And.intro ih hO))))))
  have hg0 : gs0.length ≤ 1000 := by have := hO.len; omega
  clear hL hb hpo hpn hLL hlen hat ih hO
  go_enter Tryz.func106, Tryz.ntmps106
  go_wp2_with fail
  clear c1
  go_loopg [5, 13] (gs0.length + 1) (fun gk v5 v13 wv => ∃ (k : Nat) (gs : List Nat), v13 = .int .i64 (k : Int) ∧ k ≤ gs0.length ∧ gs0.length - k < gk ∧ gs.length = k ∧ RowP w Y wv v5 gs (sideTL v ((parts t).take k)))
  case atStart => exact ⟨0, [], rfl, Nat.zero_le _, by omega, rfl, by rw [List.take_zero, sideTL]; exact unhide H0⟩
  case round =>
    clear H0
    obtain ⟨k, gs, rfl, hk, hgk, hgl, hR⟩ := hrel
    obtain ⟨ao, cp, rfl⟩ := own_slice hR.own
    obtain ⟨hb, hpo, hpn, hlen, hat, ih, hO⟩ := unhide HE
    have Hgl := hide hgl
    have hgs : gs.length ≤ 1000 := by omega
    by_cases hlt : k < gs0.length
    · have hd : (k : Int) < (gs0.length : Int) := by omega
      obtain ⟨vb, cap, hveq, _, hvl⟩ := hpo.form (by omega)
      injection hveq with hao _ hcp
      subst hao
      subst hcp
      obtain ⟨x, hx⟩ : ∃ x, gs0[k]? = some x := ⟨_, List.getElem?_eq_getElem hlt⟩
      obtain ⟨u, hu⟩ : ∃ u, (parts t)[k]? = some u := ⟨_, List.getElem?_eq_getElem (by omega)⟩
      have ck : wr.cell? ⟨vb, k, none⟩ = some (.pointer (some ⟨x, 0, none⟩)) := by
        rw [World.cell?_of_block (w := w) (w' := wr) (a := ⟨vb, k, none⟩) (hR.gr.block vb hvl (by simp)), hpo.cellAt k (by omega)]
        simp [ptrs, hx]
      have hLu : LR s wr (fun j => Y j ∨ (Value.slice ao gs.length cp).ownBlock = some j) u x := by
        have h1 : LR s w (fun j => Y j ∨ w.heap.size ≤ j) u x := LR.reY (fun j hj hz => hz.resolve_right (by omega)) (hat k u x hu hx)
        exact LR.reY (fun j _ hz => hz.imp id (fun e => hR.far j e)) (LR.kept (fun j hj _ => hR.gr.block j hj (by simp)) h1)
      have HT := hide (ih u (List.mem_of_getElem? hu) wr _ x hLu (hO.part (List.mem_of_getElem? hu)) (fun j hj => by
        rcases hj with hj | hj
        · have := hY j hj; have := hR.gr.size; omega
        · exact own_lt hR.own j hj))
      have hown := hR.own
      have HR := hide (And.intro hR hu)
      clear hR hgl hb hpo hpn hlen hat ih hO hu hLu hx
      go_wp2_with fail
      refine (unhide HT).mono ?_
      rintro e w3 ⟨g3, rfl, hg3, hT3⟩
      have hown3 := own_same hown (fun j e => hg3.block j (own_lt hown j e) (by simp))
      have H3 := hide (And.intro hg3 hT3)
      clear hg3 hT3 HT hown
      go_wp2_with (at_builtin; refine wpList_append_lies _ rfl (.tmp 17) (.tmp 21) 162 rfl 0 116 i1 _ 1 8 Tryz.underlying162 hi1 hz0 hz1 hz2 rfl (by decide) (.slice ao gs.length cp) gs.length (ptrs gs) rfl (hown3.alloc _) ⟨w3.heap.size, 0, none⟩ 1 1 [.pointer (some ⟨g3, 0, none⟩)] rfl rfl (World.news_of_block (cs := #[.pointer (some ⟨g3, 0, none⟩)]) (heap_alloc_new w3 _)) (by simp [Value.oneCell']) (by omega) (by unfold maxLen; omega) (by omega) (by omega) (w3.heap.size + 1) (by simp) ?_)
      intro g5 cap5 w5 hown5 hgrow5 hat5 hlt5
      have H5 := hide (And.intro hown5 (And.intro hgrow5 hat5))
      clear hown5 hgrow5 hat5 hlt5 hown3
      go_wp2_with fail
      go_roundg (gs0.length - k)
      case measure => exact hgk
      case rel =>
        obtain ⟨hown5, hgrow5, hat5⟩ := unhide H5
        obtain ⟨hg3, hT3⟩ := unhide H3
        obtain ⟨hR, hu⟩ := unhide HR
        refine ⟨k + 1, gs ++ [g3], by simp, by omega, by omega, by simp [unhide Hgl], ?_⟩
        rw [List.take_add_one, hu]
        show RowP w Y w5 _ _ (sideTL v ((parts t).take k ++ [u]))
        rw [sideTL_snoc]
        exact hR.push hg3 hT3 hown5 hgrow5 hat5
    · have hke : k = gs0.length := by omega
      subst hke
      have hd : ¬ ((gs0.length : Int) < (gs0.length : Int)) := by omega
      rw [List.take_of_length_le (by omega)] at hR
      have hbr := (hR.gr.block g (heap_lt hb) (by simp)).trans hb
      have c0 : wr.cell? ⟨g, 0, none⟩ = some (.int .i64 (kindOf t)) := by rw [cellOf hbr 0]; rfl
      have HR := hide hR
      clear hb hpo hpn hlen hat ih hO hR hbr hgl
      by_cases hsw : kindOf t = 2 ∧ v = true
      · obtain ⟨h2, rfl⟩ := hsw
        rw [h2] at c0
        have hsd : sdV true = 1 := rfl
        rw [hsd]
        have HV := hide (prev (unhide HR).own (by omega))
        go_wp2_with fail
        refine (unhide HV).mono ?_
        rintro e w6 ⟨rfl, hown6, hg6⟩
        have H6 := hide (And.intro hown6 hg6)
        clear hown6 hg6 HV
        go_wp2
        go_ret
        exact ⟨_, gs.reverse, rfl, (unhide HR).turn h2 (unhide H6).1 (unhide H6).2⟩
      · have hsp : sideP v t = sideTL v (parts t) := by
          cases t <;> first | rfl | skip
          cases v with
          | true => exact absurd ⟨rfl, rfl⟩ hsw
          | false => simp [sideP, parts, sideTL]
        have Hsp := hide hsp
        by_cases h2 : kindOf t = 2
        · have hv : v = false := by
            cases v with
            | true => exact absurd ⟨h2, rfl⟩ hsw
            | false => rfl
          subst hv
          rw [h2] at c0
          have hsd : sdV false = 0 := rfl
          rw [hsd]
          clear hsp hsw
          go_wp2_with fail
          go_ret
          exact ⟨_, gs, rfl, by rw [unhide Hsp]; exact unhide HR⟩
        · clear hsp hsw
          generalize kindOf t = K at *
          generalize sdV v = sd at *
          go_wp2_with fail
          go_ret
          exact ⟨_, gs, rfl, by rw [unhide Hsp]; exact unhide HR⟩

end Go.Proofs.YtlljggefbngkeaaGreatDoor

namespace Go.Proofs.YtlljggefbngkeaaGreatDoor
open Go.RowKit

theorem RowP.trY {w : World} {Y : Nat → Prop} {A : World} {v : Value} {gs : List Nat} {ts : List PT} (h : RowP w Y A v gs ts) : TRL A Y ts gs := TRL.reY (fun _ _ hz => .inl hz) h.trl
theorem JPost.after {w w1 : World} {Y : Nat → Prop} {t : PT} {e : Ending} {w' : World} (hg : w.grownBy w1 none) (h : JPost w1 Y t e w') : JPost w Y t e w' := by
  obtain ⟨g, rfl, hg2, hT⟩ := h
  exact ⟨g, rfl, hg.trans hg2, hT⟩
theorem JPost.ret {w : World} {Y : Nat → Prop} {t : PT} {e : Ending} {w' : World} (h : JPost w Y t e w') : ∃ g, e = .returned (.pointer (some ⟨g, 0, none⟩)) := by
  obtain ⟨g, rfl, _⟩ := h
  exact ⟨g, rfl⟩
theorem sideP_len (v : Bool) (t : LT) : (sideP v t).length = (parts t).length := by
  cases t <;> simp [sideP, parts, sideTL_len]
  cases v <;> simp

set_option maxRecDepth 100000 in
set_option maxHeartbeats 1600000 in
/-- those that are made of parts: the parts, joined -/
theorem stexts_join {s : ByteArray} {v : Bool} {t : LT} (hk : kindOf t = 2 ∨ kindOf t = 3 ∨ kindOf t = 5 ∨ kindOf t = 6) (ht : sideT v t = if kindOf t = 6 then pAlt (sideP v t) else pSeq (sideP v t)) (ih : ∀ u, u ∈ parts t → TextsSaid s v u) : TextsSaid s v t := by
  intro w Y g hL hO hY
  obtain ⟨hng, pv, jv, pat, wr0, vw, df, a, gs0, hb, _, _, _⟩ := lr_node hL
  have c0 : w.cell? ⟨g, 0, none⟩ = some (.int .i64 (kindOf t)) := by rw [cellOf hb 0]; rfl
  have HP := hide (sparts ih hL hO hY)
  have hpl := hO.len
  have hsl := sideP_len v t
  have Ht := hide (And.intro ht (And.intro hsl hpl))
  clear hL hb ih hO ht hsl hpl
  by_cases h6 : kindOf t = 6
  · rw [h6] at c0
    go_enter Tryz.func97, Tryz.ntmps97
    go_wp2_with fail
    refine (unhide HP).mono ?_
    rintro e w1 ⟨v1, gs1, rfl, hR⟩
    obtain ⟨ao, cp, rfl⟩ := own_slice hR.own
    have HC := hide (pchoice hR.own hR.nil (by have := hR.trY.len; have := unhide Ht; omega) hR.trY (fun k hk => by have := hY k hk; have := hR.gr.size; omega))
    have HR := hide hR.gr
    clear hR HP
    go_wp2_with fail
    refine (unhide HC).mono ?_
    rintro e w2 hJ
    obtain ⟨g2, rfl⟩ := hJ.ret
    have HJ := hide hJ
    clear hJ HC
    go_wp2
    go_ret
    rw [(unhide Ht).1, if_pos h6]
    exact (unhide HJ).after (unhide HR)
  · have n0 : ¬ (kindOf t = 0) := by omega
    have n1 : ¬ (kindOf t = 1) := by omega
    have n4 : ¬ (kindOf t = 4) := by omega
    have H6 := hide h6
    have Hk := hide (rfl : kindOf t = kindOf t)
    generalize hK : kindOf t = K at *
    clear hk hK
    go_enter Tryz.func97, Tryz.ntmps97
    go_wp2_with fail
    refine (unhide HP).mono ?_
    rintro e w1 ⟨v1, gs1, rfl, hR⟩
    obtain ⟨ao, cp, rfl⟩ := own_slice hR.own
    have HC := hide (prow hR.own hR.nil (by have := hR.trY.len; have := unhide Ht; omega) hR.trY (fun k hk => by have := hY k hk; have := hR.gr.size; omega))
    have HR := hide hR.gr
    clear hR HP
    go_wp2_with fail
    refine (unhide HC).mono ?_
    rintro e w2 hJ
    obtain ⟨g2, rfl⟩ := hJ.ret
    have HJ := hide hJ
    clear hJ HC
    go_wp2
    go_ret
    rw [(unhide Ht).1, if_neg (unhide H6)]
    exact (unhide HJ).after (unhide HR)

set_option maxRecDepth 100000 in
set_option maxHeartbeats 1600000 in
theorem stexts_many {s : ByteArray} {v : Bool} {at_ : Nat} {u : LT} (ih : TextsSaid s v u) : TextsSaid s v (.many at_ u) := by
  intro w Y g hL hO hY
  have hO1 : VOk u := hO.part (by simp [parts])
  rw [LR] at hL
  obtain ⟨hng, pv, jv, ga, hb, hw, _, hLu⟩ := hL
  obtain ⟨vb, cap, rfl, _, hvl⟩ := hw.1.form (by simp)
  have c0 : w.cell? ⟨g, 0, none⟩ = some (.int .i64 4) := by rw [cellOf hb 0]; rfl
  have c1 : w.cell? ⟨g, 1, none⟩ = some (.slice (some ⟨vb, 0, none⟩) 1 cap) := by rw [cellOf hb 1]; rfl
  have ck : w.cell? ⟨vb, 0, none⟩ = some (.pointer (some ⟨ga, 0, none⟩)) := by
    rw [hw.1.cellAt 0 (by simp)]
    rfl
  have HT := hide (ih w Y ga hLu hO1 hY)
  clear hb hw hLu hO hO1 ih
  go_enter Tryz.func97, Tryz.ntmps97
  go_wp2_with fail
  refine (unhide HT).mono ?_
  rintro e w1 ⟨g1, rfl, hg1, hT1⟩
  have HM := hide (pmany hT1 (fun k hk => by have := hY k hk; have := hg1.size; omega))
  have H1 := hide hg1
  clear hg1 hT1 HT
  go_wp2_with fail
  refine (unhide HM).mono ?_
  rintro e w2 hJ
  obtain ⟨g2, rfl⟩ := hJ.ret
  have HJ := hide hJ
  clear hJ HM
  go_wp2
  go_ret
  rw [sideT]
  exact (unhide HJ).after (unhide H1)

set_option maxRecDepth 100000 in
set_option maxHeartbeats 1600000 in
theorem stexts_same {s : ByteArray} {v : Bool} {l : List PT} {i j : Nat} : TextsSaid s v (.same l i j) := by
  intro w Y g hL hO hY
  rw [LR] at hL
  obtain ⟨hng, p, hb, hT⟩ := hL
  have c0 : w.cell? ⟨g, 0, none⟩ = some (.int .i64 0) := by rw [cellOf hb 0]; rfl
  have c3 : w.cell? ⟨g, 3, none⟩ = some (.pointer (some ⟨p, 0, none⟩)) := by rw [cellOf hb 3]; rfl
  have HT := hide hT
  clear hb hO hT
  go_enter Tryz.func97, Tryz.ntmps97
  go_wp2
  go_ret
  rw [sideT]
  exact ⟨p, rfl, World.grownBy.refl _ _, unhide HT⟩

set_option maxRecDepth 100000 in
set_option maxHeartbeats 1600000 in
theorem stexts_fixed {s : ByteArray} {v : Bool} {l : List PT} {i j : Nat} {vw df : List UInt8} {a : Nat} : TextsSaid s v (.fixed l i j vw df a) := by
  intro w Y g hL hO hY
  obtain ⟨hv1, hv2⟩ := hO.self
  rw [LR] at hL
  obtain ⟨hng, p, hb, hT⟩ := hL
  have c0 : w.cell? ⟨g, 0, none⟩ = some (.int .i64 1) := by rw [cellOf hb 0]; rfl
  have c3 : w.cell? ⟨g, 3, none⟩ = some (.pointer (some ⟨p, 0, none⟩)) := by rw [cellOf hb 3]; rfl
  have c5 : w.cell? ⟨g, 5, none⟩ = some (.string (txt vw)) := by rw [cellOf hb 5]; rfl
  have HT := hide hT
  have HX := hide (ptext (w := w) (Y := Y) hv1 hv2 hY)
  clear hb hO hT hv1
  cases v with
  | false =>
    have hsd : sdV false = 0 := rfl
    rw [hsd]
    go_enter Tryz.func97, Tryz.ntmps97
    go_wp2_with fail
    go_ret
    rw [sideT]
    exact ⟨p, rfl, World.grownBy.refl _ _, unhide HT⟩
  | true =>
    have hsd : sdV true = 1 := rfl
    rw [hsd]
    go_enter Tryz.func97, Tryz.ntmps97
    go_wp2_with fail
    refine (unhide HX).mono ?_
    rintro e w2 hJ
    obtain ⟨g2, rfl⟩ := hJ.ret
    have HJ := hide hJ
    clear hJ HX
    go_wp2
    go_ret
    rw [sideT]
    exact unhide HJ

mutual
/-- Texts(), of every lens -/
theorem stexts {s : ByteArray} {v : Bool} : ∀ t : LT, TextsSaid s v t
  | .same _ _ _ => stexts_same
  | .fixed _ _ _ _ _ _ => stexts_fixed
  | .swap at_ a b => stexts_join (.inl rfl) (by rw [if_neg (by simp [kindOf]), sideT, sideP]) (fun u hu => by
    simp [parts] at hu
    rcases hu with h | h
    · rw [h]; exact stexts a
    · rw [h]; exact stexts b)
  | .group a => stexts_join (.inr (.inl rfl)) (by rw [if_neg (by simp [kindOf]), sideT]; simp [sideP, parts, sideTL, pSeq]) (fun u hu => by
    simp [parts] at hu
    rw [hu]; exact stexts a)
  | .many at_ a => stexts_many (stexts a)
  | .row l ps => stexts_join (.inr (.inr (.inl rfl))) (by rw [if_neg (by simp [kindOf]), sideT]; rfl) (fun u hu => stextsL l u hu)
  | .choice l ps => stexts_join (.inr (.inr (.inr rfl))) (by rw [if_pos (by simp [kindOf]), sideT]; rfl) (fun u hu => stextsL l u hu)
theorem stextsL {s : ByteArray} {v : Bool} : ∀ (l : List LT) (u : LT), u ∈ l → TextsSaid s v u
  | [], u, h => absurd h (List.not_mem_nil)
  | t :: l, u, h => by
    rcases List.mem_cons.1 h with h | h
    · rw [h]; exact stexts t
    · exact stextsL l u h
end

end Go.Proofs.YtlljggefbngkeaaGreatDoor

namespace Go.Proofs.YtlljggefbngkeaaGreatDoor
open Go.RowKit

theorem Tab.grown {w w' : World} (h : Tab w) (hg : w.grownBy w' none) : Tab w' := fun j hj => by
  rw [World.cell?_of_block (a := ⟨1, j, none⟩) (hg.block _ h.lt (by simp))]
  exact h j hj

/-- what repeatedTwice answers -/
def RTPost (W : World) (t : PT) (e : Ending) (w' : World) : Prop :=
  ∃ (u : List UInt8) (f : Bool), e = .returned (.tuple #[.string (txt u), .bool f]) ∧ (f = true → ((M t [] ∧ u = []) ∨ (¬ M t [] ∧ Twice t (.rep 42 t) u)) ∧ u.length ≤ 100000000) ∧ (f = false → u = [] ∧ ¬ M t [] ∧ ∀ s, ¬ Twice t (.rep 42 t) s) ∧ W.grownBy w' none

set_option maxRecDepth 100000 in
set_option maxHeartbeats 1600000 in
theorem rtwice {W : World} {Y : Nat → Prop} {t : PT} {p : Nat} (hT : TR W Y t p) (ok : okRep t) (hs : stSize t + 1 ≤ 1000) (hTab : Tab W) (hY : ∀ k, Y k → k < W.heap.size) :
    Calls Tryz.prog 136 #[.pointer (some ⟨p, 0, none⟩)] W fun e w' => RTPost W t e w' := by
  have HH := hide (holds_said W Y t p ⟨#[]⟩ hT ok (by omega) (by decide))
  have HA := hide (And.intro hT (And.intro ok hTab))
  clear hT ok hTab
  go_enter Tryz.func136, Tryz.ntmps136
  go_wp2_with fail
  refine (unhide HH).mono ?_
  rintro e w1 ⟨x, rfl, hx, hg1⟩
  have hx' : x = true ↔ M t [] := hx
  have Hx := hide (And.intro hx' hg1)
  clear hx hx' hg1 HH
  cases x with
  | true =>
    go_wp2_with fail
    go_ret2
    exact ⟨[], true, rfl, fun _ => ⟨.inl ⟨(unhide Hx).1.1 (by first | rfl | trivial), rfl⟩, by simp⟩, fun h => (by cases h), (unhide Hx).2⟩
  | false =>
    obtain ⟨hT, ok, hTab⟩ := unhide HA
    have hg1 := (unhide Hx).2
    have hT1 : TR w1 Y t p := TR.kept (fun k hk _ => hg1.block k hk (by simp)) hT
    have hY1 : ∀ k, Y k → k < w1.heap.size := fun k hk => by have := hY k hk; have := hg1.size; omega
    have HM := hide (pmany hT1 hY1)
    have H1 := hide (And.intro hT1 (And.intro (hTab.grown hg1) hY1))
    clear hT ok hTab hg1 hT1 hY1
    go_wp2_with fail
    refine (unhide HM).mono ?_
    rintro e w2 ⟨g2, rfl, hg2, hT2⟩
    obtain ⟨hT, ok, hTab⟩ := unhide HA
    obtain ⟨hT1, hTab1, hY1⟩ := unhide H1
    have HP := hide (parted (ta := t) (tb := .rep 42 t) (TR.kept (fun k hk _ => hg2.block k hk (by simp)) hT1) hT2 ok (by rw [okRep]; exact ⟨.inl rfl, ok⟩) (by omega) (by rw [stSize]; omega) (hTab1.grown hg2))
    have H2 := hide hg2
    clear hT ok hTab hT1 hTab1 hY1 hg2 hT2 HM
    go_wp2_with fail
    refine (unhide HP).mono ?_
    rintro e w3 ⟨u, f, rfl, h1, h2, hg3⟩
    have H3 := hide (And.intro h1 (And.intro h2 hg3))
    clear h1 h2 hg3 HP
    go_wp2
    go_ret2
    obtain ⟨h1, h2, hg3⟩ := unhide H3
    have hne : ¬ M t [] := fun hm => by have h9 := (unhide Hx).1.2 hm; first | cases h9 | simp at h9
    exact ⟨u, f, rfl, fun hf => ⟨.inr ⟨hne, (h1 hf).1⟩, (h1 hf).2⟩, fun hf => ⟨(h2 hf).1, hne, (h2 hf).2⟩, ((unhide Hx).2.trans (unhide H2)).trans hg3⟩

end Go.Proofs.YtlljggefbngkeaaGreatDoor

namespace Go.Proofs.YtlljggefbngkeaaGreatDoor
open Go.RowKit

/-- the first of a row -/
theorem own_take {w : World} {e : TypeId} {g n m cap : Nat} {xs : List Value} (h : w.ownsRow 0 e 1 (.slice (some ⟨g, 0, none⟩) n cap) n xs) (hm : m ≤ n) : w.ownsRow 0 e 1 (.slice (some ⟨g, 0, none⟩) m cap) m (xs.take m) := by
  have hx := h.1
  refine ⟨by simp; omega, ?_⟩
  rcases h.2 with ⟨h', _⟩ | ⟨g', cap', cur, h', h1, h2, h3, h4, h5, h6⟩
  · simp at h'
  · simp only [Value.slice.injEq, Option.some.injEq, Addr.mk.injEq, and_true, true_and] at h'
    obtain ⟨rfl, rfl⟩ := h'
    refine .inr ⟨g, cap, cur, rfl, h1, h2, by omega, h4, h5, ?_⟩
    rw [← h6, List.take_take]
    congr 1
    omega

theorem TRL.take {w : World} {Y : Nat → Prop} : ∀ {l : List PT} {gs : List Nat}, TRL w Y l gs → ∀ m, TRL w Y (l.take m) (gs.take m)
  | [], [], _, m => by simp [TRL]
  | t :: l, g :: gs, h, 0 => by simp [TRL]
  | t :: l, g :: gs, h, m + 1 => by rw [TRL] at h; rw [List.take_succ_cons, List.take_succ_cons, TRL]; exact ⟨h.1, TRL.take h.2 m⟩
  | [], k :: ks, h, _ => by simp [TRL] at h
  | t :: l, [], h, _ => by simp [TRL] at h

def jagg (g n : Nat) : Value := .agg #[.pointer (some ⟨g, 0, none⟩), .int .i64 (n : Int)]

/-- what around answers -/
def AroundPost (w : World) (Y : Nat → Prop) (v : Bool) (t : LT) (n : Nat) (e : Ending) (w' : World) : Prop :=
  ∃ (vb cp : Nat) (gs : List Nat) (gb : Nat) (tb : PT), e = .returned (.tuple #[.slice (some ⟨vb, 0, none⟩) (n + 1) cp, .pointer (some ⟨gb, 0, none⟩)]) ∧ gs.length = n + 1 ∧ w'.ownsRow 0 116 1 (.slice (some ⟨vb, 0, none⟩) (n + 1) cp) (n + 1) (ptrs gs) ∧
    TRL w' Y ((sideP v t).take (n + 1)) gs ∧ (sideP v t)[n + 1]? = some tb ∧ TR w' Y tb gb ∧ w.grownBy w' none

set_option maxRecDepth 100000 in
set_option maxHeartbeats 1600000 in
theorem jaround {s : ByteArray} {v : Bool} {t : LT} {w : World} {Y : Nat → Prop} {g n : Nat} (hL : LR s w Y t g) (hO : VOk t) (hY : ∀ k, Y k → k < w.heap.size) (hn : n + 1 < (parts t).length) :
    Calls Tryz.prog 133 #[jagg g n, .int .i64 (sdV v)] w fun e w' => AroundPost w Y v t n e w' := by
  have HP := hide (sparts (v := v) (fun u _ => stexts u) (LR.kept (w' := w.alloc (.cells #[.pointer (some ⟨g, 0, none⟩), .int .i64 (n : Int)] 109)) (fun k hk _ => Below.heap_alloc w _ k hk) hL) hO (fun k hk => by have := hY k hk; simp; omega))
  have hpl := hO.len
  have hsl := sideP_len v t
  clear hL hO
  unfold jagg
  go_enter Tryz.func133, Tryz.ntmps133
  go_wp2_with fail
  refine (unhide HP).mono ?_
  rintro e w1 ⟨v1, gs, rfl, hR⟩
  have hlen := hR.trl.len
  obtain ⟨vb, cp, rfl, _, hvl⟩ := hR.own.form (by omega)
  obtain ⟨gb, hgb⟩ : ∃ gb, gs[n + 1]? = some gb := ⟨_, List.getElem?_eq_getElem (by omega)⟩
  obtain ⟨tb, htb⟩ : ∃ tb, (sideP v t)[n + 1]? = some tb := ⟨_, List.getElem?_eq_getElem (by omega)⟩
  have ck : w1.cell? ⟨vb, n + 1, none⟩ = some (.pointer (some ⟨gb, 0, none⟩)) := by
    rw [hR.own.cellAt (n + 1) (by omega)]
    simp [ptrs, hgb]
  have hd : (n : Int) + 1 < (gs.length : Int) := by omega
  have cj : w1.cell? ⟨w.heap.size, 1, none⟩ = some (.int .i64 (n : Int)) := hR.gr.cell (by rw [cellOf (heap_alloc_new w _) 1]; rfl) (by simp)
  have hcap : gs.length ≤ cp := by
    rcases hR.own.2 with ⟨h', _⟩ | ⟨g', cap', cur, h', _, _, hnc, _⟩
    · simp at h'
    · injection h' with _ _ hc
      omega
  have hcp : cp ≤ 9223372036854775807 := by
    rcases hR.own.2 with ⟨h', _⟩ | ⟨g', cap', cur, h', _, _, hnc, hcm, _⟩
    · simp at h'
    · injection h' with _ _ hc
      unfold maxLen at hcm
      omega
  have hnw : IntKind.i64.wrap ((n : Int) + 1) = (n : Int) + 1 := IntWalk.i64_in _ (by omega)
  have HR := hide (And.intro hR (And.intro hgb htb))
  have Hl := hide (And.intro hlen hsl)
  clear hR hgb htb HP hlen hsl
  go_wp2_with fail
  go_quiet (fail)
  go_wp2
  go_ret2
  obtain ⟨hR, hgb, htb⟩ := unhide HR
  obtain ⟨hlen, hsl⟩ := unhide Hl
  refine ⟨vb, cp, gs.take (n + 1), gb, tb, rfl, by simp; omega, ?_, TRL.kept (w := w1) (w' := w1.drewN nq) (fun _ _ _ => rfl) (TRL.take hR.trY (n + 1)), htb, ?_, ((World.grownBy_alloc w _ none).trans hR.gr).trans (grown_drewN' _ _ _)⟩
  · have := own_take hR.own (m := n + 1) (by omega)
    rw [show (ptrs gs).take (n + 1) = ptrs (gs.take (n + 1)) by simp [ptrs, List.map_take]] at this
    exact own_same this (fun _ _ => rfl)
  · obtain ⟨t', g', q1, q2, q3⟩ := TRL.at hR.trY (n + 1) (by omega)
    rw [htb] at q1
    rw [hgb] at q2
    injection q1 with q1
    injection q2 with q2
    subst q1 q2
    exact TR.kept (w := w1) (w' := w1.drewN nq) (fun _ _ _ => rfl) q3

/-- what twice answers, of a joint that is no *'s -/
def twA (v : Bool) (t : LT) (n : Nat) : PT := pSeq ((sideP v t).take (n + 1))
def twB (v : Bool) (t : LT) (n : Nat) : PT := ((sideP v t)[n + 1]?).getD (.seq [])

set_option maxRecDepth 100000 in
set_option maxHeartbeats 1600000 in
theorem jtwice {s : ByteArray} {v : Bool} {t : LT} {w : World} {Y : Nat → Prop} {g n : Nat} (hL : LR s w Y t g) (hO : VOk t) (hY : ∀ k, Y k → k < w.heap.size) (hn : n + 1 < (parts t).length) (hk : kindOf t ≠ 4) (hTab : Tab w)
    (oka : okRep (twA v t n)) (okb : okRep (twB v t n)) (hsa : stSize (twA v t n) ≤ 1000) (hsb : stSize (twB v t n) ≤ 1000) :
    Calls Tryz.prog 92 #[jagg g n, .int .i64 (sdV v)] w fun e w' => PTPost w (twA v t n) (twB v t n) e w' := by
  obtain ⟨hng, pv, jv, pat, wr0, vw, df, a, gs0, hb, _, _, _⟩ := lr_node hL
  have hgl := heap_lt hb
  have c0 : ∀ o, (w.alloc o).cell? ⟨g, 0, none⟩ = some (.int .i64 (kindOf t)) := fun o => by rw [World.cell?_alloc_past _ _ _ hgl, cellOf hb 0]; rfl
  have HA := hide (jaround (v := v) (LR.kept (w' := w.alloc (.cells #[.pointer (some ⟨g, 0, none⟩), .int .i64 (n : Int)] 109)) (fun k hk _ => Below.heap_alloc w _ k hk) hL) hO (fun k hk => by have := hY k hk; simp; omega) hn)
  have Ho := hide (And.intro oka (And.intro okb hTab))
  have hpl := hO.len
  clear hL hO oka okb hb hTab
  generalize kindOf t = K at *
  unfold jagg at *
  go_enter Tryz.func92, Tryz.ntmps92
  go_wp2_with fail
  refine (unhide HA).mono ?_
  rintro e w1 ⟨vb, cp, gs, gb, tb, rfl, hgs, hown, hTL, htb, hTb, hg1⟩
  have hg := (World.grownBy_alloc w (.cells #[.pointer (some ⟨g, 0, none⟩), .int .i64 (n : Int)] 109) none).trans hg1
  have hY1 : ∀ k, Y k → k < w1.heap.size := fun k hk => by have := hY k hk; have := hg.size; omega
  rw [← hgs] at hown
  have HR := hide (prow hown (fun e => by rw [e] at hgs; simp at hgs) (by omega) hTL hY1)
  rw [hgs] at HR
  have H1 := hide (And.intro hTb (And.intro htb (And.intro hg hY1)))
  clear hown hTL hTb htb hg hg1 hY1 HA hgs
  go_wp2_with fail
  refine (unhide HR).mono ?_
  rintro e w2 ⟨g2, rfl, hg2, hT2⟩
  obtain ⟨hTb, htb, hg, hY1⟩ := unhide H1
  obtain ⟨oka, okb, hTab⟩ := unhide Ho
  have hbq : twB v t n = tb := by unfold twB; rw [htb]; rfl
  have HP := hide (parted (ta := twA v t n) (tb := twB v t n) hT2 (by rw [hbq]; exact TR.kept (fun k hk _ => hg2.block k hk (by simp)) hTb) oka okb hsa hsb ((hTab.grown hg).grown hg2))
  have H2 := hide (hg.trans hg2)
  clear hTb htb hg hY1 oka okb hTab hbq hg2 hT2 HR
  go_wp2_with fail
  refine (unhide HP).mono ?_
  rintro e w3 ⟨u, f, rfl, h1, h2, hg3⟩
  have H3 := hide (And.intro h1 (And.intro h2 hg3))
  clear h1 h2 hg3 HP
  go_wp2
  go_ret2
  exact ⟨u, f, rfl, (unhide H3).1, (unhide H3).2.1, (unhide H2).trans (unhide H3).2.2⟩

end Go.Proofs.YtlljggefbngkeaaGreatDoor
