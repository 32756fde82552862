import Derived.Test.YtlljggefbngkeaaGreatDoorU11
namespace Go.Proofs.YtlljggefbngkeaaGreatDoor
open Go.RowKit

theorem txt_sub (s : ByteArray) (i j : Nat) : txt (sub s.data.toList i j) = s.extract i j := by
  apply ByteArray.ext
  rw [ByteArray.data_extract]
  apply Array.ext'
  simp only [txt, sub, Array.toList_extract, List.extract_eq_take_drop]

def QuotPost (Y : Nat → Prop) (b : Nat) (s : ByteArray) (st : St) (e : Ending) (w' : World) : Res (List UInt8) → Prop
  | .ok v j => st.i < j ∧ j ≤ s.size ∧ v.length ≤ 120 ∧ e = .returned (.string (txt v)) ∧ RH w' Y b s (st.upTo s j)
  | .err p => st.i ≤ p ∧ p ≤ s.size ∧ (∃ x, e = .returned (.string x)) ∧ RH w' Y b s (st.upTo s p).spoil

set_option maxRecDepth 100000 in
set_option maxHeartbeats 1600000 in
theorem Quoted {w : World} {Y : Nat → Prop} {b : Nat} {s : ByteArray} {st : St} {c : Int} (h : RH w Y b s st) (hs : s.size ≤ 120) (hb : st.bad = false) (hi : st.i ≤ s.size) (hd : st.bd c) (hc : c ≤ 5000) :
    Calls Tryz.prog 168 #[.pointer (some ⟨b, 0, none⟩)] w fun e w' => Kp Y w w' ∧ QuotPost Y b s st e w' (gQuoted s st.i) := by
  by_cases h34 : pk s st.i = 34
  · have hlt : st.i < s.size := pk_lt (by rw [h34]; decide)
    have hse := signsE_bd s (st.i + 1) hlt
    have HE := hide (EatOk 34 h hs hlt (St.out_le hs hc hi hd) hb h34)
    rw [St.up1 st s hlt] at HE
    have HG : Hid (gQuoted s st.i = if pk s (signsE s (st.i + 1)) = 34 then .ok (sub s.data.toList (st.i + 1) (signsE s (st.i + 1))) (signsE s (st.i + 1) + 1) else .err (signsE s (st.i + 1))) := by
      show gQuoted s st.i = _
      rw [gQuoted, if_pos h34]
    have HD := hide (And.intro hb hd)
    clear h h34 hb hd
    generalize hen : signsE s (st.i + 1) = en at *
    have Hen := hide hen
    clear hen
    go_enter Tryz.func168, Tryz.ntmps168
    go_wp2_with fail
    refine (unhide HE).mono ?_
    rintro e w1 ⟨rfl, hR1, hK1⟩
    have c1 := hR1.c1
    rw [St.upTo_i] at c1
    go_wp2_with fail
    go_loopg [4] (s.size + 1) (fun gk okv wv => ∃ j, st.i + 1 ≤ j ∧ j ≤ s.size ∧ signsE s j = en ∧ RH wv Y b s (st.upTo s j) ∧ Kp Y w wv ∧ ((okv = .bool true ∧ s.size - j < gk) ∨ (okv = .bool false ∧ j = en)))
    case atStart => exact ⟨st.i + 1, Nat.le_refl _, hlt, unhide Hen, hR1, hK1, Or.inl ⟨rfl, by omega⟩⟩
    case round =>
      clear c1
      obtain ⟨j, hj1, hj2, hje, hR, hK, hok⟩ := hrel
      rcases hok with ⟨rfl, hgk⟩ | ⟨rfl, rfl⟩
      · have HP := hide (PeekGR (i := j) hR hs rfl hj2 (unhide HD).1)
        have HS := hide (fun (W : World) => sign_any (pk s j) W)
        have HJ := hide (And.intro hje hK)
        clear hje hK
        cases hsg : signI (pk s j) with
        | true =>
          have hjl := pk_sign_lt hsg
          rw [hsg] at HS
          have HSt := hide (signsE_step s j hjl hsg)
          clear hsg
          generalize pk s j = a at *
          go_wp2_with (first | (go_at_call 58; refine (unhide HP).mono ?_; rintro e w2 ⟨rfl, hR2, hK2⟩) | (go_at_call 182; refine (unhide HS _).mono ?_; rintro e w3 ⟨rfl, rfl⟩))
          refine (TakeOk hR2 hs hjl (St.out_le hs hc hj2 (St.bd_upTo (unhide HD).2 s j (by omega) hj2)) (unhide HD).1).mono ?_
          rintro e w4 ⟨rfl, hR4, hK4⟩
          rw [St.upTo_took st s j (by omega) hjl] at hR4
          go_wp2_with fail
          go_roundg (gk - 1)
          case measure => omega
          case rel => exact ⟨j + 1, by omega, hjl, by rw [← unhide HSt]; exact (unhide HJ).1, hR4, ((unhide HJ).2.trans hK2).trans hK4, Or.inl ⟨rfl, by omega⟩⟩
        | false =>
          rw [hsg] at HS
          have HSt := hide (signsE_stop s j hsg)
          clear hsg
          generalize pk s j = a at *
          go_wp2_with (first | (go_at_call 58; refine (unhide HP).mono ?_; rintro e w2 ⟨rfl, hR2, hK2⟩) | (go_at_call 182; refine (unhide HS _).mono ?_; rintro e w3 ⟨rfl, rfl⟩))
          go_roundg (gk - 1)
          case measure => omega
          case rel => exact ⟨j, hj1, hj2, (unhide HJ).1, hR2, (unhide HJ).2.trans hK2, Or.inr ⟨rfl, by rw [← (unhide HJ).1, unhide HSt]⟩⟩
      · have c0 := hR.c0
        have c1 := hR.c1
        have c2 : wr.cell? ⟨b, 2, none⟩ = some (.bool false) := hR.c2.trans (by show some (Value.bool st.bad) = _; rw [(unhide HD).1])
        rw [St.upTo_i] at c1
        have hb1 : (0 : Int) ≤ (st.i : Int) + 1 := by omega
        have hb2 : (st.i : Int) + 1 ≤ (j : Int) := by omega
        have hb3 : (j : Int) ≤ (s.size : Int) := by omega
        go_wp2_with fail
        go_quiet (fail)
        go_wp2_with fail
        by_cases h34 : pk s j = 34
        · have hjl : j < s.size := pk_lt (by rw [h34]; decide)
          have HE2 := hide (fun n => EatOk 34 (hR.drewN n) hs hjl (St.out_le hs hc hj2 (St.bd_upTo (unhide HD).2 s j (by omega) hj2)) (unhide HD).1 h34)
          rw [St.upTo_took st s j (by omega) hjl] at HE2
          have HG2 := hide (unhide HG)
          rw [if_pos h34] at HG2
          refine (unhide HE2 _).mono ?_
          rintro e w5 ⟨rfl, hR5, hK5⟩
          clear h34
          go_wp2
          go_ret
          refine ⟨(hK.trans (Kp.drewN _ _ _)).trans hK5, ?_⟩
          rw [unhide HG2]
          refine ⟨by omega, hjl, ?_, ?_, hR5⟩
          · rw [sub_len _ _ _ (by simpa using hj2)]; omega
          · rw [txt_sub]; rfl
        · have HE2 := hide (fun n => EatNo 34 (hR.drewN n) hs hj2 (by show peekI s j st.bad ≠ 34; rw [(unhide HD).1]; exact h34))
          have HG2 := hide (unhide HG)
          rw [if_neg h34] at HG2
          refine (unhide HE2 _).mono ?_
          rintro e w5 ⟨rfl, hR5, hK5⟩
          clear h34
          go_wp2
          go_ret
          refine ⟨(hK.trans (Kp.drewN _ _ _)).trans hK5, ?_⟩
          rw [unhide HG2]
          exact ⟨by omega, hj2, ⟨_, rfl⟩, hR5⟩
  · have HE := hide (EatNo 34 h hs hi (by rw [hb]; exact h34))
    have HG : Hid (gQuoted s st.i = .err st.i) := by
      show gQuoted s st.i = _
      rw [gQuoted, if_neg h34]
    clear h h34 hd
    go_enter Tryz.func168, Tryz.ntmps168
    go_wp2_with fail
    refine (unhide HE).mono ?_
    rintro e w1 ⟨rfl, hR1, hK1⟩
    have c1 := hR1.c1
    go_wp2_with fail
    go_loopg [4] 2 (fun gk okv wv => RH wv Y b s st.spoil ∧ Kp Y w wv ∧ ((okv = .bool true ∧ 0 < gk) ∨ okv = .bool false))
    case atStart => exact ⟨hR1, hK1, Or.inl ⟨rfl, by omega⟩⟩
    case round =>
      clear c1
      obtain ⟨hR, hK, hok⟩ := hrel
      rcases hok with ⟨rfl, hgk⟩ | rfl
      · have HP := hide (PeekB hR hs hi rfl)
        have HS : Hid (∀ W : World, Calls Tryz.prog 182 #[.int .u8 0] W fun e w' => e = .returned (.bool false) ∧ w' = W) := fun W => sign_any 0 W
        go_wp2_with (first | (go_at_call 58; refine (unhide HP).mono ?_; rintro e w2 ⟨rfl, hR2, hK2⟩) | (go_at_call 182; refine (unhide HS _).mono ?_; rintro e w3 ⟨rfl, rfl⟩))
        go_roundg 0
        case measure => exact hgk
        case rel => exact ⟨hR2, hK.trans hK2, Or.inr rfl⟩
      · have c2 : wr.cell? ⟨b, 2, none⟩ = some (.bool true) := hR.c2
        go_wp2_with fail
        refine (EatNo 34 hR hs hi (by simp [St.spoil, peekI])).mono ?_
        rintro e w5 ⟨rfl, hR5, hK5⟩
        go_wp2
        go_ret
        refine ⟨hK.trans hK5, ?_⟩
        rw [unhide HG]
        refine ⟨Nat.le_refl _, hi, ⟨_, rfl⟩, ?_⟩
        rw [St.upTo_self]; exact hR5

end Go.Proofs.YtlljggefbngkeaaGreatDoor

namespace Go.Proofs.YtlljggefbngkeaaGreatDoor
open Go.RowKit

theorem lns_at : ∀ (L : List Lns) (a : Nat) (x : Lns) (j : Nat), L[a]? = some x → j < 8 → (L.flatMap lnsCells)[a * 8 + j]? = (lnsCells x)[j]?
  | [], a, x, j, h, _ => by simp at h
  | y :: L, 0, x, j, h, hj => by
    simp at h
    subst h
    rw [List.flatMap_cons, List.getElem?_append_left (by simp [lnsCells]; omega)]
    simp
  | y :: L, a + 1, x, j, h, hj => by
    rw [List.flatMap_cons, List.getElem?_append_right (by simp [lnsCells]; omega)]
    have := lns_at L a x j (by simpa using h) hj
    rw [← this]
    congr 1
    simp [lnsCells]
    omega

/-- a lens that lies in the reader's list -/
theorem RH.lens {w : World} {Y : Nat → Prop} {b : Nat} {s : ByteArray} {st : St} (h : RH w Y b s st) : st.L = [] ∨ ∃ gl cap, w.cell? ⟨b, 6, none⟩ = some (.slice (some ⟨gl, 0, none⟩) st.L.length cap) ∧ gl < w.heap.size ∧ ∀ (a : Nat) (x : Lns), st.L[a]? = some x → ∀ j, j < 8 → w.cell? ⟨gl, a * 8 + j, none⟩ = (lnsCells x)[j]? := by
  obtain ⟨pv, lv, xs, h⟩ := h
  rcases h.ownL.2 with ⟨_, h0⟩ | ⟨g, cap, cur, rfl, _⟩
  · left; exact List.eq_nil_of_length_eq_zero h0
  · right
    refine ⟨g, cap, by rw [cellOf h.blk]; rfl, own_lt h.ownL g rfl, ?_⟩
    intro a x hx j hj
    have ha := (List.getElem?_eq_some_iff.1 hx).1
    rw [World.ownsRow.cellAt h.ownL (a * 8 + j) (by omega)]
    exact lns_at st.L a x j hx hj

set_option maxHeartbeats 400000 in
theorem Pair {w : World} {Y : Nat → Prop} {b : Nat} {s : ByteArray} {st : St} (kind : Int) (a c : Nat) (h : RH w Y b s st) (hn : st.P.length ≤ 100000) (hY : ∀ k, Y k → k < w.heap.size) :
    Calls Tryz.prog 87 #[.pointer (some ⟨b, 0, none⟩), .int .u8 kind, .int .i64 a, .int .i64 c] w fun e w' => e = .returned (.int .i64 st.P.length) ∧ RH w' Y b s { st with P := st.P ++ [⟨kind, ⟨#[]⟩, [a, c]⟩] } ∧ Kp Y w w' := by
  go_enter Tryz.func87, Tryz.ntmps87
  go_wp2_with fail
  refine (Lay ⟨kind, ⟨#[]⟩, [a, c]⟩ (.slice (some ⟨w.heap.size, 0, none⟩) 2 2) (h.alloc _) hn (fun k hk => by have := hY k hk; simp; omega) (World.ownsRow_lit w _ 2 (by omega) (by unfold maxLen; omega) rfl) (by intro k e hy; have := hY k hy; simp [Value.ownBlock] at e; omega)).mono ?_
  rintro e w3 ⟨rfl, hR3, hK3⟩
  go_wp2
  go_ret
  exact ⟨rfl, hR3, (Kp.alloc _ _ _).trans hK3⟩

def twoS (kind : Int) (x y : Lns) : Pat := if kind = 124 then ⟨97, ⟨#[]⟩, [x.s, y.s]⟩ else ⟨115, ⟨#[]⟩, [x.s, y.s]⟩
def twoV (kind : Int) (x y : Lns) : Pat := if kind = 124 then ⟨97, ⟨#[]⟩, [x.v, y.v]⟩ else if kind = 126 then ⟨115, ⟨#[]⟩, [y.v, x.v]⟩ else ⟨115, ⟨#[]⟩, [x.v, y.v]⟩

def TwoPost (Y : Nat → Prop) (w : World) (b : Nat) (s : ByteArray) (st : St) (kind : Int) (a c at_ : Nat) (x y : Lns) (e : Ending) (w' : World) : Prop :=
  e = .returned (.int .i64 st.L.length) ∧ RH w' Y b s { st with P := st.P ++ [twoS kind x y] ++ [twoV kind x y], L := st.L ++ [⟨kind, a, c, at_, ⟨#[]⟩, ⟨#[]⟩, st.P.length, st.P.length + 1⟩] } ∧ Kp Y w w'

set_option maxRecDepth 100000 in
set_option maxHeartbeats 1600000 in
theorem Two {w : World} {Y : Nat → Prop} {b : Nat} {s : ByteArray} {st : St} (kind : Int) (hkind : kind = 114 ∨ kind = 124 ∨ kind = 126) (a c at_ : Nat) (x y : Lns) (h : RH w Y b s st) (hn : st.P.length ≤ 99999) (hl : st.L.length ≤ 100000) (hY : ∀ k, Y k → k < w.heap.size) (hx : st.L[a]? = some x) (hy : st.L[c]? = some y) :
    Calls Tryz.prog 60 #[.pointer (some ⟨b, 0, none⟩), .int .u8 kind, .int .i64 a, .int .i64 c, .int .i64 at_] w fun e w' => TwoPost Y w b s st kind a c at_ x y e w' := by
  have ha := (List.getElem?_eq_some_iff.1 hx).1
  have hcl := (List.getElem?_eq_some_iff.1 hy).1
  obtain ⟨gl, cap, c6, hgl, hcells⟩ : ∃ gl cap, w.cell? ⟨b, 6, none⟩ = some (.slice (some ⟨gl, 0, none⟩) st.L.length cap) ∧ gl < w.heap.size ∧ ∀ (a : Nat) (x : Lns), st.L[a]? = some x → ∀ j, j < 8 → w.cell? ⟨gl, a * 8 + j, none⟩ = (lnsCells x)[j]? := by
    rcases h.lens with h0 | h0
    · rw [h0] at ha; simp at ha
    · exact h0
  have hbl := h.lt
  have x0 := hcells a x hx 0 (by omega)
  have x1 := hcells a x hx 1 (by omega)
  have x2 := hcells a x hx 2 (by omega)
  have x3 := hcells a x hx 3 (by omega)
  have x4 := hcells a x hx 4 (by omega)
  have x5 := hcells a x hx 5 (by omega)
  have x6 := hcells a x hx 6 (by omega)
  have x7 := hcells a x hx 7 (by omega)
  have y0 := hcells c y hy 0 (by omega)
  have y1 := hcells c y hy 1 (by omega)
  have y2 := hcells c y hy 2 (by omega)
  have y3 := hcells c y hy 3 (by omega)
  have y4 := hcells c y hy 4 (by omega)
  have y5 := hcells c y hy 5 (by omega)
  have y6 := hcells c y hy 6 (by omega)
  have y7 := hcells c y hy 7 (by omega)
  simp [lnsCells] at x0 x1 x2 x3 x4 x5 x6 x7 y0 y1 y2 y3 y4 y5 y6 y7
  clear hcells hx hy
  have hai : (a : Int) < (st.L.length : Int) := by omega
  have hci : (c : Int) < (st.L.length : Int) := by omega
  have HH := hide h
  clear h
  rcases hkind with rfl | rfl | rfl
  · go_enter Tryz.func60, Tryz.ntmps60
    go_wp2_with fail
    have hR0 := ((((unhide HH).reY (Z := fun k => Y k ∨ (w.heap.size ≤ k ∧ k < w.heap.size + 3)) (fun k hk hz => hz.resolve_right (by omega))).alloc (.cells #[.int .u8 114, .int .i64 a, .int .i64 c, .int .i64 at_, .string ⟨#[]⟩, .string ⟨#[]⟩, .int .i64 0, .int .i64 0] 35)).alloc (.cells (lnsCells x).toArray 35 (0, 0))).alloc (.cells (lnsCells y).toArray 35 (0, 0))
    have hY0 : ∀ k, (Y k ∨ (w.heap.size ≤ k ∧ k < w.heap.size + 3)) → k < (((w.alloc (.cells #[.int .u8 114, .int .i64 a, .int .i64 c, .int .i64 at_, .string ⟨#[]⟩, .string ⟨#[]⟩, .int .i64 0, .int .i64 0] 35)).alloc (.cells (lnsCells x).toArray 35 (0, 0))).alloc (.cells (lnsCells y).toArray 35 (0, 0))).heap.size := fun k hk => by
      rcases hk with hk | hk
      · have := hY k hk; simp; omega
      · simp; omega
    have hl0 : (((w.alloc (.cells #[.int .u8 114, .int .i64 a, .int .i64 c, .int .i64 at_, .string ⟨#[]⟩, .string ⟨#[]⟩, .int .i64 0, .int .i64 0] 35)).alloc (.cells (lnsCells x).toArray 35 (0, 0))).alloc (.cells (lnsCells y).toArray 35 (0, 0))).heap[w.heap.size]? = some (.cells #[.int .u8 114, .int .i64 a, .int .i64 c, .int .i64 at_, .string ⟨#[]⟩, .string ⟨#[]⟩, .int .i64 0, .int .i64 0] 35 (0, 0)) := heap_alloc_old _ (heap_alloc_old _ (heap_alloc_new w _))
    have hx0 : (((w.alloc (.cells #[.int .u8 114, .int .i64 a, .int .i64 c, .int .i64 at_, .string ⟨#[]⟩, .string ⟨#[]⟩, .int .i64 0, .int .i64 0] 35)).alloc (.cells (lnsCells x).toArray 35 (0, 0))).alloc (.cells (lnsCells y).toArray 35 (0, 0))).heap[w.heap.size + 1]? = some (.cells (lnsCells x).toArray 35 (0, 0)) := heap_alloc_old _ (alloc2_at w _ _)
    have hy0 : (((w.alloc (.cells #[.int .u8 114, .int .i64 a, .int .i64 c, .int .i64 at_, .string ⟨#[]⟩, .string ⟨#[]⟩, .int .i64 0, .int .i64 0] 35)).alloc (.cells (lnsCells x).toArray 35 (0, 0))).alloc (.cells (lnsCells y).toArray 35 (0, 0))).heap[w.heap.size + 2]? = some (.cells (lnsCells y).toArray 35 (0, 0)) := by
      have := alloc2_at (w.alloc (.cells #[.int .u8 114, .int .i64 a, .int .i64 c, .int .i64 at_, .string ⟨#[]⟩, .string ⟨#[]⟩, .int .i64 0, .int .i64 0] 35)) (.cells (lnsCells x).toArray 35 (0, 0)) (.cells (lnsCells y).toArray 35 (0, 0))
      simpa using this
    have hK0 : Kp Y w (((w.alloc (.cells #[.int .u8 114, .int .i64 a, .int .i64 c, .int .i64 at_, .string ⟨#[]⟩, .string ⟨#[]⟩, .int .i64 0, .int .i64 0] 35)).alloc (.cells (lnsCells x).toArray 35 (0, 0))).alloc (.cells (lnsCells y).toArray 35 (0, 0))) := ((Kp.alloc Y w _).trans (Kp.alloc Y _ _)).trans (Kp.alloc Y _ _)
    refine (Pair 115 x.s y.s hR0 (by omega) hY0).mono ?_
    rintro e w1 ⟨rfl, hR1, hK1⟩
    have l1 := hK1.at hl0 (Or.inr (by omega))
    have x1' := hK1.at hx0 (Or.inr (by omega))
    have y1' := hK1.at hy0 (Or.inr (by omega))
    have hs1 := hK1.size
    simp at hs1
    clear c6 x0 x1 x2 x3 x4 x5 x6 x7 y0 y1 y2 y3 y4 y5 y6 y7 hl0 hx0 hy0 hR0 hY0
    have l6 := cellOf l1 6
    have lf := frozenOf l1 6
    have xv := cellOf x1' 7
    have yv := cellOf y1' 7
    simp [lnsCells] at l6 xv yv
    go_wp2_with fail
    have hl2 := heap_set l1 6 (.int .i64 (st.P.length : Int))
    simp at hl2
    have hR2 := hR1.grown (grown_set w1 w.heap.size 6 (.int .i64 (st.P.length : Int))) (by intro k e; cases e; exact Or.inr (by omega))
    have hK2 : Kp Y w1 (w1.setCell ⟨w.heap.size, 6, none⟩ (.int .i64 (st.P.length : Int))) := Kp.set _ _ _ _ (fun hy => Nat.lt_irrefl _ (hY _ hy))
    refine (Pair 115 x.v y.v hR2 (by simp; omega) (fun k hk => by rcases hk with hk | hk; have := hY k hk; simp [World.setCell]; omega; simp [World.setCell]; omega)).mono ?_
    rintro e w3 ⟨rfl, hR3, hK3⟩
    have l3 := hK3.at hl2 (Or.inr (by omega))
    have hs3 := hK3.size
    simp [World.setCell] at hs3
    clear l6 lf xv yv hl2 l1 x1' y1' hR2
    have m7 := cellOf l3 7
    have mf := frozenOf l3 7
    simp at m7
    have m0 := cellOf (heap_set l3 7 (.int .i64 ((st.P.length + 1 : Nat) : Int))) 0
    have m1 := cellOf (heap_set l3 7 (.int .i64 ((st.P.length + 1 : Nat) : Int))) 1
    have m2 := cellOf (heap_set l3 7 (.int .i64 ((st.P.length + 1 : Nat) : Int))) 2
    have m3 := cellOf (heap_set l3 7 (.int .i64 ((st.P.length + 1 : Nat) : Int))) 3
    have m4 := cellOf (heap_set l3 7 (.int .i64 ((st.P.length + 1 : Nat) : Int))) 4
    have m5 := cellOf (heap_set l3 7 (.int .i64 ((st.P.length + 1 : Nat) : Int))) 5
    have m6 := cellOf (heap_set l3 7 (.int .i64 ((st.P.length + 1 : Nat) : Int))) 6
    have m8 := cellOf (heap_set l3 7 (.int .i64 ((st.P.length + 1 : Nat) : Int))) 7
    simp at m0 m1 m2 m3 m4 m5 m6 m8
    go_wp2_with fail
    rw [show ((st.P.length : Int) + 1) = ((st.P.length + 1 : Nat) : Int) by omega]
    have hR4 := (hR3.grown (grown_set w3 w.heap.size 7 (.int .i64 ((st.P.length + 1 : Nat) : Int))) (by intro k e; cases e; exact Or.inr (by omega))).reY (Z := Y) (fun k _ hy => Or.inl hy)
    have hK4 : Kp Y w3 (w3.setCell ⟨w.heap.size, 7, none⟩ (.int .i64 ((st.P.length + 1 : Nat) : Int))) := Kp.set _ _ _ _ (fun hy => Nat.lt_irrefl _ (hY _ hy))
    refine (Node ⟨114, a, c, at_, ⟨#[]⟩, ⟨#[]⟩, st.P.length, st.P.length + 1⟩ hR4 hl (fun k hk => by have := hY k hk; simp [World.setCell]; omega)).mono ?_
    rintro e w5 ⟨rfl, hR5, hK5⟩
    go_wp2
    go_ret
    exact ⟨rfl, hR5, ((((hK0.trans (hK1.mono (fun k _ hy => Or.inl hy))).trans hK2).trans (hK3.mono (fun k _ hy => Or.inl hy))).trans hK4).trans hK5⟩
  · go_enter Tryz.func60, Tryz.ntmps60
    go_wp2_with fail
    have hR0 := ((((unhide HH).reY (Z := fun k => Y k ∨ (w.heap.size ≤ k ∧ k < w.heap.size + 3)) (fun k hk hz => hz.resolve_right (by omega))).alloc (.cells #[.int .u8 124, .int .i64 a, .int .i64 c, .int .i64 at_, .string ⟨#[]⟩, .string ⟨#[]⟩, .int .i64 0, .int .i64 0] 35)).alloc (.cells (lnsCells x).toArray 35 (0, 0))).alloc (.cells (lnsCells y).toArray 35 (0, 0))
    have hY0 : ∀ k, (Y k ∨ (w.heap.size ≤ k ∧ k < w.heap.size + 3)) → k < (((w.alloc (.cells #[.int .u8 124, .int .i64 a, .int .i64 c, .int .i64 at_, .string ⟨#[]⟩, .string ⟨#[]⟩, .int .i64 0, .int .i64 0] 35)).alloc (.cells (lnsCells x).toArray 35 (0, 0))).alloc (.cells (lnsCells y).toArray 35 (0, 0))).heap.size := fun k hk => by
      rcases hk with hk | hk
      · have := hY k hk; simp; omega
      · simp; omega
    have hl0 : (((w.alloc (.cells #[.int .u8 124, .int .i64 a, .int .i64 c, .int .i64 at_, .string ⟨#[]⟩, .string ⟨#[]⟩, .int .i64 0, .int .i64 0] 35)).alloc (.cells (lnsCells x).toArray 35 (0, 0))).alloc (.cells (lnsCells y).toArray 35 (0, 0))).heap[w.heap.size]? = some (.cells #[.int .u8 124, .int .i64 a, .int .i64 c, .int .i64 at_, .string ⟨#[]⟩, .string ⟨#[]⟩, .int .i64 0, .int .i64 0] 35 (0, 0)) := heap_alloc_old _ (heap_alloc_old _ (heap_alloc_new w _))
    have hx0 : (((w.alloc (.cells #[.int .u8 124, .int .i64 a, .int .i64 c, .int .i64 at_, .string ⟨#[]⟩, .string ⟨#[]⟩, .int .i64 0, .int .i64 0] 35)).alloc (.cells (lnsCells x).toArray 35 (0, 0))).alloc (.cells (lnsCells y).toArray 35 (0, 0))).heap[w.heap.size + 1]? = some (.cells (lnsCells x).toArray 35 (0, 0)) := heap_alloc_old _ (alloc2_at w _ _)
    have hy0 : (((w.alloc (.cells #[.int .u8 124, .int .i64 a, .int .i64 c, .int .i64 at_, .string ⟨#[]⟩, .string ⟨#[]⟩, .int .i64 0, .int .i64 0] 35)).alloc (.cells (lnsCells x).toArray 35 (0, 0))).alloc (.cells (lnsCells y).toArray 35 (0, 0))).heap[w.heap.size + 2]? = some (.cells (lnsCells y).toArray 35 (0, 0)) := by
      have := alloc2_at (w.alloc (.cells #[.int .u8 124, .int .i64 a, .int .i64 c, .int .i64 at_, .string ⟨#[]⟩, .string ⟨#[]⟩, .int .i64 0, .int .i64 0] 35)) (.cells (lnsCells x).toArray 35 (0, 0)) (.cells (lnsCells y).toArray 35 (0, 0))
      simpa using this
    have hK0 : Kp Y w (((w.alloc (.cells #[.int .u8 124, .int .i64 a, .int .i64 c, .int .i64 at_, .string ⟨#[]⟩, .string ⟨#[]⟩, .int .i64 0, .int .i64 0] 35)).alloc (.cells (lnsCells x).toArray 35 (0, 0))).alloc (.cells (lnsCells y).toArray 35 (0, 0))) := ((Kp.alloc Y w _).trans (Kp.alloc Y _ _)).trans (Kp.alloc Y _ _)
    refine (Pair 97 x.s y.s hR0 (by omega) hY0).mono ?_
    rintro e w1 ⟨rfl, hR1, hK1⟩
    have l1 := hK1.at hl0 (Or.inr (by omega))
    have x1' := hK1.at hx0 (Or.inr (by omega))
    have y1' := hK1.at hy0 (Or.inr (by omega))
    have hs1 := hK1.size
    simp at hs1
    clear c6 x0 x1 x2 x3 x4 x5 x6 x7 y0 y1 y2 y3 y4 y5 y6 y7 hl0 hx0 hy0 hR0 hY0
    have l6 := cellOf l1 6
    have lf := frozenOf l1 6
    have xv := cellOf x1' 7
    have yv := cellOf y1' 7
    simp [lnsCells] at l6 xv yv
    go_wp2_with fail
    have hl2 := heap_set l1 6 (.int .i64 (st.P.length : Int))
    simp at hl2
    have hR2 := hR1.grown (grown_set w1 w.heap.size 6 (.int .i64 (st.P.length : Int))) (by intro k e; cases e; exact Or.inr (by omega))
    have hK2 : Kp Y w1 (w1.setCell ⟨w.heap.size, 6, none⟩ (.int .i64 (st.P.length : Int))) := Kp.set _ _ _ _ (fun hy => Nat.lt_irrefl _ (hY _ hy))
    refine (Pair 97 x.v y.v hR2 (by simp; omega) (fun k hk => by rcases hk with hk | hk; have := hY k hk; simp [World.setCell]; omega; simp [World.setCell]; omega)).mono ?_
    rintro e w3 ⟨rfl, hR3, hK3⟩
    have l3 := hK3.at hl2 (Or.inr (by omega))
    have hs3 := hK3.size
    simp [World.setCell] at hs3
    clear l6 lf xv yv hl2 l1 x1' y1' hR2
    have m7 := cellOf l3 7
    have mf := frozenOf l3 7
    simp at m7
    have m0 := cellOf (heap_set l3 7 (.int .i64 ((st.P.length + 1 : Nat) : Int))) 0
    have m1 := cellOf (heap_set l3 7 (.int .i64 ((st.P.length + 1 : Nat) : Int))) 1
    have m2 := cellOf (heap_set l3 7 (.int .i64 ((st.P.length + 1 : Nat) : Int))) 2
    have m3 := cellOf (heap_set l3 7 (.int .i64 ((st.P.length + 1 : Nat) : Int))) 3
    have m4 := cellOf (heap_set l3 7 (.int .i64 ((st.P.length + 1 : Nat) : Int))) 4
    have m5 := cellOf (heap_set l3 7 (.int .i64 ((st.P.length + 1 : Nat) : Int))) 5
    have m6 := cellOf (heap_set l3 7 (.int .i64 ((st.P.length + 1 : Nat) : Int))) 6
    have m8 := cellOf (heap_set l3 7 (.int .i64 ((st.P.length + 1 : Nat) : Int))) 7
    simp at m0 m1 m2 m3 m4 m5 m6 m8
    go_wp2_with fail
    rw [show ((st.P.length : Int) + 1) = ((st.P.length + 1 : Nat) : Int) by omega]
    have hR4 := (hR3.grown (grown_set w3 w.heap.size 7 (.int .i64 ((st.P.length + 1 : Nat) : Int))) (by intro k e; cases e; exact Or.inr (by omega))).reY (Z := Y) (fun k _ hy => Or.inl hy)
    have hK4 : Kp Y w3 (w3.setCell ⟨w.heap.size, 7, none⟩ (.int .i64 ((st.P.length + 1 : Nat) : Int))) := Kp.set _ _ _ _ (fun hy => Nat.lt_irrefl _ (hY _ hy))
    refine (Node ⟨124, a, c, at_, ⟨#[]⟩, ⟨#[]⟩, st.P.length, st.P.length + 1⟩ hR4 hl (fun k hk => by have := hY k hk; simp [World.setCell]; omega)).mono ?_
    rintro e w5 ⟨rfl, hR5, hK5⟩
    go_wp2
    go_ret
    exact ⟨rfl, hR5, ((((hK0.trans (hK1.mono (fun k _ hy => Or.inl hy))).trans hK2).trans (hK3.mono (fun k _ hy => Or.inl hy))).trans hK4).trans hK5⟩
  · go_enter Tryz.func60, Tryz.ntmps60
    go_wp2_with fail
    have hR0 := ((((unhide HH).reY (Z := fun k => Y k ∨ (w.heap.size ≤ k ∧ k < w.heap.size + 3)) (fun k hk hz => hz.resolve_right (by omega))).alloc (.cells #[.int .u8 126, .int .i64 a, .int .i64 c, .int .i64 at_, .string ⟨#[]⟩, .string ⟨#[]⟩, .int .i64 0, .int .i64 0] 35)).alloc (.cells (lnsCells x).toArray 35 (0, 0))).alloc (.cells (lnsCells y).toArray 35 (0, 0))
    have hY0 : ∀ k, (Y k ∨ (w.heap.size ≤ k ∧ k < w.heap.size + 3)) → k < (((w.alloc (.cells #[.int .u8 126, .int .i64 a, .int .i64 c, .int .i64 at_, .string ⟨#[]⟩, .string ⟨#[]⟩, .int .i64 0, .int .i64 0] 35)).alloc (.cells (lnsCells x).toArray 35 (0, 0))).alloc (.cells (lnsCells y).toArray 35 (0, 0))).heap.size := fun k hk => by
      rcases hk with hk | hk
      · have := hY k hk; simp; omega
      · simp; omega
    have hl0 : (((w.alloc (.cells #[.int .u8 126, .int .i64 a, .int .i64 c, .int .i64 at_, .string ⟨#[]⟩, .string ⟨#[]⟩, .int .i64 0, .int .i64 0] 35)).alloc (.cells (lnsCells x).toArray 35 (0, 0))).alloc (.cells (lnsCells y).toArray 35 (0, 0))).heap[w.heap.size]? = some (.cells #[.int .u8 126, .int .i64 a, .int .i64 c, .int .i64 at_, .string ⟨#[]⟩, .string ⟨#[]⟩, .int .i64 0, .int .i64 0] 35 (0, 0)) := heap_alloc_old _ (heap_alloc_old _ (heap_alloc_new w _))
    have hx0 : (((w.alloc (.cells #[.int .u8 126, .int .i64 a, .int .i64 c, .int .i64 at_, .string ⟨#[]⟩, .string ⟨#[]⟩, .int .i64 0, .int .i64 0] 35)).alloc (.cells (lnsCells x).toArray 35 (0, 0))).alloc (.cells (lnsCells y).toArray 35 (0, 0))).heap[w.heap.size + 1]? = some (.cells (lnsCells x).toArray 35 (0, 0)) := heap_alloc_old _ (alloc2_at w _ _)
    have hy0 : (((w.alloc (.cells #[.int .u8 126, .int .i64 a, .int .i64 c, .int .i64 at_, .string ⟨#[]⟩, .string ⟨#[]⟩, .int .i64 0, .int .i64 0] 35)).alloc (.cells (lnsCells x).toArray 35 (0, 0))).alloc (.cells (lnsCells y).toArray 35 (0, 0))).heap[w.heap.size + 2]? = some (.cells (lnsCells y).toArray 35 (0, 0)) := by
      have := alloc2_at (w.alloc (.cells #[.int .u8 126, .int .i64 a, .int .i64 c, .int .i64 at_, .string ⟨#[]⟩, .string ⟨#[]⟩, .int .i64 0, .int .i64 0] 35)) (.cells (lnsCells x).toArray 35 (0, 0)) (.cells (lnsCells y).toArray 35 (0, 0))
      simpa using this
    have hK0 : Kp Y w (((w.alloc (.cells #[.int .u8 126, .int .i64 a, .int .i64 c, .int .i64 at_, .string ⟨#[]⟩, .string ⟨#[]⟩, .int .i64 0, .int .i64 0] 35)).alloc (.cells (lnsCells x).toArray 35 (0, 0))).alloc (.cells (lnsCells y).toArray 35 (0, 0))) := ((Kp.alloc Y w _).trans (Kp.alloc Y _ _)).trans (Kp.alloc Y _ _)
    refine (Pair 115 x.s y.s hR0 (by omega) hY0).mono ?_
    rintro e w1 ⟨rfl, hR1, hK1⟩
    have l1 := hK1.at hl0 (Or.inr (by omega))
    have x1' := hK1.at hx0 (Or.inr (by omega))
    have y1' := hK1.at hy0 (Or.inr (by omega))
    have hs1 := hK1.size
    simp at hs1
    clear c6 x0 x1 x2 x3 x4 x5 x6 x7 y0 y1 y2 y3 y4 y5 y6 y7 hl0 hx0 hy0 hR0 hY0
    have l6 := cellOf l1 6
    have lf := frozenOf l1 6
    have xv := cellOf x1' 7
    have yv := cellOf y1' 7
    simp [lnsCells] at l6 xv yv
    go_wp2_with fail
    have hl2 := heap_set l1 6 (.int .i64 (st.P.length : Int))
    simp at hl2
    have hR2 := hR1.grown (grown_set w1 w.heap.size 6 (.int .i64 (st.P.length : Int))) (by intro k e; cases e; exact Or.inr (by omega))
    have hK2 : Kp Y w1 (w1.setCell ⟨w.heap.size, 6, none⟩ (.int .i64 (st.P.length : Int))) := Kp.set _ _ _ _ (fun hy => Nat.lt_irrefl _ (hY _ hy))
    refine (Pair 115 y.v x.v hR2 (by simp; omega) (fun k hk => by rcases hk with hk | hk; have := hY k hk; simp [World.setCell]; omega; simp [World.setCell]; omega)).mono ?_
    rintro e w3 ⟨rfl, hR3, hK3⟩
    have l3 := hK3.at hl2 (Or.inr (by omega))
    have hs3 := hK3.size
    simp [World.setCell] at hs3
    clear l6 lf xv yv hl2 l1 x1' y1' hR2
    have m7 := cellOf l3 7
    have mf := frozenOf l3 7
    simp at m7
    have m0 := cellOf (heap_set l3 7 (.int .i64 ((st.P.length + 1 : Nat) : Int))) 0
    have m1 := cellOf (heap_set l3 7 (.int .i64 ((st.P.length + 1 : Nat) : Int))) 1
    have m2 := cellOf (heap_set l3 7 (.int .i64 ((st.P.length + 1 : Nat) : Int))) 2
    have m3 := cellOf (heap_set l3 7 (.int .i64 ((st.P.length + 1 : Nat) : Int))) 3
    have m4 := cellOf (heap_set l3 7 (.int .i64 ((st.P.length + 1 : Nat) : Int))) 4
    have m5 := cellOf (heap_set l3 7 (.int .i64 ((st.P.length + 1 : Nat) : Int))) 5
    have m6 := cellOf (heap_set l3 7 (.int .i64 ((st.P.length + 1 : Nat) : Int))) 6
    have m8 := cellOf (heap_set l3 7 (.int .i64 ((st.P.length + 1 : Nat) : Int))) 7
    simp at m0 m1 m2 m3 m4 m5 m6 m8
    go_wp2_with fail
    rw [show ((st.P.length : Int) + 1) = ((st.P.length + 1 : Nat) : Int) by omega]
    have hR4 := (hR3.grown (grown_set w3 w.heap.size 7 (.int .i64 ((st.P.length + 1 : Nat) : Int))) (by intro k e; cases e; exact Or.inr (by omega))).reY (Z := Y) (fun k _ hy => Or.inl hy)
    have hK4 : Kp Y w3 (w3.setCell ⟨w.heap.size, 7, none⟩ (.int .i64 ((st.P.length + 1 : Nat) : Int))) := Kp.set _ _ _ _ (fun hy => Nat.lt_irrefl _ (hY _ hy))
    refine (Node ⟨126, a, c, at_, ⟨#[]⟩, ⟨#[]⟩, st.P.length, st.P.length + 1⟩ hR4 hl (fun k hk => by have := hY k hk; simp [World.setCell]; omega)).mono ?_
    rintro e w5 ⟨rfl, hR5, hK5⟩
    go_wp2
    go_ret
    exact ⟨rfl, hR5, ((((hK0.trans (hK1.mono (fun k _ hy => Or.inl hy))).trans hK2).trans (hK3.mono (fun k _ hy => Or.inl hy))).trans hK4).trans hK5⟩

end Go.Proofs.YtlljggefbngkeaaGreatDoor

namespace Go.Proofs.YtlljggefbngkeaaGreatDoor
open Go.RowKit

theorem at_mono {α : Type} {P Q : List α} {k : Nat} {x : α} (h : P[k]? = some x) : (P ++ Q)[k]? = some x := by
  rw [List.getElem?_append_left (List.getElem?_eq_some_iff.1 h).1]; exact h

mutual
theorem PRep_mono {P Q : List Pat} : ∀ {t : PT} {k : Nat}, PRep P t k → PRep (P ++ Q) t k
  | .chr l, k, h => by rw [PRep] at *; exact at_mono h
  | .seq l, k, h => by
    rw [PRep] at *
    obtain ⟨ks, h1, h2⟩ := h
    exact ⟨ks, at_mono h1, PRepL_mono h2⟩
  | .alt l, k, h => by
    rw [PRep] at *
    rcases h with ⟨ks, h1, h2⟩ | ⟨v, h1, h2, h3⟩
    · exact .inl ⟨ks, at_mono h1, PRepL_mono h2⟩
    · exact .inr ⟨v, h1, h2, at_mono h3⟩
  | .rep c t, k, h => by rw [PRep] at *; obtain ⟨hc, j, h1, h2⟩ := h; exact ⟨hc, j, at_mono h1, PRep_mono h2⟩
theorem PRepL_mono {P Q : List Pat} : ∀ {l : List PT} {ks : List Nat}, PRepL P l ks → PRepL (P ++ Q) l ks
  | [], [], _ => by rw [PRepL]; trivial
  | t :: l, k :: ks, h => by rw [PRepL] at *; exact ⟨PRep_mono h.1, PRepL_mono h.2⟩
  | [], k :: ks, h => by simp [PRepL] at h
  | t :: l, [], h => by simp [PRepL] at h
end

mutual
/-- the signs of repetition are the three -/
def okRep : PT → Prop
  | .chr _ => True
  | .seq l => okRepL l
  | .alt l => okRepL l
  | .rep c t => (c = 42 ∨ c = 43 ∨ c = 63) ∧ okRep t
def okRepL : List PT → Prop
  | [] => True
  | t :: l => okRep t ∧ okRepL l
end

mutual
theorem enc_pre : ∀ (t : PT) (P : List Pat), ∃ Q, (enc t P).2 = P ++ Q
  | .chr l, P => by rw [enc]; exact ⟨_, rfl⟩
  | .seq l, P => by rw [enc]; obtain ⟨Q, h⟩ := encL_pre l P; exact ⟨Q ++ _, by rw [h, List.append_assoc]⟩
  | .alt l, P => by rw [enc]; obtain ⟨Q, h⟩ := encL_pre l P; exact ⟨Q ++ _, by rw [h, List.append_assoc]⟩
  | .rep c t, P => by rw [enc]; obtain ⟨Q, h⟩ := enc_pre t P; exact ⟨Q ++ _, by rw [h, List.append_assoc]⟩
theorem encL_pre : ∀ (l : List PT) (P : List Pat), ∃ Q, (encL l P).2 = P ++ Q
  | [], P => by rw [encL]; exact ⟨[], by simp⟩
  | t :: l, P => by
    rw [encL]
    obtain ⟨Q, h⟩ := enc_pre t P
    obtain ⟨Q', h'⟩ := encL_pre l (enc t P).2
    exact ⟨Q ++ Q', by rw [h', h, List.append_assoc]⟩
end

mutual
theorem enc_rep : ∀ (t : PT) (P : List Pat), okRep t → PRep (enc t P).2 t (enc t P).1
  | .chr l, P, _ => by rw [enc, PRep]; simp
  | .seq l, P, h => by
    rw [enc, PRep]
    exact ⟨(encL l P).1, by simp, PRepL_mono (encL_rep l P (by rw [okRep] at h; exact h))⟩
  | .alt l, P, h => by
    rw [enc, PRep]
    exact .inl ⟨(encL l P).1, by simp, PRepL_mono (encL_rep l P (by rw [okRep] at h; exact h))⟩
  | .rep c t, P, h => by
    rw [okRep] at h
    rw [enc, PRep]
    exact ⟨h.1, (enc t P).1, by simp, PRep_mono (enc_rep t P h.2)⟩
theorem encL_rep : ∀ (l : List PT) (P : List Pat), okRepL l → PRepL (encL l P).2 l (encL l P).1
  | [], P, _ => by rw [encL, PRepL]; trivial
  | t :: l, P, h => by
    rw [okRepL] at h
    rw [encL, PRepL]
    obtain ⟨Q, hQ⟩ := encL_pre l (enc t P).2
    refine ⟨?_, encL_rep l _ h.2⟩
    rw [hQ]
    exact PRep_mono (enc_rep t P h.1)
end

theorem gSpans_len (s : ByteArray) : ∀ n i (l0 l : List UInt8) j, gSpans s n i l0 = .ok l j → l.length + 300 * i ≤ l0.length + 300 * j ∧ j ≤ s.size
  | 0, i, l0, l, j, h => by rw [gSpans] at h; cases h
  | n + 1, i, l0, l, j, h => by
    rw [gSpans] at h
    by_cases h1 : signI (pk s i) = true
    · rw [if_pos h1] at h
      have b0 := signI_bd h1
      by_cases h2 : pk s (i + 1) = 45
      · rw [if_pos h2] at h
        by_cases h3 : (signI (pk s (i + 2)) && decide (pk s i ≤ pk s (i + 2))) = true
        · rw [if_pos h3] at h
          simp only [Bool.and_eq_true] at h3
          have b2 := signI_bd h3.1
          have hu := uptoN_length (pk s i).toNat ((pk s (i + 2)).toNat + 1)
          have hl : (l0 ++ upto (pk s i) (pk s (i + 2))).length ≤ l0.length + 256 := by rw [List.length_append]; unfold upto; omega
          by_cases h4 : pk s (i + 3) = 93
          · rw [if_pos h4] at h
            cases h
            have : i + 3 < s.size := pk_lt (by rw [h4]; decide)
            omega
          · rw [if_neg h4] at h
            have := gSpans_len s n _ _ _ _ h
            omega
        · rw [if_neg h3] at h; cases h
      · rw [if_neg h2] at h
        have hu := uptoN_length (pk s i).toNat ((pk s i).toNat + 1)
        have hl : (l0 ++ upto (pk s i) (pk s i)).length ≤ l0.length + 256 := by rw [List.length_append]; unfold upto; omega
        by_cases h4 : pk s (i + 1) = 93
        · rw [if_pos h4] at h
          cases h
          have : i + 1 < s.size := pk_lt (by rw [h4]; decide)
          omega
        · rw [if_neg h4] at h
          have := gSpans_len s n _ _ _ _ h
          omega
    · rw [if_neg h1] at h; cases h

mutual
theorem gBase_wf (s : ByteArray) (hs : s.size ≤ 120) : ∀ n i (t : PT) j, gBase s n i = .ok t j → wf t = true ∧ fresh t = true ∧ okRep t
  | 0, i, t, j, h => by rw [gBase] at h; cases h
  | n + 1, i, t, j, h => by
    rw [gBase] at h
    by_cases h1 : pk s i = 91
    · rw [if_pos h1] at h
      cases hg : gSpans s n (i + 1) [] with
      | err p => rw [hg] at h; cases h
      | ok l k =>
        rw [hg] at h
        cases h
        have := gSpans_len s n _ _ _ _ hg
        simp at this
        exact ⟨by rw [wf]; simp; omega, by rw [fresh], by rw [okRep]; trivial⟩
    · rw [if_neg h1] at h
      by_cases h2 : pk s i = 40
      · rw [if_pos h2] at h
        cases hg : gAlts s n (i + 1) with
        | err p => rw [hg] at h; cases h
        | ok l k =>
          rw [hg] at h
          have hw := gAlts_wf s hs n _ _ _ hg
          simp only [Res.bind] at h
          by_cases h3 : pk s k = 41
          · rw [if_pos h3] at h
            cases h
            exact ⟨by rw [wf]; exact hw.1, by rw [fresh], by rw [okRep]; exact hw.2⟩
          · rw [if_neg h3] at h; cases h
      · rw [if_neg h2] at h
        by_cases h3 : signI (pk s i) = true
        · rw [if_pos h3] at h
          cases h
          exact ⟨by rw [wf]; rfl, by rw [fresh], by rw [okRep]; trivial⟩
        · rw [if_neg h3] at h; cases h
theorem gBranch_wf (s : ByteArray) (hs : s.size ≤ 120) : ∀ n i (l : List PT) j, gBranch s n i = .ok l j → wfL l = true ∧ okRepL l
  | 0, i, l, j, h => by rw [gBranch] at h; cases h
  | n + 1, i, l, j, h => by
    rw [gBranch] at h
    by_cases h1 : atBase (pk s i) = true
    · rw [if_pos h1] at h
      cases hg : gBase s n i with
      | err p => rw [hg] at h; cases h
      | ok t k =>
        rw [hg] at h
        simp only [Res.bind] at h
        have ht := gBase_wf s hs n _ _ _ hg
        cases hb : gBranch s n (gRep s t k).2 with
        | err p => rw [hb] at h; cases h
        | ok l' k' =>
          rw [hb] at h
          cases h
          have hl := gBranch_wf s hs n _ _ _ hb
          rw [wfL, okRepL]
          unfold gRep
          by_cases hr : pk s k = 42 ∨ pk s k = 43 ∨ pk s k = 63
          · rw [if_pos hr]
            exact ⟨by rw [wf]; simp [ht.1, ht.2.1, hl.1], by rw [okRep]; exact ⟨hr, ht.2.2⟩, hl.2⟩
          · rw [if_neg hr]
            exact ⟨by simp [ht.1, hl.1], ht.2.2, hl.2⟩
    · rw [if_neg h1] at h
      cases h
      rw [wfL, okRepL]; exact ⟨rfl, trivial⟩
theorem gAlts_wf (s : ByteArray) (hs : s.size ≤ 120) : ∀ n i (l : List PT) j, gAlts s n i = .ok l j → wfL l = true ∧ okRepL l
  | 0, i, l, j, h => by rw [gAlts] at h; cases h
  | n + 1, i, l, j, h => by
    rw [gAlts] at h
    cases hg : gBranch s n i with
    | err p => rw [hg] at h; cases h
    | ok br k =>
      rw [hg] at h
      simp only [Res.bind] at h
      have hb := gBranch_wf s hs n _ _ _ hg
      by_cases h1 : pk s k = 124
      · rw [if_pos h1] at h
        cases ha : gAlts s n (k + 1) with
        | err p => rw [ha] at h; cases h
        | ok l' k' =>
          rw [ha] at h
          cases h
          have hl := gAlts_wf s hs n _ _ _ ha
          rw [wfL, okRepL, wf, okRep]
          exact ⟨by simp [hb.1, hl.1], hb.2, hl.2⟩
      · rw [if_neg h1] at h
        cases h
        rw [wfL, okRepL, wf, okRep, wfL, okRepL]
        exact ⟨by simp [hb.1], hb.2, trivial⟩
end

theorem gQuoted_form {s : ByteArray} {i j : Nat} {v : List UInt8} (h : gQuoted s i = .ok v j) : i < j ∧ j ≤ s.size ∧ v.length ≤ s.size ∧ sub s.data.toList i j = 34 :: v ++ [34] := by
  unfold gQuoted at h
  by_cases h1 : pk s i = 34
  · rw [if_pos h1] at h
    by_cases h2 : pk s (signsE s (i + 1)) = 34
    · rw [if_pos h2] at h
      cases h
      have hi : i < s.size := pk_lt (by rw [h1]; decide)
      have he : signsE s (i + 1) < s.size := pk_lt (by rw [h2]; decide)
      have hb := signsE_bd s (i + 1) hi
      have hq : ∀ k, pk s k = 34 → s.data.toList[k]? = some 34 := by
        intro k hk
        have hks : k < s.size := pk_lt (by rw [hk]; decide)
        unfold pk at hk
        rw [dif_pos hks] at hk
        have e : s[k] = 34 := UInt8.toNat.inj (by show s[k].toNat = 34; omega)
        rw [List.getElem?_eq_getElem (by simpa using hks)]
        exact congrArg some e
      refine ⟨by omega, he, ?_, ?_⟩
      · rw [sub_len _ _ _ (by simpa using Nat.le_of_lt he)]; omega
      · rw [← sub_app _ i (i + 1) _ (by omega) (by omega), ← sub_app _ (i + 1) (signsE s (i + 1)) _ hb.1 (by omega), sub_at _ i 34 (hq i h1), sub_at _ _ 34 (hq _ h2)]
        rfl
    · rw [if_neg h2] at h; cases h
  · rw [if_neg h1] at h; cases h

theorem RH.k0 {w w' : World} {Y : Nat → Prop} {b : Nat} {s : ByteArray} {st : St} (h : RH w Y b s st) (hk : K0 w w') : RH w' Y b s st := by
  obtain ⟨pv, lv, xs, h⟩ := h
  exact ⟨pv, lv, xs, {
    blk := (hk.heap (heap_lt h.blk)).trans h.blk
    ownP := own_same h.ownP fun k e => hk.heap (own_lt h.ownP k e)
    ownL := own_same h.ownL fun k e => hk.heap (own_lt h.ownL k e)
    subs := fun j p hp => by
      obtain ⟨v, h1, h2, h3, h4, h5⟩ := h.subs j p hp
      exact ⟨v, h1, h2, h3, own_same h4 fun k e => hk.heap (own_lt h4 k e), h5⟩
    nb := h.nb
    np := h.np
    nl := h.nl }⟩

theorem RH.pm {w : World} {Y : Nat → Prop} {b : Nat} {s : ByteArray} {st : St} (h : RH w Y b s st) (hP : 0 < st.P.length) : ∃ gp cap xs, w.cell? ⟨b, 5, none⟩ = some (.slice (some ⟨gp, 0, none⟩) st.P.length cap) ∧ PM w gp cap st.P xs := by
  obtain ⟨pv, lv, xs, h⟩ := h
  obtain ⟨g, cap, rfl, _, _⟩ := h.ownP.form hP
  refine ⟨g, cap, xs, by rw [cellOf h.blk]; rfl, h.ownP, fun j p hp => ?_⟩
  obtain ⟨v, h1, h2, h3, h4, _⟩ := h.subs j p hp
  exact ⟨v, h1, h2, h3, h4, fun _ _ h => h⟩

set_option maxRecDepth 100000 in
set_option maxHeartbeats 800000 in
theorem QuotedBad {w : World} {Y : Nat → Prop} {b : Nat} {s : ByteArray} {st : St} (h : RH w Y b s st) (hs : s.size ≤ 120) (hb : st.bad = true) (hi : st.i ≤ s.size) :
    Calls Tryz.prog 168 #[.pointer (some ⟨b, 0, none⟩)] w fun e w' => (∃ x, e = .returned (.string x)) ∧ RH w' Y b s st ∧ Kp Y w w' := by
  have hsp : st.spoil = st := by cases st; simp [St.spoil] at *; exact hb
  have HE := hide (EatNo 34 h hs hi (by rw [hb, peekI_bad]; decide))
  rw [hsp] at HE
  clear h
  go_enter Tryz.func168, Tryz.ntmps168
  go_wp2_with fail
  refine (unhide HE).mono ?_
  rintro e w1 ⟨rfl, hR1, hK1⟩
  have c1 := hR1.c1
  go_wp2_with fail
  go_loopg [4] 2 (fun gk okv wv => RH wv Y b s st ∧ Kp Y w wv ∧ ((okv = .bool true ∧ 0 < gk) ∨ okv = .bool false))
  case atStart => exact ⟨hR1, hK1, Or.inl ⟨rfl, by omega⟩⟩
  case round =>
    clear c1
    obtain ⟨hR, hK, hok⟩ := hrel
    rcases hok with ⟨rfl, hgk⟩ | rfl
    · have HP := hide (PeekB hR hs hi hb)
      have HS : Hid (∀ W : World, Calls Tryz.prog 182 #[.int .u8 0] W fun e w' => e = .returned (.bool false) ∧ w' = W) := fun W => sign_any 0 W
      clear hsp
      go_wp2_with (first | (go_at_call 58; refine (unhide HP).mono ?_; rintro e w2 ⟨rfl, hR2, hK2⟩) | (go_at_call 182; refine (unhide HS _).mono ?_; rintro e w3 ⟨rfl, rfl⟩))
      go_roundg 0
      case measure => exact hgk
      case rel => exact ⟨hR2, hK.trans hK2, Or.inr rfl⟩
    · have c2 : wr.cell? ⟨b, 2, none⟩ = some (.bool true) := hR.c2.trans (by rw [hb])
      have Hsp := hide hsp
      clear hsp
      go_wp2_with fail
      refine (EatNo 34 hR hs hi (by rw [hb, peekI_bad]; decide)).mono ?_
      rintro e w5 ⟨rfl, hR5, hK5⟩
      rw [unhide Hsp] at hR5
      go_wp2
      go_ret
      exact ⟨⟨_, rfl⟩, hR5, hK.trans hK5⟩

end Go.Proofs.YtlljggefbngkeaaGreatDoor
