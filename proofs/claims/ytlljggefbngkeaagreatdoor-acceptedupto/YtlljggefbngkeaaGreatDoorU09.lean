import Derived.Test.YtlljggefbngkeaaGreatDoorU08
namespace Go.Proofs.YtlljggefbngkeaaGreatDoor
open Go.RowKit

theorem patSaid (s : ByteArray) (b : Nat) (hs : s.size ≤ 120) : ∀ d i0, s.size + 1 - i0 ≤ d → PatSaid s b i0
  | 0, i0, h => by
    intro w Y st c h0 _ _ hi
    omega
  | d + 1, i0, h => pattern_of hs (base_of hs (patSaid s b hs d (i0 + 1) (by omega)))

/-- reading a pattern -/
theorem Pattern_ {w : World} {Y : Nat → Prop} {b : Nat} {s : ByteArray} {st : St} {c : Int} (h : RH w Y b s st) (hs : s.size ≤ 120) (hb : st.bad = false) (hi : st.i ≤ s.size) (hd : st.bd c) (hc : c ≤ 4000) (hY : ∀ k, Y k → k < w.heap.size) (n : Nat) (hn : 4 * (s.size - st.i) + 4 ≤ n) :
    Calls Tryz.prog 167 #[.pointer (some ⟨b, 0, none⟩)] w fun e w' => Kp Y w w' ∧ PatPost Y b s st c e w' (gAlts s n st.i) :=
  patSaid s b hs (s.size + 1) 0 (by omega) w Y st c (Nat.zero_le _) h hb hi hd hc hY n hn

/-- a row of n truths -/
def BR (w : World) (g n c : Nat) (f : Nat → Bool) : Prop := w.ownsRow 0 4 1 (.slice (some ⟨g, 0, none⟩) n c) n ((List.range n).map fun j => .bool (f j))

/-- nothing that was there has turned -/
def K0 (w w' : World) : Prop := Kp (fun _ => True) w w'

theorem K0.refl (w : World) : K0 w w := Kp.refl _ _
theorem K0.trans {a b c : World} (h : K0 a b) (k : K0 b c) : K0 a c := Kp.trans h k
theorem K0.heap {w w' : World} (h : K0 w w') {k : Nat} (hk : k < w.heap.size) : w'.heap[k]? = w.heap[k]? := h.block k hk trivial
theorem K0.kp {w w' : World} (h : K0 w w') (Y : Nat → Prop) : Kp Y w w' := Kp.mono h (fun _ _ _ => trivial)

theorem BR.cell {w : World} {g n c : Nat} {f : Nat → Bool} (h : BR w g n c f) (k : Nat) (hk : k < n) : w.cell? ⟨g, k, none⟩ = some (.bool (f k)) := by
  rw [World.ownsRow.cellAt h k (by omega)]
  simp [hk]
theorem BR.fz {w : World} {g n c : Nat} {f : Nat → Bool} (h : BR w g n c f) (k : Nat) : w.frozen? ⟨g, k, none⟩ = false := World.ownsRow.frozenAt h k
theorem BR.lt {w : World} {g n c : Nat} {f : Nat → Bool} (h : BR w g n c f) : g < w.heap.size := own_lt h g rfl
theorem BR.kept {w w' : World} {g n c : Nat} {f : Nat → Bool} (h : BR w g n c f) (hk : w'.heap[g]? = w.heap[g]?) : BR w' g n c f := own_same h (fun k e => by
  have : g = k := by simpa [Value.ownBlock] using e
  subst this; exact hk)
theorem BR.k0 {w w' : World} {g n c : Nat} {f : Nat → Bool} (h : BR w g n c f) (hk : K0 w w') : BR w' g n c f := h.kept (hk.heap h.lt)

def upd (f : Nat → Bool) (k : Nat) (x : Bool) (j : Nat) : Bool := if j = k then x else f j

theorem BR.congr {w : World} {g n c : Nat} {f f' : Nat → Bool} (h : BR w g n c f) (he : ∀ j, j < n → f j = f' j) : BR w g n c f' := by
  unfold BR at *
  rw [List.map_congr_left (g := fun j => Value.bool (f' j)) (fun j hj => by rw [he j (by simpa using hj)])] at h
  exact h
theorem BR.set {w : World} {g n c : Nat} {f : Nat → Bool} (h : BR w g n c f) (k : Nat) (x : Bool) : BR (w.setCell ⟨g, k, none⟩ (.bool x)) g n c (upd f k x) := by
  have := World.ownsRow.stored h k (.bool x)
  unfold BR
  have e : ((List.range n).map fun j => Value.bool (f j)).set k (.bool x) = (List.range n).map fun j => Value.bool (upd f k x j) := by
    apply List.ext_getElem?
    intro j
    simp only [List.getElem?_set, List.getElem?_map]
    by_cases hj : j < n
    · by_cases hk : k = j
      · subst hk; simp [hj, upd]
      · simp [hj, hk, upd, Ne.symm hk]
    · by_cases hk : k = j
      · subst hk; simp [hj]
      · simp [hj, hk]
  rw [e] at this
  exact this.1

theorem K0.set {w wv : World} (h : K0 w wv) {b : Nat} (hb : w.heap.size ≤ b) (o : Nat) (v : Value) : K0 w (wv.setCell ⟨b, o, none⟩ v) := by
  refine ⟨h.os, h.tape, h.output, by simpa [World.setCell] using h.size, fun k hk _ => ?_⟩
  rw [Below.heap_setCell _ _ _ _ (by show k ≠ b; omega)]
  exact h.heap hk

theorem upd_step (f : Nat → Bool) (k : Nat) (x : Bool) (hx : f k = x) (j : Nat) : upd (fun j => decide (j < k) && f j) k x j = (decide (j < k + 1) && f j) := by
  unfold upd
  by_cases h : j = k
  · subst h; simp [hx]
  · rw [if_neg h]
    have : (j < k) = (j < k + 1) := by simp; omega
    simp [this]

theorem Tryz.infoBool : (Tryz.prog.info? 4).map (fun i => (i.zero, i.size, i.bytes)) = some (some (.bool false), 1, 1) := by kernel_rfl

theorem BR.made {w : World} {g n c : Nat} (h : w.ownsRow 0 4 1 (.slice (some ⟨g, 0, none⟩) n c) n (madeCells #[Value.bool false] n).toList) : BR w g n c fun _ => false := by
  unfold BR
  rw [toList_madeCells_one] at h
  rw [show (List.range n).map (fun _ => Value.bool false) = List.replicate n (Value.bool false) from by rw [List.map_const']; simp]
  exact h

set_option maxRecDepth 100000 in
set_option maxHeartbeats 1600000 in
theorem both_any {w : World} {g1 c1 g2 c2 n : Nat} {fa fb : Nat → Bool} (ha : BR w g1 n c1 fa) (hb : BR w g2 n c2 fb) (hn : n ≤ 300000000) :
    Calls Tryz.prog 62 #[.slice (some ⟨g1, 0, none⟩) n c1, .slice (some ⟨g2, 0, none⟩) n c2] w fun e w' => ∃ g, e = .returned (.slice (some ⟨g, 0, none⟩) n n) ∧ w.heap.size ≤ g ∧ BR w' g n n (fun j => fa j || fb j) ∧ K0 w w' := by
  obtain ⟨i0, hi0, hz0, hz1, hz2⟩ := info_parts Tryz.infoBool
  have HA := hide (And.intro ha hb)
  have hg1 := ha.lt
  have hg2 := hb.lt
  clear ha hb
  go_enter Tryz.func62, Tryz.ntmps62
  go_wp2_with (at_make; refine wpList_make_full _ rfl _ _ 77 rfl 0 4 i0 (.bool false) 1 Tryz.underlying77 hi0 hz0 hz1 _ _ _ _ n rfl rfl rfl rfl (by rw [hz2]; omega) (by unfold maxLen; omega) (by omega) ?_)
  intro w1 hown hgrow
  have HR0 : Hid (BR w1 w.heap.size n n fun _ => false) := BR.made hown
  have HK0 : Hid (K0 w w1) := Kp.of_grown hgrow (fun _ e => by cases e)
  clear hown hgrow
  go_wp2_with fail
  go_loopg [6] (n + 1) (fun gk iv wv => ∃ k : Nat, iv = .int .i64 k ∧ k ≤ n ∧ n - k < gk ∧ BR wv w.heap.size n n (fun j => decide (j < k) && (fa j || fb j)) ∧ K0 w wv)
  case atStart => exact ⟨0, rfl, Nat.zero_le _, by omega, BR.congr (unhide HR0) (by intro j _; simp), unhide HK0⟩
  case round =>
    clear HR0 HK0
    obtain ⟨k, rfl, hk, hgk, hR, hK⟩ := hrel
    by_cases hlt : k < n
    · have ca := ((unhide HA).1.k0 hK).cell k hlt
      have cb := ((unhide HA).2.k0 hK).cell k hlt
      have co := hR.cell k hlt
      have fo := hR.fz k
      have HRK := hide (And.intro hR hK)
      clear hR hK
      cases hx : fa k with
      | true =>
        rw [hx] at ca
        have Hx := hide hx
        clear hx cb
        go_wp2
        go_roundg (gk - 1)
        case measure => omega
        case rel =>
          exact ⟨k + 1, by go_num, by omega, by omega, ((unhide HRK).1.set k true).congr (fun j _ => upd_step (fun j => fa j || fb j) k true (by simp [unhide Hx]) j), (unhide HRK).2.set (Nat.le_refl _) _ _⟩
      | false =>
        rw [hx] at ca
        have Hx := hide hx
        clear hx
        cases hy : fb k with
        | true =>
          rw [hy] at cb
          have Hy := hide hy
          clear hy
          go_wp2
          go_roundg (gk - 1)
          case measure => omega
          case rel => exact ⟨k + 1, by go_num, by omega, by omega, ((unhide HRK).1.set k true).congr (fun j _ => upd_step (fun j => fa j || fb j) k true (by simp [unhide Hy]) j), (unhide HRK).2.set (Nat.le_refl _) _ _⟩
        | false =>
          rw [hy] at cb
          have Hy := hide hy
          clear hy
          go_wp2
          go_roundg (gk - 1)
          case measure => omega
          case rel => exact ⟨k + 1, by go_num, by omega, by omega, ((unhide HRK).1.set k false).congr (fun j _ => upd_step (fun j => fa j || fb j) k false (by simp [unhide Hx, unhide Hy]) j), (unhide HRK).2.set (Nat.le_refl _) _ _⟩
    · obtain rfl : k = n := by omega
      go_wp2
      go_ret
      exact ⟨w.heap.size, rfl, Nat.le_refl _, hR.congr (by intro j hj; simp [hj]), hK⟩

end Go.Proofs.YtlljggefbngkeaaGreatDoor
