import Derived.Test.YtlljggefbngkeaaGreatDoorU09
import Derived.Test.YtlljggefbngkeaaGreatDoorU01
import Derived.Deep.RegionWith
import Derived.Deep.RegionHeld3
namespace Go.Proofs.YtlljggefbngkeaaGreatDoor
open Go.RowKit

mutual
/-- tree t lies in the list P, at k -/
def PRep (P : List Pat) : PT → Nat → Prop
  | .chr l, k => P[k]? = some ⟨99, txt l, []⟩
  | .seq l, k => ∃ ks, P[k]? = some ⟨115, ⟨#[]⟩, ks⟩ ∧ PRepL P l ks
  | .alt l, k => (∃ ks, P[k]? = some ⟨97, ⟨#[]⟩, ks⟩ ∧ PRepL P l ks) ∨ ∃ v : List UInt8, v.length ≤ 120 ∧ l = [.seq (v.map (fun c => .chr [c]))] ∧ P[k]? = some ⟨116, txt v, []⟩
  | .rep c t, k => (c = 42 ∨ c = 43 ∨ c = 63) ∧ ∃ j, P[k]? = some ⟨c, ⟨#[]⟩, [j]⟩ ∧ PRep P t j
def PRepL (P : List Pat) : List PT → List Nat → Prop
  | [], [] => True
  | t :: l, k :: ks => PRep P t k ∧ PRepL P l ks
  | _, _ => False
end

mutual
/-- the ends of such a tree lie in a row of their own -/
def fresh : PT → Bool
  | .chr _ => true
  | .seq l => freshL l
  | .alt _ => true
  | .rep _ _ => true
def freshL : List PT → Bool
  | [] => false
  | t :: l => fresh t || freshL l
end

mutual
/-- what is repeated has ends of its own -/
def wf : PT → Bool
  | .chr l => decide (l.length ≤ 100000)
  | .seq l => wfL l
  | .alt l => wfL l
  | .rep _ t => fresh t && wf t
def wfL : List PT → Bool
  | [] => true
  | t :: l => wf t && wfL l
end

/-- the patterns as they lie in memory -/
structure PM (w : World) (gp cap : Nat) (P : List Pat) (xs : List Value) : Prop where
  own : w.ownsRow 0 90 3 (.slice (some ⟨gp, 0, none⟩) P.length cap) P.length xs
  pr : PR w (fun _ => False) P xs

theorem PM.k0 {w w' : World} {gp cap : Nat} {P : List Pat} {xs : List Value} (h : PM w gp cap P xs) (hk : K0 w w') : PM w' gp cap P xs where
  own := own_same h.own (fun k e => hk.heap (own_lt h.own k e))
  pr := fun j p hp => by
    obtain ⟨v, h1, h2, h3, h4, h5⟩ := h.pr j p hp
    exact ⟨v, h1, h2, h3, own_same h4 (fun k e => hk.heap (own_lt h4 k e)), h5⟩

theorem own_slice {w : World} {base : Nat} {e : TypeId} {size : Nat} {v : Value} {n : Nat} {xs : List Value} (h : w.ownsRow base e size v n xs) : ∃ ao cp, v = .slice ao n cp := by
  rcases h.2 with ⟨h1, h2⟩ | ⟨g, cap, cur, h1, _⟩
  · subst h2; exact ⟨none, 0, h1⟩
  · exact ⟨_, cap, h1⟩

theorem PM.cells {w : World} {gp cap : Nat} {P : List Pat} {xs : List Value} (h : PM w gp cap P xs) {k : Nat} {p : Pat} (hp : P[k]? = some p) :
    k < P.length ∧ ∃ ao cp, w.cell? ⟨gp, k * 3, none⟩ = some (.int .u8 p.kind) ∧ w.cell? ⟨gp, k * 3 + 1, none⟩ = some (.string p.set) ∧ w.cell? ⟨gp, k * 3 + 2, none⟩ = some (.slice ao p.subs.length cp) ∧ w.ownsRow 0 3 1 (.slice ao p.subs.length cp) p.subs.length (nums p.subs) := by
  have hk := (List.getElem?_eq_some_iff.1 hp).1
  obtain ⟨v, h1, h2, h3, h4, _⟩ := h.pr k p hp
  obtain ⟨ao, cp, rfl⟩ := own_slice h4
  refine ⟨hk, ao, cp, ?_, ?_, ?_, h4⟩
  · rw [World.ownsRow.cellAt h.own (k * 3) (by omega), Nat.mul_comm]; exact h1
  · rw [World.ownsRow.cellAt h.own (k * 3 + 1) (by omega), Nat.mul_comm]; exact h2
  · rw [World.ownsRow.cellAt h.own (k * 3 + 2) (by omega), Nat.mul_comm]; exact h3

def EndsPost (w : World) (t : PT) (d : ByteArray) (g c : Nat) (f : Nat → Bool) (e : Ending) (w' : World) : Prop :=
  ∃ g' c' f', e = .returned (.slice (some ⟨g', 0, none⟩) (d.size + 1) c') ∧ BR w' g' (d.size + 1) c' f' ∧ Via (M t) d.data.toList f f' ∧ K0 w w' ∧ ((g' = g ∧ c' = c) ∨ w.heap.size ≤ g') ∧ (fresh t = true → w.heap.size ≤ g')

def EndsSaid (t : PT) : Prop :=
  ∀ (w : World) (gp cap : Nat) (P : List Pat) (xs : List Value) (k : Nat) (d : ByteArray) (g c : Nat) (f : Nat → Bool), PM w gp cap P xs → P.length ≤ 100000 → PRep P t k → BR w g (d.size + 1) c f → d.size ≤ 200000000 →
    Calls Tryz.prog 44 #[.slice (some ⟨gp, 0, none⟩) P.length cap, .int .i64 k, .string d, .slice (some ⟨g, 0, none⟩) (d.size + 1) c] w fun e w' => EndsPost w t d g c f e w'

theorem hasL_contains (l : List UInt8) (c : UInt8) : hasL l (c.toNat : Int) = l.contains c := by
  rw [Bool.eq_iff_iff]
  simp only [hasL, List.any_eq_true, List.contains_iff_mem, beq_iff_eq]
  constructor
  · rintro ⟨x, hx, he⟩
    have : x = c := UInt8.toNat.inj (by omega)
    rwa [← this]
  · intro h; exact ⟨c, h, rfl⟩

theorem ends_pre {w w1 : World} {x : Obj} (hgrow : (w.alloc x).grownBy w1 none) : w1.heap[w.heap.size]? = some x ∧ K0 w w1 := by
  refine ⟨(hgrow.block w.heap.size (by simp) (by simp)).trans (heap_alloc_new w x), ?_⟩
  exact (Kp.alloc _ w x).trans (Kp.of_grown hgrow (fun _ e => by cases e))

/-- the ends of one sign -/
def chrF (f : Nat → Bool) (l d : List UInt8) : Nat → Bool
  | 0 => false
  | i + 1 => f i && (match d[i]? with | some c => l.contains c | none => false)

theorem K0.drew {w wv : World} (h : K0 w wv) : K0 w wv.drew := Kp.trans h (Kp.drew _ _)
theorem K0.drewN {w wv : World} (h : K0 w wv) (n : Nat) : K0 w (wv.drewN n) := Kp.trans h (Kp.drewN _ _ _)
theorem BR.drew {w : World} {g n c : Nat} {f : Nat → Bool} (h : BR w g n c f) : BR w.drew g n c f := h
theorem chrF_no (f : Nat → Bool) (l : List UInt8) (d : ByteArray) (m : Nat) (hf : f m = false) : chrF f l d.data.toList (m + 1) = false := by simp [chrF, hf]
theorem chrF_at (f : Nat → Bool) (l : List UInt8) (d : ByteArray) (m : Nat) (h : m < d.size) (hf : f m = true) {x : Bool} (hx : hasL (txt l).data.toList (d[m].toNat : Int) = x) : chrF f l d.data.toList (m + 1) = x := by
  rw [show (txt l).data.toList = l from by simp [txt], hasL_contains] at hx
  have : d.data.toList[m]? = some d[m] := by
    rw [List.getElem?_eq_getElem (by simpa using h)]; rfl
  simp only [chrF, hf, this, Bool.true_and]
  exact hx

theorem chrF_start (f : Nat → Bool) (l d : List UInt8) (j : Nat) : (decide (j < 0 + 1) && chrF f l d j) = false := by
  match j with
  | 0 => rfl
  | j + 1 => simp

set_option maxRecDepth 100000 in
set_option maxHeartbeats 1600000 in
theorem ends_chr (l : List UInt8) (hl : l.length ≤ 100000) : EndsSaid (.chr l) := by
  intro w gp cap P xs k d g c f hPM hPl hrep hB hd
  rw [PRep] at hrep
  obtain ⟨hk, ao, cp, p0, p1, p2, _⟩ := hPM.cells hrep
  obtain ⟨i0, hi0, hz0, hz1, hz2⟩ := info_parts Tryz.infoBool
  have hk1 : (k : Int) < (P.length : Int) := by omega
  have HB := hide hB
  have hgl := hB.lt
  clear hPM hrep hB
  go_enter Tryz.func44, Tryz.ntmps44
  go_wp2_with (at_make; refine wpList_make_full _ rfl _ _ 77 rfl 0 4 i0 (.bool false) 1 Tryz.underlying77 hi0 hz0 hz1 _ _ _ _ (d.size + 1) rfl rfl (by simp) (by simp) (by rw [hz2]; omega) (by unfold maxLen; omega) (by omega) ?_)
  intro w1 hown hgrow
  obtain ⟨hx, hK1⟩ := ends_pre hgrow
  have x0 := cellOf hx 0
  have HX := hide (And.intro hx hK1)
  have HR0 := hide (BR.made hown)
  clear hown hgrow hx hK1 p0 p1 p2
  simp at x0
  go_wp2_with fail
  go_loopg [11] (d.size + 1) (fun gk iv wv => ∃ k : Nat, iv = .int .i64 k ∧ k ≤ d.size ∧ d.size - k < gk ∧ BR wv (w.heap.size + 1) (d.size + 1) (d.size + 1) (fun j => decide (j < k + 1) && chrF f l d.data.toList j) ∧ K0 w wv ∧ wv.heap[w.heap.size]? = some (.cells #[.int .u8 99, .string (txt l), .slice ao 0 cp] 90 (0, 0)))
  case atStart => exact ⟨0, rfl, Nat.zero_le _, by omega, (unhide HR0).congr (fun j _ => (chrF_start f l _ j).symm), (unhide HX).2, (unhide HX).1⟩
  case round =>
    clear HR0 x0
    obtain ⟨m, rfl, hm, hgk, hR, hK, hx⟩ := hrel
    by_cases hlt : m < d.size
    · have hc1 := ((unhide HB).k0 hK).cell m (by omega)
      have x1 := cellOf hx 1
      have ro := hR.cell (m + 1) (by omega)
      have fo := hR.fz (m + 1)
      have HRK := hide (And.intro hR (And.intro hK hx))
      simp at x1
      have hm1 : (m : Int) + 1 < (d.size : Int) + 1 := by omega
      have hm0 : (0 : Int) ≤ (m : Int) + 1 := by omega
      have hm00 : (0 : Int) ≤ (m : Int) := by omega
      have hw64 : IntKind.i64.wrap ((m : Int) + 1) = (m : Int) + 1 := IntWalk.i64_in _ (by omega)
      have hgne : g ≠ w.heap.size + 1 := by omega
      have hgne2 : w.heap.size ≠ w.heap.size + 1 := by omega
      have hgne3 : ¬ (w.heap.size + 1 = g) := by omega
      have hm2 : (m : Int) < (d.size : Int) + 1 := by omega
      have hm3 : (m : Int) < (d.size : Int) := by omega
      have hls : (txt l).size ≤ maxLen := by rw [txt_size]; unfold maxLen; omega
      have HC := hide (fun (W : World) => has_any (txt l) (d[m].toNat : Int) W hls)
      clear hR hK hx hls
      cases hf : f m with
      | true =>
        rw [hf] at hc1
        have Hf := hide hf
        clear hf
        go_wp2_with fail
        go_region_held3 (fun w' => w'.cell? ⟨g, m, none⟩ = some (.bool true) ∧ w'.cell? ⟨w.heap.size, 1, none⟩ = some (.string (txt l))) (go_keep) (first | (go_at_call 61; refine (unhide HC _).mono ?_; rintro e w' ⟨rfl, rfl⟩))
        go_wp2
        go_roundg (gk - 1)
        case measure => omega
        case rel =>
          refine ⟨m + 1, by go_num, by omega, by omega, ((unhide HRK).1.set (m + 1) _).drew.congr (fun j _ => upd_step (chrF f l d.data.toList) (m + 1) _ (chrF_at f l d m hlt (unhide Hf) rfl) j), K0.drew ((unhide HRK).2.1.set (b := w.heap.size + 1) (Nat.le_succ _) _ _), ?_⟩
          rw [drew_heap, Below.heap_setCell _ _ _ _ (by simp)]; exact (unhide HRK).2.2
      | false =>
        rw [hf] at hc1
        have Hf := hide hf
        clear hf
        go_wp2_with fail
        go_region
        go_wp2
        go_roundg (gk - 1)
        case measure => omega
        case rel =>
          refine ⟨m + 1, by go_num, by omega, by omega, ((unhide HRK).1.set (m + 1) _).drew.congr (fun j _ => upd_step (chrF f l d.data.toList) (m + 1) _ (chrF_no f l d m (unhide Hf)) j), K0.drew ((unhide HRK).2.1.set (b := w.heap.size + 1) (Nat.le_succ _) _ _), ?_⟩
          rw [drew_heap, Below.heap_setCell _ _ _ _ (by simp)]; exact (unhide HRK).2.2
    · obtain rfl : m = d.size := by omega
      go_wp2
      go_ret
      refine ⟨w.heap.size + 1, d.size + 1, _, rfl, hR.congr (f' := chrF f l d.data.toList) (fun j hj => by simp [hj]), ?_, hK, Or.inr (by omega), fun _ => by omega⟩
      exact Via.chr rfl (fun i c hc => by simp [chrF, hc])

end Go.Proofs.YtlljggefbngkeaaGreatDoor

namespace Go.Proofs.YtlljggefbngkeaaGreatDoor
open Go.RowKit

/-- the ends of a text -/
def txtF (f : Nat → Bool) (v d : List UInt8) (j : Nat) : Bool := decide (v.length ≤ j) && (f (j - v.length) && decide (sub d (j - v.length) j = v))

theorem txtF_start (f : Nat → Bool) (v d : List UInt8) (j : Nat) : (decide (j < 0 + v.length) && txtF f v d j) = false := by
  unfold txtF
  by_cases h : v.length ≤ j
  · have : decide (j < 0 + v.length) = false := by simp; omega
    rw [this, Bool.false_and]
  · simp [h]

theorem txtF_no {f : Nat → Bool} {v d : List UInt8} {m : Nat} (hf : f m = false) : txtF f v d (m + v.length) = false := by
  unfold txtF
  rw [show m + v.length - v.length = m by omega, hf]
  simp
theorem txtF_at {f : Nat → Bool} {v : List UInt8} {d : ByteArray} {m : Nat} (hf : f m = true) : txtF f v d.data.toList (m + v.length) = ((d.extract m (m + v.length)).toList == (txt v).toList) := by
  unfold txtF
  rw [show m + v.length - v.length = m by omega, hf]
  have h1 : decide (v.length ≤ m + v.length) = true := by simp
  rw [h1, Bool.true_and, Bool.true_and, ByteArray.toList_eq, ByteArray.toList_eq]
  have hs : (d.extract m (m + v.length)).data.toList = sub d.data.toList m (m + v.length) := by
    simp [sub, ByteArray.data_extract]
  have hv : (txt v).data.toList = v := by simp [txt]
  rw [hs, hv, Bool.eq_iff_iff]
  simp

/-- what is asked of a text's pattern -/
def EndsT (v : List UInt8) : Prop :=
  ∀ (w : World) (gp cap : Nat) (P : List Pat) (xs : List Value) (k : Nat) (d : ByteArray) (g c : Nat) (f : Nat → Bool), PM w gp cap P xs → P.length ≤ 100000 → P[k]? = some ⟨116, txt v, []⟩ → BR w g (d.size + 1) c f → d.size ≤ 200000000 →
    Calls Tryz.prog 44 #[.slice (some ⟨gp, 0, none⟩) P.length cap, .int .i64 k, .string d, .slice (some ⟨g, 0, none⟩) (d.size + 1) c] w fun e w' =>
      ∃ g', e = .returned (.slice (some ⟨g', 0, none⟩) (d.size + 1) (d.size + 1)) ∧ BR w' g' (d.size + 1) (d.size + 1) (txtF f v d.data.toList) ∧ K0 w w' ∧ w.heap.size ≤ g'

set_option maxRecDepth 100000 in
set_option maxHeartbeats 1600000 in
theorem ends_text (v : List UInt8) (hv : v.length ≤ 120) : EndsT v := by
  intro w gp cap P xs k d g c f hPM hPl hrep hB hd
  obtain ⟨hk, ao, cp, p0, p1, p2, _⟩ := hPM.cells hrep
  obtain ⟨i0, hi0, hz0, hz1, hz2⟩ := info_parts Tryz.infoBool
  have hk1 : (k : Int) < (P.length : Int) := by omega
  have HB := hide hB
  have hgl := hB.lt
  have hvs : (txt v).size = v.length := txt_size v
  clear hPM hrep hB
  go_enter Tryz.func44, Tryz.ntmps44
  go_wp2_with (at_make; refine wpList_make_full _ rfl _ _ 77 rfl 0 4 i0 (.bool false) 1 Tryz.underlying77 hi0 hz0 hz1 _ _ _ _ (d.size + 1) rfl rfl (by simp) (by simp) (by rw [hz2]; omega) (by unfold maxLen; omega) (by omega) ?_)
  intro w1 hown hgrow
  obtain ⟨hx, hK1⟩ := ends_pre hgrow
  have x0 := cellOf hx 0
  have HX := hide (And.intro hx hK1)
  have HR0 := hide (BR.made hown)
  clear hown hgrow hx hK1 p0 p1 p2
  simp at x0
  go_wp2_with fail
  go_loopg [12] (d.size + 2) (fun gk iv wv => ∃ k : Nat, iv = .int .i64 k ∧ k ≤ d.size + 1 ∧ d.size + 1 - k < gk ∧ BR wv (w.heap.size + 1) (d.size + 1) (d.size + 1) (fun j => decide (j < k + v.length) && txtF f v d.data.toList j) ∧ K0 w wv ∧ wv.heap[w.heap.size]? = some (.cells #[.int .u8 116, .string (txt v), .slice ao 0 cp] 90 (0, 0)))
  case atStart => exact ⟨0, rfl, Nat.zero_le _, by omega, (unhide HR0).congr (fun j _ => (txtF_start f v _ j).symm), (unhide HX).2, (unhide HX).1⟩
  case round =>
    clear HR0 x0
    obtain ⟨m, rfl, hm, hgk, hR, hK, hx⟩ := hrel
    have x1 := cellOf hx 1
    simp at x1
    have hw64 : IntKind.i64.wrap ((m : Int) + (v.length : Int)) = (m : Int) + (v.length : Int) := IntWalk.i64_in _ (by omega)
    have hw65 : IntKind.i64.wrap ((m : Int) + 1) = (m : Int) + 1 := IntWalk.i64_in _ (by omega)
    by_cases hlt : m + v.length ≤ d.size
    · have hd1 : (m : Int) + (v.length : Int) ≤ (d.size : Int) := by omega
      have hc1 := ((unhide HB).k0 hK).cell m (by omega)
      have ro := hR.cell (m + v.length) (by omega)
      have fo := hR.fz (m + v.length)
      have HRK := hide (And.intro hR (And.intro hK hx))
      clear hR hK hx
      have hm2 : (m : Int) < (d.size : Int) + 1 := by omega
      have hm3 : (m : Int) + (v.length : Int) < (d.size : Int) + 1 := by omega
      have hm00 : (0 : Int) ≤ (m : Int) := by omega
      have hm01 : (0 : Int) ≤ (m : Int) + (v.length : Int) := by omega
      have hm02 : (m : Int) ≤ (m : Int) + (v.length : Int) := by omega
      have hgne : g ≠ w.heap.size + 1 := by omega
      have hgne2 : w.heap.size ≠ w.heap.size + 1 := by omega
      have hgne3 : ¬ (w.heap.size + 1 = g) := by omega
      have htn : ((m : Int) + (v.length : Int)).toNat = m + v.length := by omega
      cases hf : f m with
      | true =>
        rw [hf] at hc1
        have Hf := hide hf
        clear hf
        go_wp2_with fail
        go_region_held3 (fun w' => w'.cell? ⟨g, m, none⟩ = some (.bool true) ∧ w'.cell? ⟨w.heap.size, 1, none⟩ = some (.string (txt v))) (go_keep) (fail)
        go_wp2
        go_roundg (gk - 1)
        case measure => omega
        case rel =>
          refine ⟨m + 1, by go_num, by omega, by omega, ?_, K0.drew ((unhide HRK).2.1.set (b := w.heap.size + 1) (Nat.le_succ _) _ _), ?_⟩
          · rw [show m + 1 + v.length = m + v.length + 1 by omega]
            exact ((unhide HRK).1.set (m + v.length) _).drew.congr (fun j _ => upd_step (txtF f v d.data.toList) (m + v.length) _ (txtF_at (unhide Hf)) j)
          · rw [drew_heap, Below.heap_setCell _ _ _ _ (by simp)]; exact (unhide HRK).2.2
      | false =>
        rw [hf] at hc1
        have Hf := hide hf
        clear hf
        go_wp2_with fail
        go_region
        go_wp2
        go_roundg (gk - 1)
        case measure => omega
        case rel =>
          refine ⟨m + 1, by go_num, by omega, by omega, ?_, K0.drew ((unhide HRK).2.1.set (b := w.heap.size + 1) (Nat.le_succ _) _ _), ?_⟩
          · rw [show m + 1 + v.length = m + v.length + 1 by omega]
            exact ((unhide HRK).1.set (m + v.length) _).drew.congr (fun j _ => upd_step (txtF f v d.data.toList) (m + v.length) _ (txtF_no (unhide Hf)) j)
          · rw [drew_heap, Below.heap_setCell _ _ _ _ (by simp)]; exact (unhide HRK).2.2
    · have hd1 : ¬ ((m : Int) + (v.length : Int) ≤ (d.size : Int)) := by omega
      go_wp2
      go_ret
      refine ⟨w.heap.size + 1, rfl, hR.congr (fun j hj => ?_), hK, by omega⟩
      have : decide (j < m + v.length) = true := by simp; omega
      rw [this, Bool.true_and]

/-- a text's own pattern: one sign behind the other -/
theorem M_text : ∀ (v u : List UInt8), M (.seq (v.map fun c => .chr [c])) u ↔ u = v := by
  have key : ∀ (v u : List UInt8), ML (v.map fun c => .chr [c]) u ↔ u = v := by
    intro v
    induction v with
    | nil =>
      intro u
      constructor
      · intro h
        cases h
        rfl
      · rintro rfl
        exact ML.nil
    | cons c v ih =>
      intro u
      constructor
      · intro h
        cases h with
        | cons h1 h2 =>
          cases h1 with
          | chr hc =>
            rw [List.mem_singleton] at hc
            rw [hc, (ih _).1 h2]
            rfl
      · rintro rfl
        exact ML.cons (u := [c]) (M.chr (List.mem_singleton.2 rfl)) ((ih v).2 rfl)
  intro v u
  rw [← key v u]
  constructor
  · intro h
    cases h with
    | seq h => exact h
  · exact M.seq

theorem via_text (v d : List UInt8) (f : Nat → Bool) : Via (M (.seq (v.map fun c => .chr [c]))) d f (txtF f v d) := by
  intro j hj
  unfold txtF
  simp only [Bool.and_eq_true, decide_eq_true_eq]
  constructor
  · rintro ⟨h1, h2, h3⟩
    exact ⟨j - v.length, by omega, h2, (M_text _ _).2 h3⟩
  · rintro ⟨i, h1, h2, h3⟩
    have h4 := (M_text _ _).1 h3
    have h5 := sub_len d i j hj
    rw [h4] at h5
    have : j - v.length = i := by omega
    rw [this]
    exact ⟨by omega, h2, h4⟩

theorem M_alt1 (t : PT) (u : List UInt8) : M (.alt [t]) u ↔ M t u :=
  ⟨fun h => by cases h with | alt h1 h2 => rw [List.mem_singleton] at h1; subst h1; exact h2, fun h => .alt (List.mem_singleton.2 rfl) h⟩
theorem via_textA (v d : List UInt8) (f : Nat → Bool) : Via (M (.alt [.seq (v.map fun c => .chr [c])])) d f (txtF f v d) := by
  intro j hj
  rw [via_text v d f j hj]
  exact exists_congr fun i => by rw [M_alt1]

end Go.Proofs.YtlljggefbngkeaaGreatDoor

namespace Go.Proofs.YtlljggefbngkeaaGreatDoor
open Go.RowKit

theorem PRepL_at {P : List Pat} : ∀ {l : List PT} {ks : List Nat}, PRepL P l ks → l.length = ks.length ∧ ∀ (m : Nat) (t : PT), l[m]? = some t → ∃ k, ks[m]? = some k ∧ PRep P t k
  | [], [], _ => ⟨rfl, fun m t h => by simp at h⟩
  | t :: l, k :: ks, h => by
    rw [PRepL] at h
    obtain ⟨h1, h2⟩ := PRepL_at h.2
    refine ⟨by simp [h1], fun m u hm => ?_⟩
    match m with
    | 0 => simp at hm; subst hm; exact ⟨k, rfl, h.1⟩
    | m + 1 => simpa using h2 m u (by simpa using hm)
  | [], k :: ks, h => by simp [PRepL] at h
  | t :: l, [], h => by simp [PRepL] at h

theorem freshL_any : ∀ l : List PT, freshL l = l.any fresh
  | [] => by rw [freshL]; rfl
  | t :: l => by rw [freshL, freshL_any l]; rfl

/-- the numbers of a list, in memory -/
theorem ints_cell {w : World} {ao : Option Addr} {cp : Nat} {ks : List Nat} (h : w.ownsRow 0 3 1 (.slice ao ks.length cp) ks.length (nums ks)) {m k : Nat} (hk : ks[m]? = some k) : ∃ gs, ao = some ⟨gs, 0, none⟩ ∧ w.cell? ⟨gs, m, none⟩ = some (.int .i64 k) := by
  have hm := (List.getElem?_eq_some_iff.1 hk).1
  rcases h.2 with ⟨_, h0⟩ | ⟨g, cap, cur, hv, _⟩
  · omega
  · obtain ⟨rfl, rfl⟩ : ao = some ⟨g, 0, none⟩ ∧ cp = cap := by simpa using hv
    refine ⟨g, rfl, ?_⟩
    rw [World.ownsRow.cellAt h m (by omega)]
    simp [nums, hk]

set_option maxRecDepth 100000 in
set_option maxHeartbeats 1600000 in
theorem ends_seq (l : List PT) (ih : ∀ t, t ∈ l → EndsSaid t) : EndsSaid (.seq l) := by
  intro w gp cap P xs k d g c f hPM hPl hrep hB hd
  rw [PRep] at hrep
  obtain ⟨ks, hrep, hL⟩ := hrep
  obtain ⟨hk, ao, cp, p0, p1, p2, hsub⟩ := hPM.cells hrep
  obtain ⟨hlen, hat⟩ := PRepL_at hL
  obtain ⟨i0, hi0, hz0, hz1, hz2⟩ := info_parts Tryz.infoBool
  have hk1 : (k : Int) < (P.length : Int) := by omega
  have hkl : ks.length ≤ maxLen := by
    rcases hsub.2 with ⟨_, h0⟩ | ⟨_, _, _, _, _, _, h1, h2, _⟩
    · show ks.length ≤ _; rw [show ks.length = 0 from h0]; unfold maxLen; omega
    · exact Nat.le_trans h1 h2
  unfold maxLen at hkl
  have HB := hide (And.intro hB (And.intro hPM (And.intro hsub (And.intro hat ih))))
  have hgl := hB.lt
  clear hPM hrep hB hsub hL hat ih
  simp only at p0 p1 p2
  go_enter Tryz.func44, Tryz.ntmps44
  go_wp2_with (at_make; refine wpList_make_full _ rfl _ _ 77 rfl 0 4 i0 (.bool false) 1 Tryz.underlying77 hi0 hz0 hz1 _ _ _ _ (d.size + 1) rfl rfl (by simp) (by simp) (by rw [hz2]; omega) (by unfold maxLen; omega) (by omega) ?_)
  intro w1 hown hgrow
  obtain ⟨hx, hK1⟩ := ends_pre hgrow
  have x0 := cellOf hx 0
  have HX := hide (And.intro hx hK1)
  clear hown hgrow hx hK1 p0 p1 p2
  simp at x0
  go_wp2_with fail
  go_loopg [3, 13] (l.length + 1) (fun gk av iv wv => ∃ (m g' c' : Nat) (f' : Nat → Bool), iv = .int .i64 m ∧ av = .slice (some ⟨g', 0, none⟩) (d.size + 1) c' ∧ m ≤ l.length ∧ l.length - m < gk ∧ BR wv g' (d.size + 1) c' f' ∧ Via (ML (l.take m)) d.data.toList f f' ∧ K0 w wv ∧ wv.heap[w.heap.size]? = some (.cells #[.int .u8 115, .string ⟨#[]⟩, .slice ao ks.length cp] 90 (0, 0)) ∧ ((g' = g ∧ c' = c) ∨ w.heap.size ≤ g') ∧ (freshL (l.take m) = true → w.heap.size ≤ g'))
  case atStart => exact ⟨0, g, c, f, rfl, rfl, Nat.zero_le _, by omega, (unhide HB).1.k0 (unhide HX).2, Via.seq0 _ _, (unhide HX).2, (unhide HX).1, Or.inl ⟨rfl, rfl⟩, by intro h; simp [freshL] at h⟩
  case round =>
    clear x0
    obtain ⟨m, g', c', f', rfl, rfl, hm, hgk, hR, hV, hK, hx, hg', hfr⟩ := hrel
    have x2 := cellOf hx 2
    simp at x2
    by_cases hlt : m < l.length
    · have hlm : (m : Int) < (ks.length : Int) := by omega
      have hm0 : (0 : Int) ≤ (m : Int) := by omega
      obtain ⟨km, hkm, hrepm⟩ := (unhide HB).2.2.2.1 m l[m] (List.getElem?_eq_getElem hlt)
      obtain ⟨gs, rfl, hcs0⟩ := ints_cell (unhide HB).2.2.1 hkm
      have hcs : wr.cell? ⟨gs, m, none⟩ = some (.int .i64 km) := by
        rw [World.cell?_of_block (w := w) (hK.heap (World.block_lt_of_cell? w _ hcs0))]; exact hcs0
      have HE := hide ((unhide HB).2.2.2.2 l[m] (List.getElem_mem hlt) wr gp cap P xs km d g' c' f' ((unhide HB).2.1.k0 hK) hPl hrepm hR hd)
      have HF := hide (And.intro hV (And.intro hK (And.intro hx (And.intro hg' (And.intro hfr hR.lt)))))
      clear hV hK hx hg' hfr hrepm hR hcs0
      go_wp2_with (go_at_call 44; refine (unhide HE).mono ?_; rintro e w3 ⟨g3, c3, f3, rfl, hR3, hV3, hK3, hg3, hfr3⟩)
      go_roundg (gk - 1)
      case measure => omega
      case rel =>
        obtain ⟨hV, hK, hx, hg', hfr, hgl'⟩ := unhide HF
        have htk : l.take (m + 1) = l.take m ++ [l[m]] := List.take_succ_eq_append_getElem hlt
        have hKs := hK.size
        refine ⟨m + 1, g3, c3, f3, by go_num, rfl, by omega, by omega, hR3, by rw [htk]; exact hV.seq1 hV3, hK.trans hK3, (hK3.heap (heap_lt hx)).trans hx, ?_, ?_⟩
        · rcases hg3 with ⟨rfl, rfl⟩ | h3
          · exact hg'
          · right; omega
        · rw [htk, freshL_any, List.any_append, ← freshL_any]
          intro h
          simp only [Bool.or_eq_true] at h
          rcases h with h | h
          · rcases hg3 with ⟨rfl, rfl⟩ | h3
            · exact hfr h
            · omega
          · have := hfr3 (by simpa using h)
            omega
    · obtain rfl : m = l.length := by omega
      have hlm : ¬ ((l.length : Int) < (ks.length : Int)) := by omega
      rw [List.take_length] at hV hfr
      have HF := hide (And.intro hV (And.intro hK (And.intro hg' hfr)))
      clear hV hK hg' hfr
      rw [← hlen] at x2
      go_wp2
      go_ret
      exact ⟨g', c', f', rfl, hR, (unhide HF).1.seqM, (unhide HF).2.1, (unhide HF).2.2.1, by rw [fresh]; exact (unhide HF).2.2.2⟩

set_option maxRecDepth 100000 in
set_option maxHeartbeats 1600000 in
theorem ends_alt (l : List PT) (ih : ∀ t, t ∈ l → EndsSaid t) : EndsSaid (.alt l) := by
  intro w gp cap P xs k d g c f hPM hPl hrep hB hd
  rw [PRep] at hrep
  rcases hrep with hrep | ⟨v, hv, rfl, hrep⟩
  case inr =>
    refine (ends_text v hv w gp cap P xs k d g c f hPM hPl hrep hB hd).mono ?_
    rintro e w' ⟨g', rfl, h1, h2, h3⟩
    exact ⟨g', _, _, rfl, h1, via_textA v _ f, h2, .inr h3, fun _ => h3⟩
  obtain ⟨ks, hrep, hL⟩ := hrep
  obtain ⟨hk, ao, cp, p0, p1, p2, hsub⟩ := hPM.cells hrep
  obtain ⟨hlen, hat⟩ := PRepL_at hL
  obtain ⟨i0, hi0, hz0, hz1, hz2⟩ := info_parts Tryz.infoBool
  have hk1 : (k : Int) < (P.length : Int) := by omega
  have hkl : ks.length ≤ maxLen := by
    rcases hsub.2 with ⟨_, h0⟩ | ⟨_, _, _, _, _, _, h1, h2, _⟩
    · show ks.length ≤ _; rw [show ks.length = 0 from h0]; unfold maxLen; omega
    · exact Nat.le_trans h1 h2
  unfold maxLen at hkl
  have HB := hide (And.intro hB (And.intro hPM (And.intro hsub (And.intro hat ih))))
  have hgl := hB.lt
  clear hPM hrep hB hsub hL hat ih
  simp only at p0 p1 p2
  go_enter Tryz.func44, Tryz.ntmps44
  go_wp2_with (at_make; refine wpList_make_full _ rfl _ _ 77 rfl 0 4 i0 (.bool false) 1 Tryz.underlying77 hi0 hz0 hz1 _ _ _ _ (d.size + 1) rfl rfl (by simp) (by simp) (by rw [hz2]; omega) (by unfold maxLen; omega) (by omega) ?_)
  intro w1 hown hgrow
  obtain ⟨hx, hK1⟩ := ends_pre hgrow
  have x0 := cellOf hx 0
  have HX := hide (And.intro hx hK1)
  have HR0 := hide (BR.made hown)
  clear hown hgrow hx hK1 p0 p1 p2
  simp at x0
  go_wp2_with fail
  go_loopg [10, 14] (l.length + 1) (fun gk av iv wv => ∃ (m g' : Nat) (f' : Nat → Bool), iv = .int .i64 m ∧ av = .slice (some ⟨g', 0, none⟩) (d.size + 1) (d.size + 1) ∧ m ≤ l.length ∧ l.length - m < gk ∧ BR wv g' (d.size + 1) (d.size + 1) f' ∧ Via (M (.alt (l.take m))) d.data.toList f f' ∧ K0 w wv ∧ wv.heap[w.heap.size]? = some (.cells #[.int .u8 97, .string ⟨#[]⟩, .slice ao ks.length cp] 90 (0, 0)) ∧ w.heap.size ≤ g')
  case atStart => exact ⟨0, w.heap.size + 1, _, rfl, rfl, Nat.zero_le _, by omega, unhide HR0, Via.alt0 _ _, (unhide HX).2, (unhide HX).1, by omega⟩
  case round =>
    clear x0 HR0
    obtain ⟨m, g', f', rfl, rfl, hm, hgk, hR, hV, hK, hx, hg'⟩ := hrel
    have x2 := cellOf hx 2
    simp at x2
    by_cases hlt : m < l.length
    · have hlm : (m : Int) < (ks.length : Int) := by omega
      have hm0 : (0 : Int) ≤ (m : Int) := by omega
      obtain ⟨km, hkm, hrepm⟩ := (unhide HB).2.2.2.1 m l[m] (List.getElem?_eq_getElem hlt)
      obtain ⟨gs, rfl, hcs0⟩ := ints_cell (unhide HB).2.2.1 hkm
      have hcs : wr.cell? ⟨gs, m, none⟩ = some (.int .i64 km) := by
        rw [World.cell?_of_block (w := w) (hK.heap (World.block_lt_of_cell? w _ hcs0))]; exact hcs0
      have HE := hide ((unhide HB).2.2.2.2 l[m] (List.getElem_mem hlt) wr gp cap P xs km d g c f ((unhide HB).2.1.k0 hK) hPl hrepm ((unhide HB).1.k0 hK) hd)
      have HF := hide (And.intro hV (And.intro hK (And.intro hx (And.intro hg' hR))))
      clear hV hK hx hg' hrepm hR hcs0
      go_wp2_with (go_at_call 44; refine (unhide HE).mono ?_; rintro e w3 ⟨g3, c3, f3, rfl, hR3, hV3, hK3, hg3, hfr3⟩)
      refine (both_any ((unhide HF).2.2.2.2.k0 hK3) hR3 (by omega)).mono ?_
      rintro e w4 ⟨g4, rfl, hg4, hR4, hK4⟩
      go_wp2_with fail
      go_roundg (gk - 1)
      case measure => omega
      case rel =>
        obtain ⟨hV, hK, hx, hg', hR⟩ := unhide HF
        have htk : l.take (m + 1) = l.take m ++ [l[m]] := List.take_succ_eq_append_getElem hlt
        have hKs := hK.size
        have hK3s := hK3.size
        exact ⟨m + 1, g4, _, by go_num, rfl, by omega, by omega, hR4, by rw [htk]; exact hV.alt1 hV3, (hK.trans hK3).trans hK4, ((hK3.trans hK4).heap (heap_lt hx)).trans hx, by omega⟩
    · obtain rfl : m = l.length := by omega
      have hlm : ¬ ((l.length : Int) < (ks.length : Int)) := by omega
      rw [List.take_length] at hV
      have HF := hide (And.intro hV (And.intro hK hg'))
      clear hV hK hg'
      rw [← hlen] at x2
      go_wp2
      go_ret
      exact ⟨g', d.size + 1, f', rfl, hR, (unhide HF).1, (unhide HF).2.1, Or.inr (unhide HF).2.2, fun _ => (unhide HF).2.2⟩

set_option maxRecDepth 100000 in
set_option maxHeartbeats 1600000 in
theorem ends_opt (t : PT) (ih : EndsSaid t) : EndsSaid (.rep 63 t) := by
  intro w gp cap P xs k d g c f hPM hPl hrep hB hd
  rw [PRep] at hrep
  obtain ⟨_, j, hrep, hL⟩ := hrep
  obtain ⟨hk, ao, cp, p0, p1, p2, hsub⟩ := hPM.cells hrep
  obtain ⟨gs, rfl, hcs0⟩ := ints_cell (ks := [j]) hsub (m := 0) (k := j) rfl
  obtain ⟨i0, hi0, hz0, hz1, hz2⟩ := info_parts Tryz.infoBool
  have hk1 : (k : Int) < (P.length : Int) := by omega
  have HB := hide (And.intro hB (And.intro hPM (And.intro hL (And.intro hcs0 ih))))
  have hgl := hB.lt
  clear hPM hrep hB hsub hL ih hcs0
  simp only at p0 p1 p2
  go_enter Tryz.func44, Tryz.ntmps44
  go_wp2_with (at_make; refine wpList_make_full _ rfl _ _ 77 rfl 0 4 i0 (.bool false) 1 Tryz.underlying77 hi0 hz0 hz1 _ _ _ _ (d.size + 1) rfl rfl (by simp) (by simp) (by rw [hz2]; omega) (by unfold maxLen; omega) (by omega) ?_)
  intro w1 hown hgrow
  obtain ⟨hx, hK1⟩ := ends_pre hgrow
  have x0 := cellOf hx 0
  have x2 := cellOf hx 2
  have HX := hide (And.intro hx hK1)
  have hcs : w1.cell? ⟨gs, 0, none⟩ = some (.int .i64 j) := by
    rw [World.cell?_of_block (w := w) (hK1.heap (World.block_lt_of_cell? w _ (unhide HB).2.2.2.1))]; exact (unhide HB).2.2.2.1
  have HE := hide ((unhide HB).2.2.2.2 w1 gp cap P xs j d g c f ((unhide HB).2.1.k0 hK1) hPl (unhide HB).2.2.1 ((unhide HB).1.k0 hK1) hd)
  clear hown hgrow hx hK1 p0 p1 p2
  simp at x0 x2
  go_wp2_with (go_at_call 44; refine (unhide HE).mono ?_; rintro e w3 ⟨g3, c3, f3, rfl, hR3, hV3, hK3, hg3, hfr3⟩)
  refine (both_any (((unhide HB).1.k0 (unhide HX).2).k0 hK3) hR3 (by omega)).mono ?_
  rintro e w4 ⟨g4, rfl, hg4, hR4, hK4⟩
  go_wp2
  go_ret
  have hs1 := (unhide HX).2.size
  have hs3 := hK3.size
  exact ⟨g4, _, _, rfl, hR4, hV3.opt, ((unhide HX).2.trans hK3).trans hK4, Or.inr (by omega), fun _ => by omega⟩

end Go.Proofs.YtlljggefbngkeaaGreatDoor
