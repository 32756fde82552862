import Derived.Test.YtlljggefbngkeaaGreatDoorU10
namespace Go.Proofs.YtlljggefbngkeaaGreatDoor
open Go.RowKit

def RowsPost (w : World) (cc : Int) (t : PT) (d : ByteArray) (f : Nat → Bool) (e : Ending) (w' : World) : Prop :=
  ∃ g' f', e = .returned (.slice (some ⟨g', 0, none⟩) (d.size + 1) (d.size + 1)) ∧ BR w' g' (d.size + 1) (d.size + 1) f' ∧ Via (M (.rep cc t)) d.data.toList f f' ∧ K0 w w' ∧ w.heap.size ≤ g'

theorem miss_bd (n : Nat) (f : Nat → Bool) : miss n f ≤ n := by
  have := List.length_filter_le (fun j => !f j) (List.range n)
  unfold miss
  simpa using this

def RowsSaid (cc : Int) (t : PT) : Prop :=
  ∀ (w : World) (gp cap : Nat) (P : List Pat) (xs : List Value) (j gs cp : Nat) (d : ByteArray) (g c : Nat) (f : Nat → Bool), PM w gp cap P xs → P.length ≤ 100000 → PRep P t j → w.cell? ⟨gs, 0, none⟩ = some (.int .i64 j) → BR w g (d.size + 1) c f → d.size ≤ 200000000 →
    Calls Tryz.prog 63 #[.slice (some ⟨gp, 0, none⟩) P.length cap, .agg #[.int .u8 cc, .string ⟨#[]⟩, .slice (some ⟨gs, 0, none⟩) 1 cp], .string d, .slice (some ⟨g, 0, none⟩) (d.size + 1) c] w fun e w' => RowsPost w cc t d f e w'

/-- the places struck out so far -/
def strike (m : Nat) (a o : Nat → Bool) (j : Nat) : Bool := if j < m then a j && !o j else a j
/-- is one left -/
def left (m : Nat) (a o : Nat → Bool) : Bool := (List.range m).any fun j => a j && !o j

theorem left_succ (m : Nat) (a o : Nat → Bool) : left (m + 1) a o = (left m a o || (a m && !o m)) := by
  simp [left, List.range_succ]
theorem left_no {m : Nat} {a o : Nat → Bool} (h : left m a o = false) (j : Nat) (hj : j < m) : (a j && !o j) = false := by
  simp only [left, List.any_eq_false] at h
  simpa using h j (by simpa using hj)
theorem left_yes {m : Nat} {a o : Nat → Bool} (h : left m a o = true) : ∃ j, j < m ∧ a j = true ∧ o j = false := by
  simp only [left, List.any_eq_true, List.mem_range, Bool.and_eq_true, Bool.not_eq_true'] at h
  exact h

theorem strike_step (m : Nat) (a o : Nat → Bool) (j : Nat) : upd (strike m a o) m (a m && !o m) j = strike (m + 1) a o j := by
  unfold upd strike
  by_cases h : j = m
  · subst h; simp
  · rw [if_neg h]
    have : (j < m + 1) = (j < m) := by simp; omega
    simp only [this]

def RowsRel (w : World) (d : ByteArray) (st : Bool) (t : PT) (f : Nat → Bool) (x : Obj) (gk : Nat) (av ov mv : Value) (wv : World) : Prop :=
  ∃ (g' c' go : Nat) (fa fo : Nat → Bool), av = .slice (some ⟨g', 0, none⟩) (d.size + 1) c' ∧ ov = .slice (some ⟨go, 0, none⟩) (d.size + 1) (d.size + 1) ∧ BR wv g' (d.size + 1) c' fa ∧ BR wv go (d.size + 1) (d.size + 1) fo ∧ w.heap.size ≤ go ∧ K0 w wv ∧ wv.heap[w.heap.size]? = some x ∧ RowsInv st t d.data.toList f fo fa ∧
    ((mv = .bool true ∧ miss (d.size + 1) fo < gk) ∨ (mv = .bool false ∧ ∀ j, j ≤ d.data.toList.length → fa j = false))

set_option maxRecDepth 100000 in
set_option maxHeartbeats 3200000 in
theorem rows_any (st : Bool) (t : PT) (hfr : fresh t = true) (ih : EndsSaid t) : RowsSaid (if st then 42 else 43) t := by
  intro w gp cap P xs j gs cp d g c f hPM hPl hrep hcs0 hB hd
  obtain ⟨i0, hi0, hz0, hz1, hz2⟩ := info_parts Tryz.infoBool
  have HB := hide (And.intro hB (And.intro hPM (And.intro hrep (And.intro hcs0 (And.intro ih hfr)))))
  have hgl := hB.lt
  have hdl : d.data.toList.length = d.size := by simp
  have Hdl := hide hdl
  clear hPM hrep hB hcs0 ih hfr hdl
  have loop : ∀ (w1 : World) (gk0 : Nat) (go : Nat) (fo : Nat → Bool), BR w1 go (d.size + 1) (d.size + 1) fo → w.heap.size ≤ go → K0 w w1 → w1.heap[w.heap.size]? = some (.cells #[.int .u8 (if st then 42 else 43), .string ⟨#[]⟩, .slice (some ⟨gs, 0, none⟩) 1 cp] 90 (0, 0)) → RowsInv st t d.data.toList f fo f → miss (d.size + 1) fo < gk0 →
      RowsRel w d st t f (.cells #[.int .u8 (if st then 42 else 43), .string ⟨#[]⟩, .slice (some ⟨gs, 0, none⟩) 1 cp] 90 (0, 0)) gk0 (.slice (some ⟨g, 0, none⟩) (d.size + 1) c) (.slice (some ⟨go, 0, none⟩) (d.size + 1) (d.size + 1)) (.bool true) w1 :=
    fun w1 gk0 go fo h1 h2 h3 h4 h5 h6 => ⟨g, c, go, f, fo, rfl, rfl, (unhide HB).1.k0 h3, h1, h2, h3, h4, h5, Or.inl ⟨rfl, h6⟩⟩
  have HL := hide loop
  clear loop
  cases st with
  | true =>
    simp only [if_true] at HL ⊢
    go_enter Tryz.func63, Tryz.ntmps63
    go_wp2_with (at_make; refine wpList_make_full _ rfl _ _ 77 rfl 0 4 i0 (.bool false) 1 Tryz.underlying77 hi0 hz0 hz1 _ _ _ _ (d.size + 1) rfl rfl (by simp) (by simp) (by rw [hz2]; omega) (by unfold maxLen; omega) (by omega) ?_)
    intro w1 hown hgrow
    obtain ⟨hx, hK1⟩ := ends_pre hgrow
    have x0 := cellOf hx 0
    have HX := hide (And.intro hx hK1)
    have HR0 := hide (BR.made hown)
    have HBo := hide (both_any (unhide HR0) ((unhide HB).1.k0 hK1) (by omega))
    clear hown hgrow hx hK1
    simp at x0
    go_wp2_with (go_at_call 62; refine (unhide HBo).mono ?_; rintro e w2 ⟨g2, rfl, hg2, hR2, hK2⟩)
    have hs1 := (unhide HX).2.size
    go_loopg [3, 9, 10] (d.size + 2) (fun gk av ov mv wv => RowsRel w d true t f (.cells #[.int .u8 42, .string ⟨#[]⟩, .slice (some ⟨gs, 0, none⟩) 1 cp] 90 (0, 0)) gk av ov mv wv)
    case atStart =>
      refine unhide HL w2 _ g2 f (hR2.congr (fun j _ => by simp)) (by omega) ((unhide HX).2.trans hK2) ((hK2.heap (heap_lt (unhide HX).1)).trans (unhide HX).1) (RowsInv.start _ _ _) ?_
      have := miss_bd (d.size + 1) f
      omega
    case round =>
      obtain ⟨g', c', go, fa, fo, rfl, rfl, hRa, hRo, hgo, hK, hx, hI, hmore⟩ := hrel
      rcases hmore with ⟨rfl, hmiss⟩ | ⟨rfl, hno⟩
      · have x2 := cellOf hx 2
        simp at x2
        have hcs : wr.cell? ⟨gs, 0, none⟩ = some (.int .i64 j) := by
          rw [World.cell?_of_block (w := w) (hK.heap (World.block_lt_of_cell? w _ (unhide HB).2.2.2.1))]; exact (unhide HB).2.2.2.1
        have HE := hide ((unhide HB).2.2.2.2.1 wr gp cap P xs j d g' c' fa ((unhide HB).2.1.k0 hK) hPl (unhide HB).2.2.1 hRa hd)
        have hgo2 := hRo.lt
        have hws := hK.size
        have hxl := heap_lt hx
        have HF := hide (And.intro hRo (And.intro hK (And.intro hx hI)))
        have Hm := hide hmiss
        clear hRa hRo hK hx hI hmiss
        go_wp2_with (go_at_call 44; refine (unhide HE).mono ?_; rintro e w3 ⟨g3, c3, f3, rfl, hR3, hV3, hK3, hg3, hfr3⟩)
        have hg3' := hfr3 (unhide HB).2.2.2.2.2
        have HV := hide hV3
        have HI0 : Hid (BR w3 g3 (d.size + 1) c3 (strike 0 f3 fo) ∧ BR w3 go (d.size + 1) (d.size + 1) fo ∧ K0 w w3 ∧ w3.heap[w.heap.size]? = some (.cells #[.int .u8 42, .string ⟨#[]⟩, .slice (some ⟨gs, 0, none⟩) 1 cp] 90 (0, 0))) :=
          ⟨hR3.congr (fun j _ => by simp [strike]), (unhide HF).1.k0 hK3, (unhide HF).2.1.trans hK3, (hK3.heap hxl).trans (unhide HF).2.2.1⟩
        clear hR3 hV3 hK3 hg3 hfr3 x2 hcs
        go_loopg [10, 11] (d.size + 2) (fun gk mv iv wv => ∃ m : Nat, iv = .int .i64 m ∧ m ≤ d.size + 1 ∧ d.size + 1 - m < gk ∧ mv = .bool (left m f3 fo) ∧ BR wv g3 (d.size + 1) c3 (strike m f3 fo) ∧ BR wv go (d.size + 1) (d.size + 1) fo ∧ K0 w wv ∧ wv.heap[w.heap.size]? = some (.cells #[.int .u8 42, .string ⟨#[]⟩, .slice (some ⟨gs, 0, none⟩) 1 cp] 90 (0, 0)))
        case atStart => exact ⟨0, rfl, Nat.zero_le _, by omega, rfl, (unhide HI0).1, (unhide HI0).2.1, (unhide HI0).2.2.1, (unhide HI0).2.2.2⟩
        case round =>
          clear HI0
          obtain ⟨m, rfl, hm, hgk, rfl, hR, hRo, hK, hx⟩ := hrel
          by_cases hlt : m < d.size + 1
          · have ca := hR.cell m hlt
            have co := hRo.cell m hlt
            have fo' := hR.fz m
            have hmi : (m : Int) < (d.size : Int) + 1 := by omega
            rw [show strike m f3 fo m = f3 m from by simp [strike]] at ca
            have HI2 := hide (And.intro hR (And.intro hRo (And.intro hK hx)))
            clear hR hRo hK hx
            cases hl : left m f3 fo with
            | true =>
              cases hf : f3 m with
              | true =>
                cases ho : fo m with
                | true =>
                  rw [hf] at ca
                  rw [ho] at co
                  have HC := hide (And.intro hf (And.intro ho hl))
                  clear hf ho hl
                  go_wp2
                  go_roundg (gk - 1)
                  case measure => omega
                  case rel =>
                    refine ⟨m + 1, by go_num, by omega, by omega, ?_, ((unhide HI2).1.set m false).congr (fun j _ => ?_), (unhide HI2).2.1.kept (Below.heap_setCell _ _ _ _ (by show go ≠ g3; omega)), (unhide HI2).2.2.1.set (by omega) _ _, (Below.heap_setCell _ _ _ _ (by show w.heap.size ≠ g3; omega)).trans (unhide HI2).2.2.2⟩
                    · rw [left_succ, (unhide HC).1, (unhide HC).2.1, (unhide HC).2.2]; rfl
                    · rw [← strike_step m f3 fo j, (unhide HC).1, (unhide HC).2.1]; rfl
                | false =>
                  rw [hf] at ca
                  rw [ho] at co
                  have HC := hide (And.intro hf (And.intro ho hl))
                  clear hf ho hl
                  go_wp2
                  go_roundg (gk - 1)
                  case measure => omega
                  case rel =>
                    refine ⟨m + 1, by go_num, by omega, by omega, ?_, ((unhide HI2).1.set m true).congr (fun j _ => ?_), (unhide HI2).2.1.kept (Below.heap_setCell _ _ _ _ (by show go ≠ g3; omega)), (unhide HI2).2.2.1.set (by omega) _ _, (Below.heap_setCell _ _ _ _ (by show w.heap.size ≠ g3; omega)).trans (unhide HI2).2.2.2⟩
                    · rw [left_succ, (unhide HC).1, (unhide HC).2.1, (unhide HC).2.2]; rfl
                    · rw [← strike_step m f3 fo j, (unhide HC).1, (unhide HC).2.1]; rfl
              | false =>
                cases ho : fo m with
                | true =>
                  rw [hf] at ca
                  clear co
                  have HC := hide (And.intro hf (And.intro ho hl))
                  clear hf ho hl
                  go_wp2
                  go_roundg (gk - 1)
                  case measure => omega
                  case rel =>
                    refine ⟨m + 1, by go_num, by omega, by omega, ?_, ((unhide HI2).1.set m false).congr (fun j _ => ?_), (unhide HI2).2.1.kept (Below.heap_setCell _ _ _ _ (by show go ≠ g3; omega)), (unhide HI2).2.2.1.set (by omega) _ _, (Below.heap_setCell _ _ _ _ (by show w.heap.size ≠ g3; omega)).trans (unhide HI2).2.2.2⟩
                    · rw [left_succ, (unhide HC).1, (unhide HC).2.1, (unhide HC).2.2]; rfl
                    · rw [← strike_step m f3 fo j, (unhide HC).1, (unhide HC).2.1]; rfl
                | false =>
                  rw [hf] at ca
                  clear co
                  have HC := hide (And.intro hf (And.intro ho hl))
                  clear hf ho hl
                  go_wp2
                  go_roundg (gk - 1)
                  case measure => omega
                  case rel =>
                    refine ⟨m + 1, by go_num, by omega, by omega, ?_, ((unhide HI2).1.set m false).congr (fun j _ => ?_), (unhide HI2).2.1.kept (Below.heap_setCell _ _ _ _ (by show go ≠ g3; omega)), (unhide HI2).2.2.1.set (by omega) _ _, (Below.heap_setCell _ _ _ _ (by show w.heap.size ≠ g3; omega)).trans (unhide HI2).2.2.2⟩
                    · rw [left_succ, (unhide HC).1, (unhide HC).2.1, (unhide HC).2.2]; rfl
                    · rw [← strike_step m f3 fo j, (unhide HC).1, (unhide HC).2.1]; rfl
            | false =>
              cases hf : f3 m with
              | true =>
                cases ho : fo m with
                | true =>
                  rw [hf] at ca
                  rw [ho] at co
                  have HC := hide (And.intro hf (And.intro ho hl))
                  clear hf ho hl
                  go_wp2
                  go_roundg (gk - 1)
                  case measure => omega
                  case rel =>
                    refine ⟨m + 1, by go_num, by omega, by omega, ?_, ((unhide HI2).1.set m false).congr (fun j _ => ?_), (unhide HI2).2.1.kept (Below.heap_setCell _ _ _ _ (by show go ≠ g3; omega)), (unhide HI2).2.2.1.set (by omega) _ _, (Below.heap_setCell _ _ _ _ (by show w.heap.size ≠ g3; omega)).trans (unhide HI2).2.2.2⟩
                    · rw [left_succ, (unhide HC).1, (unhide HC).2.1, (unhide HC).2.2]; rfl
                    · rw [← strike_step m f3 fo j, (unhide HC).1, (unhide HC).2.1]; rfl
                | false =>
                  rw [hf] at ca
                  rw [ho] at co
                  have HC := hide (And.intro hf (And.intro ho hl))
                  clear hf ho hl
                  go_wp2
                  go_roundg (gk - 1)
                  case measure => omega
                  case rel =>
                    refine ⟨m + 1, by go_num, by omega, by omega, ?_, ((unhide HI2).1.set m true).congr (fun j _ => ?_), (unhide HI2).2.1.kept (Below.heap_setCell _ _ _ _ (by show go ≠ g3; omega)), (unhide HI2).2.2.1.set (by omega) _ _, (Below.heap_setCell _ _ _ _ (by show w.heap.size ≠ g3; omega)).trans (unhide HI2).2.2.2⟩
                    · rw [left_succ, (unhide HC).1, (unhide HC).2.1, (unhide HC).2.2]; rfl
                    · rw [← strike_step m f3 fo j, (unhide HC).1, (unhide HC).2.1]; rfl
              | false =>
                cases ho : fo m with
                | true =>
                  rw [hf] at ca
                  clear co
                  have HC := hide (And.intro hf (And.intro ho hl))
                  clear hf ho hl
                  go_wp2
                  go_roundg (gk - 1)
                  case measure => omega
                  case rel =>
                    refine ⟨m + 1, by go_num, by omega, by omega, ?_, ((unhide HI2).1.set m false).congr (fun j _ => ?_), (unhide HI2).2.1.kept (Below.heap_setCell _ _ _ _ (by show go ≠ g3; omega)), (unhide HI2).2.2.1.set (by omega) _ _, (Below.heap_setCell _ _ _ _ (by show w.heap.size ≠ g3; omega)).trans (unhide HI2).2.2.2⟩
                    · rw [left_succ, (unhide HC).1, (unhide HC).2.1, (unhide HC).2.2]; rfl
                    · rw [← strike_step m f3 fo j, (unhide HC).1, (unhide HC).2.1]; rfl
                | false =>
                  rw [hf] at ca
                  clear co
                  have HC := hide (And.intro hf (And.intro ho hl))
                  clear hf ho hl
                  go_wp2
                  go_roundg (gk - 1)
                  case measure => omega
                  case rel =>
                    refine ⟨m + 1, by go_num, by omega, by omega, ?_, ((unhide HI2).1.set m false).congr (fun j _ => ?_), (unhide HI2).2.1.kept (Below.heap_setCell _ _ _ _ (by show go ≠ g3; omega)), (unhide HI2).2.2.1.set (by omega) _ _, (Below.heap_setCell _ _ _ _ (by show w.heap.size ≠ g3; omega)).trans (unhide HI2).2.2.2⟩
                    · rw [left_succ, (unhide HC).1, (unhide HC).2.1, (unhide HC).2.2]; rfl
                    · rw [← strike_step m f3 fo j, (unhide HC).1, (unhide HC).2.1]; rfl
          · obtain rfl : m = d.size + 1 := by omega
            have HBo := hide (both_any hRo hR (by omega))
            have HI2 := hide (And.intro hR (And.intro hRo (And.intro hK hx)))
            clear hR hRo hK hx
            go_wp2_with (go_at_call 62; refine (unhide HBo).mono ?_; rintro e w6 ⟨g6, rfl, hg6, hR6, hK6⟩)
            go_roundg (miss (d.size + 1) fo)
            case measure => exact unhide Hm
            case rel =>
              have hs := (unhide HI2).2.2.1.size
              refine ⟨g3, c3, g6, fun j => f3 j && !fo j, fun j => fo j || (f3 j && !fo j), rfl, rfl, ((unhide HI2).1.k0 hK6).congr (fun j hj => by simp [strike, hj]), hR6.congr (fun j hj => by simp [strike, hj]), by omega, (unhide HI2).2.2.1.trans hK6, (hK6.heap (heap_lt (unhide HI2).2.2.2)).trans (unhide HI2).2.2.2, RowsInv.step (unhide HF).2.2.2 (unhide HV), ?_⟩
              cases hl : left (d.size + 1) f3 fo with
              | true =>
                obtain ⟨k, hk, hk1, hk2⟩ := left_yes hl
                exact Or.inl ⟨rfl, miss_lt (fun j _ h => by simp [h]) k hk hk2 (by simp [hk1, hk2])⟩
              | false => exact Or.inr ⟨rfl, fun j hj => left_no hl j (by rw [unhide Hdl] at hj; omega)⟩
      · have HF := hide (hI.done hno)
        clear hI hno
        go_wp2
        go_ret
        exact ⟨go, fo, rfl, hRo, unhide HF, hK, hgo⟩
  | false =>
    simp only [Bool.false_eq_true, if_false] at HL ⊢
    go_enter Tryz.func63, Tryz.ntmps63
    go_wp2_with (at_make; refine wpList_make_full _ rfl _ _ 77 rfl 0 4 i0 (.bool false) 1 Tryz.underlying77 hi0 hz0 hz1 _ _ _ _ (d.size + 1) rfl rfl (by simp) (by simp) (by rw [hz2]; omega) (by unfold maxLen; omega) (by omega) ?_)
    intro w1 hown hgrow
    obtain ⟨hx, hK1⟩ := ends_pre hgrow
    have x0 := cellOf hx 0
    have HX := hide (And.intro hx hK1)
    have HR0 := hide (BR.made hown)
    clear hown hgrow hx hK1
    simp at x0
    go_wp2_with fail
    have hs1 := (unhide HX).2.size
    go_loopg [3, 9, 10] (d.size + 2) (fun gk av ov mv wv => RowsRel w d false t f (.cells #[.int .u8 43, .string ⟨#[]⟩, .slice (some ⟨gs, 0, none⟩) 1 cp] 90 (0, 0)) gk av ov mv wv)
    case atStart =>
      refine unhide HL w1 _ _ _ (unhide HR0) (by omega) (unhide HX).2 (unhide HX).1 (RowsInv.plus _ _ _) ?_
      have := miss_bd (d.size + 1) (fun _ => false)
      omega
    case round =>
      obtain ⟨g', c', go, fa, fo, rfl, rfl, hRa, hRo, hgo, hK, hx, hI, hmore⟩ := hrel
      rcases hmore with ⟨rfl, hmiss⟩ | ⟨rfl, hno⟩
      · have x2 := cellOf hx 2
        simp at x2
        have hcs : wr.cell? ⟨gs, 0, none⟩ = some (.int .i64 j) := by
          rw [World.cell?_of_block (w := w) (hK.heap (World.block_lt_of_cell? w _ (unhide HB).2.2.2.1))]; exact (unhide HB).2.2.2.1
        have HE := hide ((unhide HB).2.2.2.2.1 wr gp cap P xs j d g' c' fa ((unhide HB).2.1.k0 hK) hPl (unhide HB).2.2.1 hRa hd)
        have hgo2 := hRo.lt
        have hws := hK.size
        have hxl := heap_lt hx
        have HF := hide (And.intro hRo (And.intro hK (And.intro hx hI)))
        have Hm := hide hmiss
        clear hRa hRo hK hx hI hmiss
        go_wp2_with (go_at_call 44; refine (unhide HE).mono ?_; rintro e w3 ⟨g3, c3, f3, rfl, hR3, hV3, hK3, hg3, hfr3⟩)
        have hg3' := hfr3 (unhide HB).2.2.2.2.2
        have HV := hide hV3
        have HI0 : Hid (BR w3 g3 (d.size + 1) c3 (strike 0 f3 fo) ∧ BR w3 go (d.size + 1) (d.size + 1) fo ∧ K0 w w3 ∧ w3.heap[w.heap.size]? = some (.cells #[.int .u8 43, .string ⟨#[]⟩, .slice (some ⟨gs, 0, none⟩) 1 cp] 90 (0, 0))) :=
          ⟨hR3.congr (fun j _ => by simp [strike]), (unhide HF).1.k0 hK3, (unhide HF).2.1.trans hK3, (hK3.heap hxl).trans (unhide HF).2.2.1⟩
        clear hR3 hV3 hK3 hg3 hfr3 x2 hcs
        go_loopg [10, 11] (d.size + 2) (fun gk mv iv wv => ∃ m : Nat, iv = .int .i64 m ∧ m ≤ d.size + 1 ∧ d.size + 1 - m < gk ∧ mv = .bool (left m f3 fo) ∧ BR wv g3 (d.size + 1) c3 (strike m f3 fo) ∧ BR wv go (d.size + 1) (d.size + 1) fo ∧ K0 w wv ∧ wv.heap[w.heap.size]? = some (.cells #[.int .u8 43, .string ⟨#[]⟩, .slice (some ⟨gs, 0, none⟩) 1 cp] 90 (0, 0)))
        case atStart => exact ⟨0, rfl, Nat.zero_le _, by omega, rfl, (unhide HI0).1, (unhide HI0).2.1, (unhide HI0).2.2.1, (unhide HI0).2.2.2⟩
        case round =>
          clear HI0
          obtain ⟨m, rfl, hm, hgk, rfl, hR, hRo, hK, hx⟩ := hrel
          by_cases hlt : m < d.size + 1
          · have ca := hR.cell m hlt
            have co := hRo.cell m hlt
            have fo' := hR.fz m
            have hmi : (m : Int) < (d.size : Int) + 1 := by omega
            rw [show strike m f3 fo m = f3 m from by simp [strike]] at ca
            have HI2 := hide (And.intro hR (And.intro hRo (And.intro hK hx)))
            clear hR hRo hK hx
            cases hl : left m f3 fo with
            | true =>
              cases hf : f3 m with
              | true =>
                cases ho : fo m with
                | true =>
                  rw [hf] at ca
                  rw [ho] at co
                  have HC := hide (And.intro hf (And.intro ho hl))
                  clear hf ho hl
                  go_wp2
                  go_roundg (gk - 1)
                  case measure => omega
                  case rel =>
                    refine ⟨m + 1, by go_num, by omega, by omega, ?_, ((unhide HI2).1.set m false).congr (fun j _ => ?_), (unhide HI2).2.1.kept (Below.heap_setCell _ _ _ _ (by show go ≠ g3; omega)), (unhide HI2).2.2.1.set (by omega) _ _, (Below.heap_setCell _ _ _ _ (by show w.heap.size ≠ g3; omega)).trans (unhide HI2).2.2.2⟩
                    · rw [left_succ, (unhide HC).1, (unhide HC).2.1, (unhide HC).2.2]; rfl
                    · rw [← strike_step m f3 fo j, (unhide HC).1, (unhide HC).2.1]; rfl
                | false =>
                  rw [hf] at ca
                  rw [ho] at co
                  have HC := hide (And.intro hf (And.intro ho hl))
                  clear hf ho hl
                  go_wp2
                  go_roundg (gk - 1)
                  case measure => omega
                  case rel =>
                    refine ⟨m + 1, by go_num, by omega, by omega, ?_, ((unhide HI2).1.set m true).congr (fun j _ => ?_), (unhide HI2).2.1.kept (Below.heap_setCell _ _ _ _ (by show go ≠ g3; omega)), (unhide HI2).2.2.1.set (by omega) _ _, (Below.heap_setCell _ _ _ _ (by show w.heap.size ≠ g3; omega)).trans (unhide HI2).2.2.2⟩
                    · rw [left_succ, (unhide HC).1, (unhide HC).2.1, (unhide HC).2.2]; rfl
                    · rw [← strike_step m f3 fo j, (unhide HC).1, (unhide HC).2.1]; rfl
              | false =>
                cases ho : fo m with
                | true =>
                  rw [hf] at ca
                  clear co
                  have HC := hide (And.intro hf (And.intro ho hl))
                  clear hf ho hl
                  go_wp2
                  go_roundg (gk - 1)
                  case measure => omega
                  case rel =>
                    refine ⟨m + 1, by go_num, by omega, by omega, ?_, ((unhide HI2).1.set m false).congr (fun j _ => ?_), (unhide HI2).2.1.kept (Below.heap_setCell _ _ _ _ (by show go ≠ g3; omega)), (unhide HI2).2.2.1.set (by omega) _ _, (Below.heap_setCell _ _ _ _ (by show w.heap.size ≠ g3; omega)).trans (unhide HI2).2.2.2⟩
                    · rw [left_succ, (unhide HC).1, (unhide HC).2.1, (unhide HC).2.2]; rfl
                    · rw [← strike_step m f3 fo j, (unhide HC).1, (unhide HC).2.1]; rfl
                | false =>
                  rw [hf] at ca
                  clear co
                  have HC := hide (And.intro hf (And.intro ho hl))
                  clear hf ho hl
                  go_wp2
                  go_roundg (gk - 1)
                  case measure => omega
                  case rel =>
                    refine ⟨m + 1, by go_num, by omega, by omega, ?_, ((unhide HI2).1.set m false).congr (fun j _ => ?_), (unhide HI2).2.1.kept (Below.heap_setCell _ _ _ _ (by show go ≠ g3; omega)), (unhide HI2).2.2.1.set (by omega) _ _, (Below.heap_setCell _ _ _ _ (by show w.heap.size ≠ g3; omega)).trans (unhide HI2).2.2.2⟩
                    · rw [left_succ, (unhide HC).1, (unhide HC).2.1, (unhide HC).2.2]; rfl
                    · rw [← strike_step m f3 fo j, (unhide HC).1, (unhide HC).2.1]; rfl
            | false =>
              cases hf : f3 m with
              | true =>
                cases ho : fo m with
                | true =>
                  rw [hf] at ca
                  rw [ho] at co
                  have HC := hide (And.intro hf (And.intro ho hl))
                  clear hf ho hl
                  go_wp2
                  go_roundg (gk - 1)
                  case measure => omega
                  case rel =>
                    refine ⟨m + 1, by go_num, by omega, by omega, ?_, ((unhide HI2).1.set m false).congr (fun j _ => ?_), (unhide HI2).2.1.kept (Below.heap_setCell _ _ _ _ (by show go ≠ g3; omega)), (unhide HI2).2.2.1.set (by omega) _ _, (Below.heap_setCell _ _ _ _ (by show w.heap.size ≠ g3; omega)).trans (unhide HI2).2.2.2⟩
                    · rw [left_succ, (unhide HC).1, (unhide HC).2.1, (unhide HC).2.2]; rfl
                    · rw [← strike_step m f3 fo j, (unhide HC).1, (unhide HC).2.1]; rfl
                | false =>
                  rw [hf] at ca
                  rw [ho] at co
                  have HC := hide (And.intro hf (And.intro ho hl))
                  clear hf ho hl
                  go_wp2
                  go_roundg (gk - 1)
                  case measure => omega
                  case rel =>
                    refine ⟨m + 1, by go_num, by omega, by omega, ?_, ((unhide HI2).1.set m true).congr (fun j _ => ?_), (unhide HI2).2.1.kept (Below.heap_setCell _ _ _ _ (by show go ≠ g3; omega)), (unhide HI2).2.2.1.set (by omega) _ _, (Below.heap_setCell _ _ _ _ (by show w.heap.size ≠ g3; omega)).trans (unhide HI2).2.2.2⟩
                    · rw [left_succ, (unhide HC).1, (unhide HC).2.1, (unhide HC).2.2]; rfl
                    · rw [← strike_step m f3 fo j, (unhide HC).1, (unhide HC).2.1]; rfl
              | false =>
                cases ho : fo m with
                | true =>
                  rw [hf] at ca
                  clear co
                  have HC := hide (And.intro hf (And.intro ho hl))
                  clear hf ho hl
                  go_wp2
                  go_roundg (gk - 1)
                  case measure => omega
                  case rel =>
                    refine ⟨m + 1, by go_num, by omega, by omega, ?_, ((unhide HI2).1.set m false).congr (fun j _ => ?_), (unhide HI2).2.1.kept (Below.heap_setCell _ _ _ _ (by show go ≠ g3; omega)), (unhide HI2).2.2.1.set (by omega) _ _, (Below.heap_setCell _ _ _ _ (by show w.heap.size ≠ g3; omega)).trans (unhide HI2).2.2.2⟩
                    · rw [left_succ, (unhide HC).1, (unhide HC).2.1, (unhide HC).2.2]; rfl
                    · rw [← strike_step m f3 fo j, (unhide HC).1, (unhide HC).2.1]; rfl
                | false =>
                  rw [hf] at ca
                  clear co
                  have HC := hide (And.intro hf (And.intro ho hl))
                  clear hf ho hl
                  go_wp2
                  go_roundg (gk - 1)
                  case measure => omega
                  case rel =>
                    refine ⟨m + 1, by go_num, by omega, by omega, ?_, ((unhide HI2).1.set m false).congr (fun j _ => ?_), (unhide HI2).2.1.kept (Below.heap_setCell _ _ _ _ (by show go ≠ g3; omega)), (unhide HI2).2.2.1.set (by omega) _ _, (Below.heap_setCell _ _ _ _ (by show w.heap.size ≠ g3; omega)).trans (unhide HI2).2.2.2⟩
                    · rw [left_succ, (unhide HC).1, (unhide HC).2.1, (unhide HC).2.2]; rfl
                    · rw [← strike_step m f3 fo j, (unhide HC).1, (unhide HC).2.1]; rfl
          · obtain rfl : m = d.size + 1 := by omega
            have HBo := hide (both_any hRo hR (by omega))
            have HI2 := hide (And.intro hR (And.intro hRo (And.intro hK hx)))
            clear hR hRo hK hx
            go_wp2_with (go_at_call 62; refine (unhide HBo).mono ?_; rintro e w6 ⟨g6, rfl, hg6, hR6, hK6⟩)
            go_roundg (miss (d.size + 1) fo)
            case measure => exact unhide Hm
            case rel =>
              have hs := (unhide HI2).2.2.1.size
              refine ⟨g3, c3, g6, fun j => f3 j && !fo j, fun j => fo j || (f3 j && !fo j), rfl, rfl, ((unhide HI2).1.k0 hK6).congr (fun j hj => by simp [strike, hj]), hR6.congr (fun j hj => by simp [strike, hj]), by omega, (unhide HI2).2.2.1.trans hK6, (hK6.heap (heap_lt (unhide HI2).2.2.2)).trans (unhide HI2).2.2.2, RowsInv.step (unhide HF).2.2.2 (unhide HV), ?_⟩
              cases hl : left (d.size + 1) f3 fo with
              | true =>
                obtain ⟨k, hk, hk1, hk2⟩ := left_yes hl
                exact Or.inl ⟨rfl, miss_lt (fun j _ h => by simp [h]) k hk hk2 (by simp [hk1, hk2])⟩
              | false => exact Or.inr ⟨rfl, fun j hj => left_no hl j (by rw [unhide Hdl] at hj; omega)⟩
      · have HF := hide (hI.done hno)
        clear hI hno
        go_wp2
        go_ret
        exact ⟨go, fo, rfl, hRo, unhide HF, hK, hgo⟩

set_option maxRecDepth 100000 in
set_option maxHeartbeats 1600000 in
theorem ends_rows (st : Bool) (t : PT) (hfr : fresh t = true) (ih : EndsSaid t) : EndsSaid (.rep (if st then 42 else 43) t) := by
  intro w gp cap P xs k d g c f hPM hPl hrep hB hd
  rw [PRep] at hrep
  obtain ⟨_, j, hrep, hL⟩ := hrep
  obtain ⟨hk, ao, cp, p0, p1, p2, hsub⟩ := hPM.cells hrep
  obtain ⟨gs, rfl, hcs0⟩ := ints_cell (ks := [j]) hsub (m := 0) (k := j) rfl
  obtain ⟨i0, hi0, hz0, hz1, hz2⟩ := info_parts Tryz.infoBool
  have hk1 : (k : Int) < (P.length : Int) := by omega
  have HR := hide (rows_any st t hfr ih)
  have HB := hide (And.intro hB (And.intro hPM (And.intro hL hcs0)))
  have hgl := hB.lt
  clear hPM hrep hB hsub hL ih hcs0 hfr
  simp only at p0 p1 p2
  cases st with
  | true =>
    simp only [if_true] at p0 HR ⊢
    go_enter Tryz.func44, Tryz.ntmps44
    go_wp2_with (at_make; refine wpList_make_full _ rfl _ _ 77 rfl 0 4 i0 (.bool false) 1 Tryz.underlying77 hi0 hz0 hz1 _ _ _ _ (d.size + 1) rfl rfl (by simp) (by simp) (by rw [hz2]; omega) (by unfold maxLen; omega) (by omega) ?_)
    intro w1 hown hgrow
    obtain ⟨hx, hK1⟩ := ends_pre hgrow
    have x0 := cellOf hx 0
    have x1 := cellOf hx 1
    have x2 := cellOf hx 2
    have HX := hide hK1
    have hcs : w1.cell? ⟨gs, 0, none⟩ = some (.int .i64 j) := by
      rw [World.cell?_of_block (w := w) (hK1.heap (World.block_lt_of_cell? w _ (unhide HB).2.2.2))]; exact (unhide HB).2.2.2
    have HE := hide (unhide HR w1 gp cap P xs j gs cp d g c f ((unhide HB).2.1.k0 hK1) hPl (unhide HB).2.2.1 hcs ((unhide HB).1.k0 hK1) hd)
    clear hown hgrow hx hK1 p0 p1 p2 hcs
    simp at x0 x1 x2
    go_wp2_with (go_at_call 63; refine (unhide HE).mono ?_; rintro e w3 ⟨g3, f3, rfl, hR3, hV3, hK3, hg3⟩)
    go_ret
    have hs1 := (unhide HX).size
    exact ⟨g3, _, f3, rfl, hR3, hV3, (unhide HX).trans hK3, Or.inr (by omega), fun _ => by omega⟩
  | false =>
    simp only [Bool.false_eq_true, if_false] at p0 HR ⊢
    go_enter Tryz.func44, Tryz.ntmps44
    go_wp2_with (at_make; refine wpList_make_full _ rfl _ _ 77 rfl 0 4 i0 (.bool false) 1 Tryz.underlying77 hi0 hz0 hz1 _ _ _ _ (d.size + 1) rfl rfl (by simp) (by simp) (by rw [hz2]; omega) (by unfold maxLen; omega) (by omega) ?_)
    intro w1 hown hgrow
    obtain ⟨hx, hK1⟩ := ends_pre hgrow
    have x0 := cellOf hx 0
    have x1 := cellOf hx 1
    have x2 := cellOf hx 2
    have HX := hide hK1
    have hcs : w1.cell? ⟨gs, 0, none⟩ = some (.int .i64 j) := by
      rw [World.cell?_of_block (w := w) (hK1.heap (World.block_lt_of_cell? w _ (unhide HB).2.2.2))]; exact (unhide HB).2.2.2
    have HE := hide (unhide HR w1 gp cap P xs j gs cp d g c f ((unhide HB).2.1.k0 hK1) hPl (unhide HB).2.2.1 hcs ((unhide HB).1.k0 hK1) hd)
    clear hown hgrow hx hK1 p0 p1 p2 hcs
    simp at x0 x1 x2
    go_wp2_with (go_at_call 63; refine (unhide HE).mono ?_; rintro e w3 ⟨g3, f3, rfl, hR3, hV3, hK3, hg3⟩)
    go_ret
    have hs1 := (unhide HX).size
    exact ⟨g3, _, f3, rfl, hR3, hV3, (unhide HX).trans hK3, Or.inr (by omega), fun _ => by omega⟩

end Go.Proofs.YtlljggefbngkeaaGreatDoor

namespace Go.Proofs.YtlljggefbngkeaaGreatDoor
open Go.RowKit

theorem wfL_mem : ∀ {l : List PT}, wfL l = true → ∀ t, t ∈ l → wf t = true
  | [], _, t, h => by cases h
  | u :: l, h, t, ht => by
    rw [wfL, Bool.and_eq_true] at h
    rcases List.mem_cons.1 ht with rfl | ht
    · exact h.1
    · exact wfL_mem h.2 t ht

theorem ends_all : ∀ t, wf t = true → EndsSaid t
  | .chr l, h => ends_chr l (by rw [wf] at h; exact of_decide_eq_true h)
  | .seq l, h => ends_seq l (fun t ht => ends_all t (wfL_mem (by rw [wf] at h; exact h) t ht))
  | .alt l, h => ends_alt l (fun t ht => ends_all t (wfL_mem (by rw [wf] at h; exact h) t ht))
  | .rep c t, h => by
    rw [wf, Bool.and_eq_true] at h
    have ih := ends_all t h.2
    by_cases h1 : c = 42
    · subst h1; exact ends_rows true t h.1 ih
    · by_cases h2 : c = 43
      · subst h2; exact ends_rows false t h.1 ih
      · by_cases h3 : c = 63
        · subst h3; exact ends_opt t ih
        · intro w gp cap P xs k d g c' f _ _ hrep
          rw [PRep] at hrep
          omega
termination_by t => SizeOf.sizeOf t
decreasing_by
  all_goals simp_wf
  all_goals first | (have := List.sizeOf_lt_of_mem ht; omega) | omega

def InPost (w : World) (t : PT) (d : ByteArray) (e : Ending) (w' : World) : Prop := ∃ x : Bool, e = .returned (.bool x) ∧ (x = true ↔ M t d.data.toList) ∧ K0 w w'

set_option maxRecDepth 100000 in
set_option maxHeartbeats 1600000 in
theorem in_any {w : World} {gp cap : Nat} {P : List Pat} {xs : List Value} {k : Nat} {t : PT} {d : ByteArray} (hPM : PM w gp cap P xs) (hPl : P.length ≤ 100000) (hrep : PRep P t k) (hwf : wf t = true) (hd : d.size ≤ 200000000) :
    Calls Tryz.prog 45 #[.slice (some ⟨gp, 0, none⟩) P.length cap, .int .i64 k, .string d] w fun e w' => InPost w t d e w' := by
  obtain ⟨i0, hi0, hz0, hz1, hz2⟩ := info_parts Tryz.infoBool
  have HB := hide (And.intro hPM (And.intro hrep (ends_all t hwf)))
  have hds : (d.size : Int) < (d.size : Int) + 1 := by omega
  clear hPM hrep hwf
  go_enter Tryz.func45, Tryz.ntmps45
  go_wp2_with (at_make; refine wpList_make_full _ rfl _ _ 77 rfl 0 4 i0 (.bool false) 1 Tryz.underlying77 hi0 hz0 hz1 _ _ _ _ (d.size + 1) rfl rfl (by simp) (by simp) (by rw [hz2]; omega) (by unfold maxLen; omega) (by omega) ?_)
  intro w1 hown hgrow
  have hR1 := BR.made hown
  have hK1 : K0 w w1 := Kp.of_grown hgrow (fun _ e => by cases e)
  have hc0 := hR1.cell 0 (by omega)
  have hf0 := hR1.fz 0
  have hR2 := hR1.set 0 true
  have hK2 := hK1.set (Nat.le_refl _) 0 (.bool true)
  have HE := hide ((unhide HB).2.2 _ gp cap P xs k d _ _ _ ((unhide HB).1.k0 hK2) hPl (unhide HB).2.1 hR2 hd)
  have HK := hide hK2
  clear hR1 hK1 hR2 hK2 hown hgrow
  go_wp2_with fail
  refine (unhide HE).mono ?_
  rintro e w3 ⟨g3, c3, f3, rfl, hR3, hV3, hK3, _, _⟩
  have hc3 := hR3.cell d.size (by omega)
  have HV := hide (And.intro hV3 ((unhide HK).trans hK3))
  clear hV3 hK3
  go_wp2
  go_ret
  refine ⟨f3 d.size, rfl, ?_, (unhide HV).2⟩
  have hdl : d.data.toList.length = d.size := by simp
  rw [(unhide HV).1 d.size (by omega)]
  constructor
  · rintro ⟨i, hi, hu, hm⟩
    have : i = 0 := by
      unfold upd at hu
      by_cases h : i = 0
      · exact h
      · rw [if_neg h] at hu; cases hu
    subst this
    rw [← hdl, sub_all] at hm
    exact hm
  · intro hm
    exact ⟨0, Nat.zero_le _, rfl, by rw [← hdl, sub_all]; exact hm⟩

end Go.Proofs.YtlljggefbngkeaaGreatDoor
