import Derived.Test.YtlljggefbngkeaaGreatDoorV37
import Derived.Test.YtlljggefbngkeaaGreatDoorV33
import Derived.Test.YtlljggefbngkeaaGreatDoorV12
namespace Go.Proofs.YtlljggefbngkeaaGreatDoor
open Go.RowKit Go.Shelf

def pcell (m : Int) (ba bb : Nat) : Obj := .cells #[.int .i64 m, .pointer (some ⟨ba, 0, none⟩), .pointer (some ⟨bb, 0, none⟩)] 128 (0, 0)
def lcell (g : Nat) : Obj := .cells #[.pointer (some ⟨g, 0, none⟩)] 57 (0, 0)
def fcell (f1 f2 f3 : Value) : Obj := .cells #[f1, f2, f3] 88 (0, 0)



set_option maxRecDepth 100000 in
set_option maxHeartbeats 3200000 in
theorem pair1_said {Y : Nat → Prop} {W : World} {A B : PT} {P1 P2 : List UInt8 → Prop} {G1 G2 : List UInt8 → List UInt8} {m : Int} {ba bb Bp B1 B2 g1 g2 : Nat} {F1 F2 F3 E1 E2 E3 : Value} {s : List UInt8}
    (hs : W.heap[Bp]? = some (pcell m ba bb)) (hl : W.heap[B1]? = some (lcell g1)) (hk : W.heap[B2]? = some (lcell g2)) (hA : MachAt W A ba) (hB : MachAt W B bb) (hbl : W.heap[g1]? = some (fcell F1 F2 F3)) (hbk : W.heap[g2]? = some (fcell E1 E2 E3))
    (hf1 : Fn1 Y W F1 P1 G1 m) (hf2 : Fn1 Y W E1 P2 G2 m) (e1 : ∀ u, M A u → P1 u) (e2 : ∀ u, M B u → P2 u) (hsl : s.length ≤ 1000) (b1 : ∀ u, P1 u → u.length ≤ 1000 → (G1 u).length ≤ 1000000000) (b2 : ∀ u, P2 u → u.length ≤ 1000 → (G2 u).length ≤ 1000000000) :
    Calls Tryz.prog 146 #[.string (txt s), .pointer (some ⟨Bp, 0, none⟩), .pointer (some ⟨B1, 0, none⟩), .pointer (some ⟨B2, 0, none⟩)] W fun e w' => OwPost W (CutAt A B s) (G1 (s.take (cutN A B s)) ++ G2 (s.drop (cutN A B s))) m e w' := by
  have c0 := cellOf hs 0
  have c1 := cellOf hs 1
  have c2 := cellOf hs 2
  simp at c0 c1 c2
  have HS := hide (part_said (m := m) (u := s) hA hB hsl)
  obtain ⟨N1, x1, y1, rfl, n1, s1⟩ := hf1
  obtain ⟨N2, x2, y2, rfl, n2, s2⟩ := hf2
  have HB := hide (And.intro hl (And.intro hk (And.intro hbl hbk)))
  have H1 : Hid (∀ V : World, K0 W V → M A (s.take (cutN A B s)) → Calls Tryz.prog N1 (x1.push (.string (txt (s.take (cutN A B s)))) ++ y1) V fun e V' => e = .returned (.string (txt (G1 (s.take (cutN A B s))))) ∧ K0 V V') := hide (fun V hV hM => (s1 V (s.take (cutN A B s)) (hV.ky Y) (by first | (rw [List.length_take]; omega) | (rw [List.length_drop]; omega))).mono (fun e V' h => by
    obtain ⟨(⟨_, h1⟩ | ⟨h1, _⟩), h2⟩ := h
    · exact ⟨h1, h2⟩
    · exact absurd (e1 _ hM) h1))
  have H2 : Hid (∀ V : World, K0 W V → M B (s.drop (cutN A B s)) → Calls Tryz.prog N2 (x2.push (.string (txt (s.drop (cutN A B s)))) ++ y2) V fun e V' => e = .returned (.string (txt (G2 (s.drop (cutN A B s))))) ∧ K0 V V') := hide (fun V hV hM => (s2 V (s.drop (cutN A B s)) (hV.ky Y) (by first | (rw [List.length_take]; omega) | (rw [List.length_drop]; omega))).mono (fun e V' h => by
    obtain ⟨(⟨_, h1⟩ | ⟨h1, _⟩), h2⟩ := h
    · exact ⟨h1, h2⟩
    · exact absurd (e2 _ hM) h1))
  have HZ := hide (And.intro e1 (And.intro e2 (And.intro b1 b2)))
  clear hs hl hk hA hB hbl hbk s1 s2 e1 e2 b1 b2
  unfold Ent at n1 n2
  go_enter Tryz.func146, Tryz.ntmps146
  go_wp2_with fail
  refine (unhide HS).mono ?_
  rintro e w1 ⟨(⟨hm, rfl⟩ | ⟨hm, rfl⟩), hk1⟩
  · obtain ⟨hl, hk, hbl, hbk⟩ := unhide HB
    obtain ⟨_, hcl, hcA, hcB, _⟩ := cut_spec hm
    have d0 := cellOf ((hk1.heap (heap_lt hl)).trans hl) 0
    have d1 := cellOf ((hk1.heap (heap_lt hk)).trans hk) 0
    have d2 := cellOf ((hk1.heap (heap_lt hbl)).trans hbl) 0
    have d3 := cellOf ((hk1.heap (heap_lt hbk)).trans hbk) 0
    simp at d0 d1 d2 d3
    have z1 : (G1 (s.take (cutN A B s))).length ≤ 1000000000 := (unhide HZ).2.2.1 _ ((unhide HZ).1 _ hcA) (by first | (rw [List.length_take]; omega) | (rw [List.length_drop]; omega))
    have z2 : (G2 (s.drop (cutN A B s))).length ≤ 1000000000 := (unhide HZ).2.2.2 _ ((unhide HZ).2.1 _ hcB) (by first | (rw [List.length_take]; omega) | (rw [List.length_drop]; omega))
    have hSS : ∀ V V' : World, (K0 W V ∧ V.cell? ⟨B1, 0, none⟩ = some (.pointer (some ⟨g1, 0, none⟩)) ∧ V.cell? ⟨B2, 0, none⟩ = some (.pointer (some ⟨g2, 0, none⟩)) ∧ V.cell? ⟨g1, 0, none⟩ = some (.func (.func N1) x1 y1) ∧ V.cell? ⟨g2, 0, none⟩ = some (.func (.func N2) x2 y2)) → K0 V V' → (K0 W V' ∧ V'.cell? ⟨B1, 0, none⟩ = some (.pointer (some ⟨g1, 0, none⟩)) ∧ V'.cell? ⟨B2, 0, none⟩ = some (.pointer (some ⟨g2, 0, none⟩)) ∧ V'.cell? ⟨g1, 0, none⟩ = some (.func (.func N1) x1 y1) ∧ V'.cell? ⟨g2, 0, none⟩ = some (.func (.func N2) x2 y2)) := fun V V' h hk => ⟨h.1.trans hk, hk.cellz h.2.1, hk.cellz h.2.2.1, hk.cellz h.2.2.2.1, hk.cellz h.2.2.2.2⟩
    have HLS : Hid (∀ V : World, (K0 W V ∧ V.cell? ⟨B1, 0, none⟩ = some (.pointer (some ⟨g1, 0, none⟩)) ∧ V.cell? ⟨B2, 0, none⟩ = some (.pointer (some ⟨g2, 0, none⟩)) ∧ V.cell? ⟨g1, 0, none⟩ = some (.func (.func N1) x1 y1) ∧ V.cell? ⟨g2, 0, none⟩ = some (.func (.func N2) x2 y2)) → Calls Tryz.prog N1 (x1.push (.string (txt (s.take (cutN A B s)))) ++ y1) V fun e V' => e = .returned (.string (txt (G1 (s.take (cutN A B s))))) ∧ (K0 W V' ∧ V'.cell? ⟨B1, 0, none⟩ = some (.pointer (some ⟨g1, 0, none⟩)) ∧ V'.cell? ⟨B2, 0, none⟩ = some (.pointer (some ⟨g2, 0, none⟩)) ∧ V'.cell? ⟨g1, 0, none⟩ = some (.func (.func N1) x1 y1) ∧ V'.cell? ⟨g2, 0, none⟩ = some (.func (.func N2) x2 y2))) := hide (fun V h => (unhide H1 V h.1 hcA).mono (fun e V' h2 => ⟨h2.1, hSS V V' h h2.2⟩))
    have HRS : Hid (∀ V : World, (K0 W V ∧ V.cell? ⟨B1, 0, none⟩ = some (.pointer (some ⟨g1, 0, none⟩)) ∧ V.cell? ⟨B2, 0, none⟩ = some (.pointer (some ⟨g2, 0, none⟩)) ∧ V.cell? ⟨g1, 0, none⟩ = some (.func (.func N1) x1 y1) ∧ V.cell? ⟨g2, 0, none⟩ = some (.func (.func N2) x2 y2)) → Calls Tryz.prog N2 (x2.push (.string (txt (s.drop (cutN A B s)))) ++ y2) V fun e V' => e = .returned (.string (txt (G2 (s.drop (cutN A B s))))) ∧ (K0 W V' ∧ V'.cell? ⟨B1, 0, none⟩ = some (.pointer (some ⟨g1, 0, none⟩)) ∧ V'.cell? ⟨B2, 0, none⟩ = some (.pointer (some ⟨g2, 0, none⟩)) ∧ V'.cell? ⟨g1, 0, none⟩ = some (.func (.func N1) x1 y1) ∧ V'.cell? ⟨g2, 0, none⟩ = some (.func (.func N2) x2 y2))) := hide (fun V h => (unhide H2 V h.1 hcB).mono (fun e V' h2 => ⟨h2.1, hSS V V' h h2.2⟩))
    have Hm := hide hm
    clear hm hl hk hbl hbk hSS H1 H2 HB HZ HS hcA hcB hcl c0 c1 c2
    obtain ⟨a1, ha1⟩ : ∃ a1, s.take (cutN A B s) = a1 := ⟨_, rfl⟩
    obtain ⟨a2, ha2⟩ : ∃ a2, s.drop (cutN A B s) = a2 := ⟨_, rfl⟩
    rw [ha1] at z1 HLS
    rw [ha2] at z2 HRS
    obtain ⟨r1, hr1⟩ : ∃ r1, G1 a1 = r1 := ⟨_, rfl⟩
    obtain ⟨r2, hr2⟩ : ∃ r2, G2 a2 = r2 := ⟨_, rfl⟩
    rw [hr1] at z1 HLS
    rw [hr2] at z2 HRS
    rw [ha1, ha2]
    have HQ := hide (And.intro ha1 (And.intro ha2 (And.intro hr1 hr2)))
    clear ha1 ha2 hr1 hr2
    have hadd : ¬ 9223372036854775807 < (txt r1).size + (txt r2).size := by rw [txt_size, txt_size]; omega
    have hkd : K0 W w1.drew := hk1.trans (Kp.drew _ _)
    go_wp2_with fail
    go_region_held3 (fun V => (K0 W V ∧ V.cell? ⟨B1, 0, none⟩ = some (.pointer (some ⟨g1, 0, none⟩)) ∧ V.cell? ⟨B2, 0, none⟩ = some (.pointer (some ⟨g2, 0, none⟩)) ∧ V.cell? ⟨g1, 0, none⟩ = some (.func (.func N1) x1 y1) ∧ V.cell? ⟨g2, 0, none⟩ = some (.func (.func N2) x2 y2))) (go_keep) (first | (refine (unhide HLS _ (by assumption)).mono ?_; rintro e w2 ⟨rfl, hS2⟩) | (refine (unhide HRS _ (by assumption)).mono ?_; rintro e w3 ⟨rfl, hS3⟩))
    go_wp2
    go_ret
    exact ⟨.inl ⟨unhide Hm, by rw [(unhide HQ).1, (unhide HQ).2.1, (unhide HQ).2.2.1, (unhide HQ).2.2.2, txt_app]; rfl⟩, hS3.1⟩
  · exact ⟨rfl, .inr ⟨hm, rfl⟩, hk1⟩

set_option maxRecDepth 100000 in
set_option maxHeartbeats 3200000 in
theorem swap1_said {Y : Nat → Prop} {W : World} {A B : PT} {P1 P2 : List UInt8 → Prop} {G1 G2 : List UInt8 → List UInt8} {m : Int} {ba bb Bp B1 B2 g1 g2 : Nat} {F1 F2 F3 E1 E2 E3 : Value} {s : List UInt8}
    (hs : W.heap[Bp]? = some (pcell m ba bb)) (hl : W.heap[B1]? = some (lcell g1)) (hk : W.heap[B2]? = some (lcell g2)) (hA : MachAt W A ba) (hB : MachAt W B bb) (hbl : W.heap[g1]? = some (fcell F1 F2 F3)) (hbk : W.heap[g2]? = some (fcell E1 E2 E3))
    (hf1 : Fn1 Y W F1 P1 G1 m) (hf2 : Fn1 Y W E1 P2 G2 m) (e1 : ∀ u, M B u → P1 u) (e2 : ∀ u, M A u → P2 u) (hsl : s.length ≤ 1000) (b1 : ∀ u, P1 u → u.length ≤ 1000 → (G1 u).length ≤ 1000000000) (b2 : ∀ u, P2 u → u.length ≤ 1000 → (G2 u).length ≤ 1000000000) :
    Calls Tryz.prog 102 #[.string (txt s), .pointer (some ⟨Bp, 0, none⟩), .pointer (some ⟨B1, 0, none⟩), .pointer (some ⟨B2, 0, none⟩)] W fun e w' => OwPost W (CutAt A B s) (G1 (s.drop (cutN A B s)) ++ G2 (s.take (cutN A B s))) m e w' := by
  have c0 := cellOf hs 0
  have c1 := cellOf hs 1
  have c2 := cellOf hs 2
  simp at c0 c1 c2
  have HS := hide (part_said (m := m) (u := s) hA hB hsl)
  obtain ⟨N1, x1, y1, rfl, n1, s1⟩ := hf1
  obtain ⟨N2, x2, y2, rfl, n2, s2⟩ := hf2
  have HB := hide (And.intro hl (And.intro hk (And.intro hbl hbk)))
  have H1 : Hid (∀ V : World, K0 W V → M B (s.drop (cutN A B s)) → Calls Tryz.prog N1 (x1.push (.string (txt (s.drop (cutN A B s)))) ++ y1) V fun e V' => e = .returned (.string (txt (G1 (s.drop (cutN A B s))))) ∧ K0 V V') := hide (fun V hV hM => (s1 V (s.drop (cutN A B s)) (hV.ky Y) (by first | (rw [List.length_take]; omega) | (rw [List.length_drop]; omega))).mono (fun e V' h => by
    obtain ⟨(⟨_, h1⟩ | ⟨h1, _⟩), h2⟩ := h
    · exact ⟨h1, h2⟩
    · exact absurd (e1 _ hM) h1))
  have H2 : Hid (∀ V : World, K0 W V → M A (s.take (cutN A B s)) → Calls Tryz.prog N2 (x2.push (.string (txt (s.take (cutN A B s)))) ++ y2) V fun e V' => e = .returned (.string (txt (G2 (s.take (cutN A B s))))) ∧ K0 V V') := hide (fun V hV hM => (s2 V (s.take (cutN A B s)) (hV.ky Y) (by first | (rw [List.length_take]; omega) | (rw [List.length_drop]; omega))).mono (fun e V' h => by
    obtain ⟨(⟨_, h1⟩ | ⟨h1, _⟩), h2⟩ := h
    · exact ⟨h1, h2⟩
    · exact absurd (e2 _ hM) h1))
  have HZ := hide (And.intro e1 (And.intro e2 (And.intro b1 b2)))
  clear hs hl hk hA hB hbl hbk s1 s2 e1 e2 b1 b2
  unfold Ent at n1 n2
  go_enter Tryz.func102, Tryz.ntmps102
  go_wp2_with fail
  refine (unhide HS).mono ?_
  rintro e w1 ⟨(⟨hm, rfl⟩ | ⟨hm, rfl⟩), hk1⟩
  · obtain ⟨hl, hk, hbl, hbk⟩ := unhide HB
    obtain ⟨_, hcl, hcA, hcB, _⟩ := cut_spec hm
    have d0 := cellOf ((hk1.heap (heap_lt hl)).trans hl) 0
    have d1 := cellOf ((hk1.heap (heap_lt hk)).trans hk) 0
    have d2 := cellOf ((hk1.heap (heap_lt hbl)).trans hbl) 0
    have d3 := cellOf ((hk1.heap (heap_lt hbk)).trans hbk) 0
    simp at d0 d1 d2 d3
    have z1 : (G1 (s.drop (cutN A B s))).length ≤ 1000000000 := (unhide HZ).2.2.1 _ ((unhide HZ).1 _ hcB) (by first | (rw [List.length_take]; omega) | (rw [List.length_drop]; omega))
    have z2 : (G2 (s.take (cutN A B s))).length ≤ 1000000000 := (unhide HZ).2.2.2 _ ((unhide HZ).2.1 _ hcA) (by first | (rw [List.length_take]; omega) | (rw [List.length_drop]; omega))
    have hSS : ∀ V V' : World, (K0 W V ∧ V.cell? ⟨B1, 0, none⟩ = some (.pointer (some ⟨g1, 0, none⟩)) ∧ V.cell? ⟨B2, 0, none⟩ = some (.pointer (some ⟨g2, 0, none⟩)) ∧ V.cell? ⟨g1, 0, none⟩ = some (.func (.func N1) x1 y1) ∧ V.cell? ⟨g2, 0, none⟩ = some (.func (.func N2) x2 y2)) → K0 V V' → (K0 W V' ∧ V'.cell? ⟨B1, 0, none⟩ = some (.pointer (some ⟨g1, 0, none⟩)) ∧ V'.cell? ⟨B2, 0, none⟩ = some (.pointer (some ⟨g2, 0, none⟩)) ∧ V'.cell? ⟨g1, 0, none⟩ = some (.func (.func N1) x1 y1) ∧ V'.cell? ⟨g2, 0, none⟩ = some (.func (.func N2) x2 y2)) := fun V V' h hk => ⟨h.1.trans hk, hk.cellz h.2.1, hk.cellz h.2.2.1, hk.cellz h.2.2.2.1, hk.cellz h.2.2.2.2⟩
    have HLS : Hid (∀ V : World, (K0 W V ∧ V.cell? ⟨B1, 0, none⟩ = some (.pointer (some ⟨g1, 0, none⟩)) ∧ V.cell? ⟨B2, 0, none⟩ = some (.pointer (some ⟨g2, 0, none⟩)) ∧ V.cell? ⟨g1, 0, none⟩ = some (.func (.func N1) x1 y1) ∧ V.cell? ⟨g2, 0, none⟩ = some (.func (.func N2) x2 y2)) → Calls Tryz.prog N1 (x1.push (.string (txt (s.drop (cutN A B s)))) ++ y1) V fun e V' => e = .returned (.string (txt (G1 (s.drop (cutN A B s))))) ∧ (K0 W V' ∧ V'.cell? ⟨B1, 0, none⟩ = some (.pointer (some ⟨g1, 0, none⟩)) ∧ V'.cell? ⟨B2, 0, none⟩ = some (.pointer (some ⟨g2, 0, none⟩)) ∧ V'.cell? ⟨g1, 0, none⟩ = some (.func (.func N1) x1 y1) ∧ V'.cell? ⟨g2, 0, none⟩ = some (.func (.func N2) x2 y2))) := hide (fun V h => (unhide H1 V h.1 hcB).mono (fun e V' h2 => ⟨h2.1, hSS V V' h h2.2⟩))
    have HRS : Hid (∀ V : World, (K0 W V ∧ V.cell? ⟨B1, 0, none⟩ = some (.pointer (some ⟨g1, 0, none⟩)) ∧ V.cell? ⟨B2, 0, none⟩ = some (.pointer (some ⟨g2, 0, none⟩)) ∧ V.cell? ⟨g1, 0, none⟩ = some (.func (.func N1) x1 y1) ∧ V.cell? ⟨g2, 0, none⟩ = some (.func (.func N2) x2 y2)) → Calls Tryz.prog N2 (x2.push (.string (txt (s.take (cutN A B s)))) ++ y2) V fun e V' => e = .returned (.string (txt (G2 (s.take (cutN A B s))))) ∧ (K0 W V' ∧ V'.cell? ⟨B1, 0, none⟩ = some (.pointer (some ⟨g1, 0, none⟩)) ∧ V'.cell? ⟨B2, 0, none⟩ = some (.pointer (some ⟨g2, 0, none⟩)) ∧ V'.cell? ⟨g1, 0, none⟩ = some (.func (.func N1) x1 y1) ∧ V'.cell? ⟨g2, 0, none⟩ = some (.func (.func N2) x2 y2))) := hide (fun V h => (unhide H2 V h.1 hcA).mono (fun e V' h2 => ⟨h2.1, hSS V V' h h2.2⟩))
    have Hm := hide hm
    clear hm hl hk hbl hbk hSS H1 H2 HB HZ HS hcA hcB hcl c0 c1 c2
    obtain ⟨a1, ha1⟩ : ∃ a1, s.drop (cutN A B s) = a1 := ⟨_, rfl⟩
    obtain ⟨a2, ha2⟩ : ∃ a2, s.take (cutN A B s) = a2 := ⟨_, rfl⟩
    rw [ha1] at z1 HLS
    rw [ha2] at z2 HRS
    obtain ⟨r1, hr1⟩ : ∃ r1, G1 a1 = r1 := ⟨_, rfl⟩
    obtain ⟨r2, hr2⟩ : ∃ r2, G2 a2 = r2 := ⟨_, rfl⟩
    rw [hr1] at z1 HLS
    rw [hr2] at z2 HRS
    rw [ha1, ha2]
    have HQ := hide (And.intro ha1 (And.intro ha2 (And.intro hr1 hr2)))
    clear ha1 ha2 hr1 hr2
    have hadd : ¬ 9223372036854775807 < (txt r1).size + (txt r2).size := by rw [txt_size, txt_size]; omega
    have hkd : K0 W w1.drew := hk1.trans (Kp.drew _ _)
    go_wp2_with fail
    go_region_held3 (fun V => (K0 W V ∧ V.cell? ⟨B1, 0, none⟩ = some (.pointer (some ⟨g1, 0, none⟩)) ∧ V.cell? ⟨B2, 0, none⟩ = some (.pointer (some ⟨g2, 0, none⟩)) ∧ V.cell? ⟨g1, 0, none⟩ = some (.func (.func N1) x1 y1) ∧ V.cell? ⟨g2, 0, none⟩ = some (.func (.func N2) x2 y2))) (go_keep) (first | (refine (unhide HLS _ (by assumption)).mono ?_; rintro e w2 ⟨rfl, hS2⟩) | (refine (unhide HRS _ (by assumption)).mono ?_; rintro e w3 ⟨rfl, hS3⟩))
    go_wp2
    go_ret
    exact ⟨.inl ⟨unhide Hm, by rw [(unhide HQ).1, (unhide HQ).2.1, (unhide HQ).2.2.1, (unhide HQ).2.2.2, txt_app]; rfl⟩, hS3.1⟩
  · exact ⟨rfl, .inr ⟨hm, rfl⟩, hk1⟩

set_option maxRecDepth 100000 in
set_option maxHeartbeats 3200000 in
theorem pair3_said {Y : Nat → Prop} {W : World} {A B : PT} {P1 P2 : List UInt8 → Prop} {G1 G2 : List UInt8 → List UInt8} {m : Int} {ba bb Bp B1 B2 g1 g2 : Nat} {F1 F2 F3 E1 E2 E3 : Value} {s : List UInt8}
    (hs : W.heap[Bp]? = some (pcell m ba bb)) (hl : W.heap[B1]? = some (lcell g1)) (hk : W.heap[B2]? = some (lcell g2)) (hA : MachAt W A ba) (hB : MachAt W B bb) (hbl : W.heap[g1]? = some (fcell F1 F2 F3)) (hbk : W.heap[g2]? = some (fcell E1 E2 E3))
    (hf1 : Fn1 Y W F3 P1 G1 m) (hf2 : Fn1 Y W E3 P2 G2 m) (e1 : ∀ u, M A u → P1 u) (e2 : ∀ u, M B u → P2 u) (hsl : s.length ≤ 1000) (b1 : ∀ u, P1 u → u.length ≤ 1000 → (G1 u).length ≤ 1000000000) (b2 : ∀ u, P2 u → u.length ≤ 1000 → (G2 u).length ≤ 1000000000) :
    Calls Tryz.prog 148 #[.string (txt s), .pointer (some ⟨Bp, 0, none⟩), .pointer (some ⟨B1, 0, none⟩), .pointer (some ⟨B2, 0, none⟩)] W fun e w' => OwPost W (CutAt A B s) (G1 (s.take (cutN A B s)) ++ G2 (s.drop (cutN A B s))) m e w' := by
  have c0 := cellOf hs 0
  have c1 := cellOf hs 1
  have c2 := cellOf hs 2
  simp at c0 c1 c2
  have HS := hide (part_said (m := m) (u := s) hA hB hsl)
  obtain ⟨N1, x1, y1, rfl, n1, s1⟩ := hf1
  obtain ⟨N2, x2, y2, rfl, n2, s2⟩ := hf2
  have HB := hide (And.intro hl (And.intro hk (And.intro hbl hbk)))
  have H1 : Hid (∀ V : World, K0 W V → M A (s.take (cutN A B s)) → Calls Tryz.prog N1 (x1.push (.string (txt (s.take (cutN A B s)))) ++ y1) V fun e V' => e = .returned (.string (txt (G1 (s.take (cutN A B s))))) ∧ K0 V V') := hide (fun V hV hM => (s1 V (s.take (cutN A B s)) (hV.ky Y) (by first | (rw [List.length_take]; omega) | (rw [List.length_drop]; omega))).mono (fun e V' h => by
    obtain ⟨(⟨_, h1⟩ | ⟨h1, _⟩), h2⟩ := h
    · exact ⟨h1, h2⟩
    · exact absurd (e1 _ hM) h1))
  have H2 : Hid (∀ V : World, K0 W V → M B (s.drop (cutN A B s)) → Calls Tryz.prog N2 (x2.push (.string (txt (s.drop (cutN A B s)))) ++ y2) V fun e V' => e = .returned (.string (txt (G2 (s.drop (cutN A B s))))) ∧ K0 V V') := hide (fun V hV hM => (s2 V (s.drop (cutN A B s)) (hV.ky Y) (by first | (rw [List.length_take]; omega) | (rw [List.length_drop]; omega))).mono (fun e V' h => by
    obtain ⟨(⟨_, h1⟩ | ⟨h1, _⟩), h2⟩ := h
    · exact ⟨h1, h2⟩
    · exact absurd (e2 _ hM) h1))
  have HZ := hide (And.intro e1 (And.intro e2 (And.intro b1 b2)))
  clear hs hl hk hA hB hbl hbk s1 s2 e1 e2 b1 b2
  unfold Ent at n1 n2
  go_enter Tryz.func148, Tryz.ntmps148
  go_wp2_with fail
  refine (unhide HS).mono ?_
  rintro e w1 ⟨(⟨hm, rfl⟩ | ⟨hm, rfl⟩), hk1⟩
  · obtain ⟨hl, hk, hbl, hbk⟩ := unhide HB
    obtain ⟨_, hcl, hcA, hcB, _⟩ := cut_spec hm
    have d0 := cellOf ((hk1.heap (heap_lt hl)).trans hl) 0
    have d1 := cellOf ((hk1.heap (heap_lt hk)).trans hk) 0
    have d2 := cellOf ((hk1.heap (heap_lt hbl)).trans hbl) 2
    have d3 := cellOf ((hk1.heap (heap_lt hbk)).trans hbk) 2
    simp at d0 d1 d2 d3
    have z1 : (G1 (s.take (cutN A B s))).length ≤ 1000000000 := (unhide HZ).2.2.1 _ ((unhide HZ).1 _ hcA) (by first | (rw [List.length_take]; omega) | (rw [List.length_drop]; omega))
    have z2 : (G2 (s.drop (cutN A B s))).length ≤ 1000000000 := (unhide HZ).2.2.2 _ ((unhide HZ).2.1 _ hcB) (by first | (rw [List.length_take]; omega) | (rw [List.length_drop]; omega))
    have hSS : ∀ V V' : World, (K0 W V ∧ V.cell? ⟨B1, 0, none⟩ = some (.pointer (some ⟨g1, 0, none⟩)) ∧ V.cell? ⟨B2, 0, none⟩ = some (.pointer (some ⟨g2, 0, none⟩)) ∧ V.cell? ⟨g1, 2, none⟩ = some (.func (.func N1) x1 y1) ∧ V.cell? ⟨g2, 2, none⟩ = some (.func (.func N2) x2 y2)) → K0 V V' → (K0 W V' ∧ V'.cell? ⟨B1, 0, none⟩ = some (.pointer (some ⟨g1, 0, none⟩)) ∧ V'.cell? ⟨B2, 0, none⟩ = some (.pointer (some ⟨g2, 0, none⟩)) ∧ V'.cell? ⟨g1, 2, none⟩ = some (.func (.func N1) x1 y1) ∧ V'.cell? ⟨g2, 2, none⟩ = some (.func (.func N2) x2 y2)) := fun V V' h hk => ⟨h.1.trans hk, hk.cellz h.2.1, hk.cellz h.2.2.1, hk.cellz h.2.2.2.1, hk.cellz h.2.2.2.2⟩
    have HLS : Hid (∀ V : World, (K0 W V ∧ V.cell? ⟨B1, 0, none⟩ = some (.pointer (some ⟨g1, 0, none⟩)) ∧ V.cell? ⟨B2, 0, none⟩ = some (.pointer (some ⟨g2, 0, none⟩)) ∧ V.cell? ⟨g1, 2, none⟩ = some (.func (.func N1) x1 y1) ∧ V.cell? ⟨g2, 2, none⟩ = some (.func (.func N2) x2 y2)) → Calls Tryz.prog N1 (x1.push (.string (txt (s.take (cutN A B s)))) ++ y1) V fun e V' => e = .returned (.string (txt (G1 (s.take (cutN A B s))))) ∧ (K0 W V' ∧ V'.cell? ⟨B1, 0, none⟩ = some (.pointer (some ⟨g1, 0, none⟩)) ∧ V'.cell? ⟨B2, 0, none⟩ = some (.pointer (some ⟨g2, 0, none⟩)) ∧ V'.cell? ⟨g1, 2, none⟩ = some (.func (.func N1) x1 y1) ∧ V'.cell? ⟨g2, 2, none⟩ = some (.func (.func N2) x2 y2))) := hide (fun V h => (unhide H1 V h.1 hcA).mono (fun e V' h2 => ⟨h2.1, hSS V V' h h2.2⟩))
    have HRS : Hid (∀ V : World, (K0 W V ∧ V.cell? ⟨B1, 0, none⟩ = some (.pointer (some ⟨g1, 0, none⟩)) ∧ V.cell? ⟨B2, 0, none⟩ = some (.pointer (some ⟨g2, 0, none⟩)) ∧ V.cell? ⟨g1, 2, none⟩ = some (.func (.func N1) x1 y1) ∧ V.cell? ⟨g2, 2, none⟩ = some (.func (.func N2) x2 y2)) → Calls Tryz.prog N2 (x2.push (.string (txt (s.drop (cutN A B s)))) ++ y2) V fun e V' => e = .returned (.string (txt (G2 (s.drop (cutN A B s))))) ∧ (K0 W V' ∧ V'.cell? ⟨B1, 0, none⟩ = some (.pointer (some ⟨g1, 0, none⟩)) ∧ V'.cell? ⟨B2, 0, none⟩ = some (.pointer (some ⟨g2, 0, none⟩)) ∧ V'.cell? ⟨g1, 2, none⟩ = some (.func (.func N1) x1 y1) ∧ V'.cell? ⟨g2, 2, none⟩ = some (.func (.func N2) x2 y2))) := hide (fun V h => (unhide H2 V h.1 hcB).mono (fun e V' h2 => ⟨h2.1, hSS V V' h h2.2⟩))
    have Hm := hide hm
    clear hm hl hk hbl hbk hSS H1 H2 HB HZ HS hcA hcB hcl c0 c1 c2
    obtain ⟨a1, ha1⟩ : ∃ a1, s.take (cutN A B s) = a1 := ⟨_, rfl⟩
    obtain ⟨a2, ha2⟩ : ∃ a2, s.drop (cutN A B s) = a2 := ⟨_, rfl⟩
    rw [ha1] at z1 HLS
    rw [ha2] at z2 HRS
    obtain ⟨r1, hr1⟩ : ∃ r1, G1 a1 = r1 := ⟨_, rfl⟩
    obtain ⟨r2, hr2⟩ : ∃ r2, G2 a2 = r2 := ⟨_, rfl⟩
    rw [hr1] at z1 HLS
    rw [hr2] at z2 HRS
    rw [ha1, ha2]
    have HQ := hide (And.intro ha1 (And.intro ha2 (And.intro hr1 hr2)))
    clear ha1 ha2 hr1 hr2
    have hadd : ¬ 9223372036854775807 < (txt r1).size + (txt r2).size := by rw [txt_size, txt_size]; omega
    have hkd : K0 W w1.drew := hk1.trans (Kp.drew _ _)
    go_wp2_with fail
    go_region_held3 (fun V => (K0 W V ∧ V.cell? ⟨B1, 0, none⟩ = some (.pointer (some ⟨g1, 0, none⟩)) ∧ V.cell? ⟨B2, 0, none⟩ = some (.pointer (some ⟨g2, 0, none⟩)) ∧ V.cell? ⟨g1, 2, none⟩ = some (.func (.func N1) x1 y1) ∧ V.cell? ⟨g2, 2, none⟩ = some (.func (.func N2) x2 y2))) (go_keep) (first | (refine (unhide HLS _ (by assumption)).mono ?_; rintro e w2 ⟨rfl, hS2⟩) | (refine (unhide HRS _ (by assumption)).mono ?_; rintro e w3 ⟨rfl, hS3⟩))
    go_wp2
    go_ret
    exact ⟨.inl ⟨unhide Hm, by rw [(unhide HQ).1, (unhide HQ).2.1, (unhide HQ).2.2.1, (unhide HQ).2.2.2, txt_app]; rfl⟩, hS3.1⟩
  · exact ⟨rfl, .inr ⟨hm, rfl⟩, hk1⟩

set_option maxRecDepth 100000 in
set_option maxHeartbeats 3200000 in
theorem swap3_said {Y : Nat → Prop} {W : World} {A B : PT} {P1 P2 : List UInt8 → Prop} {G1 G2 : List UInt8 → List UInt8} {m : Int} {ba bb Bp B1 B2 g1 g2 : Nat} {F1 F2 F3 E1 E2 E3 : Value} {s : List UInt8}
    (hs : W.heap[Bp]? = some (pcell m ba bb)) (hl : W.heap[B1]? = some (lcell g1)) (hk : W.heap[B2]? = some (lcell g2)) (hA : MachAt W A ba) (hB : MachAt W B bb) (hbl : W.heap[g1]? = some (fcell F1 F2 F3)) (hbk : W.heap[g2]? = some (fcell E1 E2 E3))
    (hf1 : Fn1 Y W F3 P1 G1 m) (hf2 : Fn1 Y W E3 P2 G2 m) (e1 : ∀ u, M B u → P1 u) (e2 : ∀ u, M A u → P2 u) (hsl : s.length ≤ 1000) (b1 : ∀ u, P1 u → u.length ≤ 1000 → (G1 u).length ≤ 1000000000) (b2 : ∀ u, P2 u → u.length ≤ 1000 → (G2 u).length ≤ 1000000000) :
    Calls Tryz.prog 105 #[.string (txt s), .pointer (some ⟨Bp, 0, none⟩), .pointer (some ⟨B1, 0, none⟩), .pointer (some ⟨B2, 0, none⟩)] W fun e w' => OwPost W (CutAt A B s) (G1 (s.drop (cutN A B s)) ++ G2 (s.take (cutN A B s))) m e w' := by
  have c0 := cellOf hs 0
  have c1 := cellOf hs 1
  have c2 := cellOf hs 2
  simp at c0 c1 c2
  have HS := hide (part_said (m := m) (u := s) hA hB hsl)
  obtain ⟨N1, x1, y1, rfl, n1, s1⟩ := hf1
  obtain ⟨N2, x2, y2, rfl, n2, s2⟩ := hf2
  have HB := hide (And.intro hl (And.intro hk (And.intro hbl hbk)))
  have H1 : Hid (∀ V : World, K0 W V → M B (s.drop (cutN A B s)) → Calls Tryz.prog N1 (x1.push (.string (txt (s.drop (cutN A B s)))) ++ y1) V fun e V' => e = .returned (.string (txt (G1 (s.drop (cutN A B s))))) ∧ K0 V V') := hide (fun V hV hM => (s1 V (s.drop (cutN A B s)) (hV.ky Y) (by first | (rw [List.length_take]; omega) | (rw [List.length_drop]; omega))).mono (fun e V' h => by
    obtain ⟨(⟨_, h1⟩ | ⟨h1, _⟩), h2⟩ := h
    · exact ⟨h1, h2⟩
    · exact absurd (e1 _ hM) h1))
  have H2 : Hid (∀ V : World, K0 W V → M A (s.take (cutN A B s)) → Calls Tryz.prog N2 (x2.push (.string (txt (s.take (cutN A B s)))) ++ y2) V fun e V' => e = .returned (.string (txt (G2 (s.take (cutN A B s))))) ∧ K0 V V') := hide (fun V hV hM => (s2 V (s.take (cutN A B s)) (hV.ky Y) (by first | (rw [List.length_take]; omega) | (rw [List.length_drop]; omega))).mono (fun e V' h => by
    obtain ⟨(⟨_, h1⟩ | ⟨h1, _⟩), h2⟩ := h
    · exact ⟨h1, h2⟩
    · exact absurd (e2 _ hM) h1))
  have HZ := hide (And.intro e1 (And.intro e2 (And.intro b1 b2)))
  clear hs hl hk hA hB hbl hbk s1 s2 e1 e2 b1 b2
  unfold Ent at n1 n2
  go_enter Tryz.func105, Tryz.ntmps105
  go_wp2_with fail
  refine (unhide HS).mono ?_
  rintro e w1 ⟨(⟨hm, rfl⟩ | ⟨hm, rfl⟩), hk1⟩
  · obtain ⟨hl, hk, hbl, hbk⟩ := unhide HB
    obtain ⟨_, hcl, hcA, hcB, _⟩ := cut_spec hm
    have d0 := cellOf ((hk1.heap (heap_lt hl)).trans hl) 0
    have d1 := cellOf ((hk1.heap (heap_lt hk)).trans hk) 0
    have d2 := cellOf ((hk1.heap (heap_lt hbl)).trans hbl) 2
    have d3 := cellOf ((hk1.heap (heap_lt hbk)).trans hbk) 2
    simp at d0 d1 d2 d3
    have z1 : (G1 (s.drop (cutN A B s))).length ≤ 1000000000 := (unhide HZ).2.2.1 _ ((unhide HZ).1 _ hcB) (by first | (rw [List.length_take]; omega) | (rw [List.length_drop]; omega))
    have z2 : (G2 (s.take (cutN A B s))).length ≤ 1000000000 := (unhide HZ).2.2.2 _ ((unhide HZ).2.1 _ hcA) (by first | (rw [List.length_take]; omega) | (rw [List.length_drop]; omega))
    have hSS : ∀ V V' : World, (K0 W V ∧ V.cell? ⟨B1, 0, none⟩ = some (.pointer (some ⟨g1, 0, none⟩)) ∧ V.cell? ⟨B2, 0, none⟩ = some (.pointer (some ⟨g2, 0, none⟩)) ∧ V.cell? ⟨g1, 2, none⟩ = some (.func (.func N1) x1 y1) ∧ V.cell? ⟨g2, 2, none⟩ = some (.func (.func N2) x2 y2)) → K0 V V' → (K0 W V' ∧ V'.cell? ⟨B1, 0, none⟩ = some (.pointer (some ⟨g1, 0, none⟩)) ∧ V'.cell? ⟨B2, 0, none⟩ = some (.pointer (some ⟨g2, 0, none⟩)) ∧ V'.cell? ⟨g1, 2, none⟩ = some (.func (.func N1) x1 y1) ∧ V'.cell? ⟨g2, 2, none⟩ = some (.func (.func N2) x2 y2)) := fun V V' h hk => ⟨h.1.trans hk, hk.cellz h.2.1, hk.cellz h.2.2.1, hk.cellz h.2.2.2.1, hk.cellz h.2.2.2.2⟩
    have HLS : Hid (∀ V : World, (K0 W V ∧ V.cell? ⟨B1, 0, none⟩ = some (.pointer (some ⟨g1, 0, none⟩)) ∧ V.cell? ⟨B2, 0, none⟩ = some (.pointer (some ⟨g2, 0, none⟩)) ∧ V.cell? ⟨g1, 2, none⟩ = some (.func (.func N1) x1 y1) ∧ V.cell? ⟨g2, 2, none⟩ = some (.func (.func N2) x2 y2)) → Calls Tryz.prog N1 (x1.push (.string (txt (s.drop (cutN A B s)))) ++ y1) V fun e V' => e = .returned (.string (txt (G1 (s.drop (cutN A B s))))) ∧ (K0 W V' ∧ V'.cell? ⟨B1, 0, none⟩ = some (.pointer (some ⟨g1, 0, none⟩)) ∧ V'.cell? ⟨B2, 0, none⟩ = some (.pointer (some ⟨g2, 0, none⟩)) ∧ V'.cell? ⟨g1, 2, none⟩ = some (.func (.func N1) x1 y1) ∧ V'.cell? ⟨g2, 2, none⟩ = some (.func (.func N2) x2 y2))) := hide (fun V h => (unhide H1 V h.1 hcB).mono (fun e V' h2 => ⟨h2.1, hSS V V' h h2.2⟩))
    have HRS : Hid (∀ V : World, (K0 W V ∧ V.cell? ⟨B1, 0, none⟩ = some (.pointer (some ⟨g1, 0, none⟩)) ∧ V.cell? ⟨B2, 0, none⟩ = some (.pointer (some ⟨g2, 0, none⟩)) ∧ V.cell? ⟨g1, 2, none⟩ = some (.func (.func N1) x1 y1) ∧ V.cell? ⟨g2, 2, none⟩ = some (.func (.func N2) x2 y2)) → Calls Tryz.prog N2 (x2.push (.string (txt (s.take (cutN A B s)))) ++ y2) V fun e V' => e = .returned (.string (txt (G2 (s.take (cutN A B s))))) ∧ (K0 W V' ∧ V'.cell? ⟨B1, 0, none⟩ = some (.pointer (some ⟨g1, 0, none⟩)) ∧ V'.cell? ⟨B2, 0, none⟩ = some (.pointer (some ⟨g2, 0, none⟩)) ∧ V'.cell? ⟨g1, 2, none⟩ = some (.func (.func N1) x1 y1) ∧ V'.cell? ⟨g2, 2, none⟩ = some (.func (.func N2) x2 y2))) := hide (fun V h => (unhide H2 V h.1 hcA).mono (fun e V' h2 => ⟨h2.1, hSS V V' h h2.2⟩))
    have Hm := hide hm
    clear hm hl hk hbl hbk hSS H1 H2 HB HZ HS hcA hcB hcl c0 c1 c2
    obtain ⟨a1, ha1⟩ : ∃ a1, s.drop (cutN A B s) = a1 := ⟨_, rfl⟩
    obtain ⟨a2, ha2⟩ : ∃ a2, s.take (cutN A B s) = a2 := ⟨_, rfl⟩
    rw [ha1] at z1 HLS
    rw [ha2] at z2 HRS
    obtain ⟨r1, hr1⟩ : ∃ r1, G1 a1 = r1 := ⟨_, rfl⟩
    obtain ⟨r2, hr2⟩ : ∃ r2, G2 a2 = r2 := ⟨_, rfl⟩
    rw [hr1] at z1 HLS
    rw [hr2] at z2 HRS
    rw [ha1, ha2]
    have HQ := hide (And.intro ha1 (And.intro ha2 (And.intro hr1 hr2)))
    clear ha1 ha2 hr1 hr2
    have hadd : ¬ 9223372036854775807 < (txt r1).size + (txt r2).size := by rw [txt_size, txt_size]; omega
    have hkd : K0 W w1.drew := hk1.trans (Kp.drew _ _)
    go_wp2_with fail
    go_region_held3 (fun V => (K0 W V ∧ V.cell? ⟨B1, 0, none⟩ = some (.pointer (some ⟨g1, 0, none⟩)) ∧ V.cell? ⟨B2, 0, none⟩ = some (.pointer (some ⟨g2, 0, none⟩)) ∧ V.cell? ⟨g1, 2, none⟩ = some (.func (.func N1) x1 y1) ∧ V.cell? ⟨g2, 2, none⟩ = some (.func (.func N2) x2 y2))) (go_keep) (first | (refine (unhide HLS _ (by assumption)).mono ?_; rintro e w2 ⟨rfl, hS2⟩) | (refine (unhide HRS _ (by assumption)).mono ?_; rintro e w3 ⟨rfl, hS3⟩))
    go_wp2
    go_ret
    exact ⟨.inl ⟨unhide Hm, by rw [(unhide HQ).1, (unhide HQ).2.1, (unhide HQ).2.2.1, (unhide HQ).2.2.2, txt_app]; rfl⟩, hS3.1⟩
  · exact ⟨rfl, .inr ⟨hm, rfl⟩, hk1⟩

end Go.Proofs.YtlljggefbngkeaaGreatDoor

namespace Go.Proofs.YtlljggefbngkeaaGreatDoor
open Go.RowKit Go.Shelf

set_option maxRecDepth 100000 in
set_option maxHeartbeats 3200000 in
theorem pair2_said {Y : Nat → Prop} {W : World} {A B A' B' : PT} {Pv1 Ps1 Pv2 Ps2 : List UInt8 → Prop} {G1 G2 : List UInt8 → List UInt8 → List UInt8} {ba bb ca cb Bv Bs B1 B2 g1 g2 : Nat} {F1 F2 F3 E1 E2 E3 : Value} {v s : List UInt8}
    (hv : W.heap[Bv]? = some (pcell 2 ca cb)) (hs : W.heap[Bs]? = some (pcell 1 ba bb)) (hl : W.heap[B1]? = some (lcell g1)) (hk : W.heap[B2]? = some (lcell g2)) (hA : MachAt W A ba) (hB : MachAt W B bb) (hA' : MachAt W A' ca) (hB' : MachAt W B' cb) (hbl : W.heap[g1]? = some (fcell F1 F2 F3)) (hbk : W.heap[g2]? = some (fcell E1 E2 E3))
    (hf1 : Fn2 Y W F2 Pv1 Ps1 G1) (hf2 : Fn2 Y W E2 Pv2 Ps2 G2) (e1 : ∀ u, M A' u → Pv1 u) (e2 : ∀ u, M B' u → Pv2 u) (i1 : ∀ u, M A u → Ps1 u) (i2 : ∀ u, M B u → Ps2 u) (hvl : v.length ≤ 1000) (hsl : s.length ≤ 1000) (b1 : ∀ u x, Pv1 u → Ps1 x → u.length ≤ 1000 → x.length ≤ 1000 → (G1 u x).length ≤ 1000000000) (b2 : ∀ u x, Pv2 u → Ps2 x → u.length ≤ 1000 → x.length ≤ 1000 → (G2 u x).length ≤ 1000000000) :
    Calls Tryz.prog 147 #[.string (txt v), .string (txt s), .pointer (some ⟨Bv, 0, none⟩), .pointer (some ⟨Bs, 0, none⟩), .pointer (some ⟨B1, 0, none⟩), .pointer (some ⟨B2, 0, none⟩)] W fun e w' => LbPost W (CutAt A' B' v) (CutAt A B s) (G1 (v.take (cutN A' B' v)) (s.take (cutN A B s)) ++ G2 (v.drop (cutN A' B' v)) (s.drop (cutN A B s))) e w' := by
  have c0 := cellOf hv 0
  have c1 := cellOf hv 1
  have c2 := cellOf hv 2
  simp at c0 c1 c2
  have HV := hide (part_said (m := 2) (u := v) hA' hB' hvl)
  have HS := hide (fun (V : World) (hV : K0 W V) => part_said (m := 1) (u := s) (hA.k0 hV) (hB.k0 hV) hsl)
  obtain ⟨N1, x1, y1, rfl, n1, t1⟩ := hf1
  obtain ⟨N2, x2, y2, rfl, n2, t2⟩ := hf2
  have HB := hide (And.intro hs (And.intro hl (And.intro hk (And.intro hbl hbk))))
  have H1 : Hid (∀ V : World, K0 W V → M A' (v.take (cutN A' B' v)) → M A (s.take (cutN A B s)) → Calls Tryz.prog N1 (x1 ++ (#[.string (txt (v.take (cutN A' B' v))), .string (txt (s.take (cutN A B s)))] ++ y1)) V fun e V' => e = .returned (.string (txt (G1 (v.take (cutN A' B' v)) (s.take (cutN A B s))))) ∧ K0 V V') := hide (fun V hV hM hM' => (t1 V (v.take (cutN A' B' v)) (s.take (cutN A B s)) (hV.ky Y) (by first | (rw [List.length_take]; omega) | (rw [List.length_drop]; omega)) (by first | (rw [List.length_take]; omega) | (rw [List.length_drop]; omega))).mono (fun e V' h => by
    obtain ⟨(⟨_, _, h1⟩ | ⟨h1, _⟩ | ⟨_, h1, _⟩), h2⟩ := h
    · exact ⟨h1, h2⟩
    · exact absurd (e1 _ hM) h1
    · exact absurd (i1 _ hM') h1))
  have H2 : Hid (∀ V : World, K0 W V → M B' (v.drop (cutN A' B' v)) → M B (s.drop (cutN A B s)) → Calls Tryz.prog N2 (x2 ++ (#[.string (txt (v.drop (cutN A' B' v))), .string (txt (s.drop (cutN A B s)))] ++ y2)) V fun e V' => e = .returned (.string (txt (G2 (v.drop (cutN A' B' v)) (s.drop (cutN A B s))))) ∧ K0 V V') := hide (fun V hV hM hM' => (t2 V (v.drop (cutN A' B' v)) (s.drop (cutN A B s)) (hV.ky Y) (by first | (rw [List.length_take]; omega) | (rw [List.length_drop]; omega)) (by first | (rw [List.length_take]; omega) | (rw [List.length_drop]; omega))).mono (fun e V' h => by
    obtain ⟨(⟨_, _, h1⟩ | ⟨h1, _⟩ | ⟨_, h1, _⟩), h2⟩ := h
    · exact ⟨h1, h2⟩
    · exact absurd (e2 _ hM) h1
    · exact absurd (i2 _ hM') h1))
  have HZ := hide (And.intro e1 (And.intro e2 (And.intro i1 (And.intro i2 (And.intro b1 b2)))))
  clear hs hv hl hk hA hB hA' hB' hbl hbk t1 t2 e1 e2 i1 i2 b1 b2
  unfold Ent at n1 n2
  go_enter Tryz.func147, Tryz.ntmps147
  go_wp2_with fail
  refine (unhide HV).mono ?_
  rintro e w0 ⟨(⟨hmv, rfl⟩ | ⟨hmv, rfl⟩), hk0⟩
  · have hb0 := (hk0.heap (heap_lt (unhide HB).1)).trans (unhide HB).1
    have u0 := cellOf hb0 0
    have u1 := cellOf hb0 1
    have u2 := cellOf hb0 2
    simp at u0 u1 u2
    have Hmv := hide hmv
    clear hmv hb0
    go_wp2_with fail
    refine (unhide HS _ hk0).mono ?_
    rintro e w1 ⟨(⟨hm, rfl⟩ | ⟨hm, rfl⟩), hk01⟩
    · have hk1 : K0 W w1 := hk0.trans hk01
      obtain ⟨_, hl, hk, hbl, hbk⟩ := unhide HB
      obtain ⟨_, hcl, hcA, hcB, _⟩ := cut_spec hm
      obtain ⟨_, hcl', hcA', hcB', _⟩ := cut_spec (unhide Hmv)
      have d0 := cellOf ((hk1.heap (heap_lt hl)).trans hl) 0
      have d1 := cellOf ((hk1.heap (heap_lt hk)).trans hk) 0
      have d2 := cellOf ((hk1.heap (heap_lt hbl)).trans hbl) 1
      have d3 := cellOf ((hk1.heap (heap_lt hbk)).trans hbk) 1
      simp at d0 d1 d2 d3
      have z1 : (G1 (v.take (cutN A' B' v)) (s.take (cutN A B s))).length ≤ 1000000000 := (unhide HZ).2.2.2.2.1 _ _ ((unhide HZ).1 _ hcA') ((unhide HZ).2.2.1 _ hcA) (by first | (rw [List.length_take]; omega) | (rw [List.length_drop]; omega)) (by first | (rw [List.length_take]; omega) | (rw [List.length_drop]; omega))
      have z2 : (G2 (v.drop (cutN A' B' v)) (s.drop (cutN A B s))).length ≤ 1000000000 := (unhide HZ).2.2.2.2.2 _ _ ((unhide HZ).2.1 _ hcB') ((unhide HZ).2.2.2.1 _ hcB) (by first | (rw [List.length_take]; omega) | (rw [List.length_drop]; omega)) (by first | (rw [List.length_take]; omega) | (rw [List.length_drop]; omega))
      have hSS : ∀ V V' : World, (K0 W V ∧ V.cell? ⟨B1, 0, none⟩ = some (.pointer (some ⟨g1, 0, none⟩)) ∧ V.cell? ⟨B2, 0, none⟩ = some (.pointer (some ⟨g2, 0, none⟩)) ∧ V.cell? ⟨g1, 1, none⟩ = some (.func (.func N1) x1 y1) ∧ V.cell? ⟨g2, 1, none⟩ = some (.func (.func N2) x2 y2)) → K0 V V' → (K0 W V' ∧ V'.cell? ⟨B1, 0, none⟩ = some (.pointer (some ⟨g1, 0, none⟩)) ∧ V'.cell? ⟨B2, 0, none⟩ = some (.pointer (some ⟨g2, 0, none⟩)) ∧ V'.cell? ⟨g1, 1, none⟩ = some (.func (.func N1) x1 y1) ∧ V'.cell? ⟨g2, 1, none⟩ = some (.func (.func N2) x2 y2)) := fun V V' h hk => ⟨h.1.trans hk, hk.cellz h.2.1, hk.cellz h.2.2.1, hk.cellz h.2.2.2.1, hk.cellz h.2.2.2.2⟩
      have HLS : Hid (∀ V : World, (K0 W V ∧ V.cell? ⟨B1, 0, none⟩ = some (.pointer (some ⟨g1, 0, none⟩)) ∧ V.cell? ⟨B2, 0, none⟩ = some (.pointer (some ⟨g2, 0, none⟩)) ∧ V.cell? ⟨g1, 1, none⟩ = some (.func (.func N1) x1 y1) ∧ V.cell? ⟨g2, 1, none⟩ = some (.func (.func N2) x2 y2)) → Calls Tryz.prog N1 (x1 ++ (#[.string (txt (v.take (cutN A' B' v))), .string (txt (s.take (cutN A B s)))] ++ y1)) V fun e V' => e = .returned (.string (txt (G1 (v.take (cutN A' B' v)) (s.take (cutN A B s))))) ∧ (K0 W V' ∧ V'.cell? ⟨B1, 0, none⟩ = some (.pointer (some ⟨g1, 0, none⟩)) ∧ V'.cell? ⟨B2, 0, none⟩ = some (.pointer (some ⟨g2, 0, none⟩)) ∧ V'.cell? ⟨g1, 1, none⟩ = some (.func (.func N1) x1 y1) ∧ V'.cell? ⟨g2, 1, none⟩ = some (.func (.func N2) x2 y2))) := hide (fun V h => (unhide H1 V h.1 hcA' hcA).mono (fun e V' h2 => ⟨h2.1, hSS V V' h h2.2⟩))
      have HRS : Hid (∀ V : World, (K0 W V ∧ V.cell? ⟨B1, 0, none⟩ = some (.pointer (some ⟨g1, 0, none⟩)) ∧ V.cell? ⟨B2, 0, none⟩ = some (.pointer (some ⟨g2, 0, none⟩)) ∧ V.cell? ⟨g1, 1, none⟩ = some (.func (.func N1) x1 y1) ∧ V.cell? ⟨g2, 1, none⟩ = some (.func (.func N2) x2 y2)) → Calls Tryz.prog N2 (x2 ++ (#[.string (txt (v.drop (cutN A' B' v))), .string (txt (s.drop (cutN A B s)))] ++ y2)) V fun e V' => e = .returned (.string (txt (G2 (v.drop (cutN A' B' v)) (s.drop (cutN A B s))))) ∧ (K0 W V' ∧ V'.cell? ⟨B1, 0, none⟩ = some (.pointer (some ⟨g1, 0, none⟩)) ∧ V'.cell? ⟨B2, 0, none⟩ = some (.pointer (some ⟨g2, 0, none⟩)) ∧ V'.cell? ⟨g1, 1, none⟩ = some (.func (.func N1) x1 y1) ∧ V'.cell? ⟨g2, 1, none⟩ = some (.func (.func N2) x2 y2))) := hide (fun V h => (unhide H2 V h.1 hcB' hcB).mono (fun e V' h2 => ⟨h2.1, hSS V V' h h2.2⟩))
      have Hm := hide hm
      clear hm hl hk hbl hbk hSS H1 H2 HB HZ HS HV hcA hcB hcl hcA' hcB' hcl' c0 c1 c2 u0 u1 u2 hk01
      obtain ⟨a1, ha1⟩ : ∃ a1, v.take (cutN A' B' v) = a1 := ⟨_, rfl⟩
      obtain ⟨a2, ha2⟩ : ∃ a2, v.drop (cutN A' B' v) = a2 := ⟨_, rfl⟩
      obtain ⟨o1, ho1⟩ : ∃ o1, s.take (cutN A B s) = o1 := ⟨_, rfl⟩
      obtain ⟨o2, ho2⟩ : ∃ o2, s.drop (cutN A B s) = o2 := ⟨_, rfl⟩
      rw [ha1, ho1] at z1 HLS
      rw [ha2, ho2] at z2 HRS
      obtain ⟨r1, hr1⟩ : ∃ r1, G1 a1 o1 = r1 := ⟨_, rfl⟩
      obtain ⟨r2, hr2⟩ : ∃ r2, G2 a2 o2 = r2 := ⟨_, rfl⟩
      rw [hr1] at z1 HLS
      rw [hr2] at z2 HRS
      rw [ha1, ha2, ho1, ho2]
      have HQ := hide (And.intro ha1 (And.intro ha2 (And.intro ho1 (And.intro ho2 (And.intro hr1 hr2)))))
      clear ha1 ha2 ho1 ho2 hr1 hr2
      have hadd : ¬ 9223372036854775807 < (txt r1).size + (txt r2).size := by rw [txt_size, txt_size]; omega
      have hkd : K0 W w1.drew := hk1.trans (Kp.drew _ _)
      go_wp2_with fail
      go_region_held3 (fun V => (K0 W V ∧ V.cell? ⟨B1, 0, none⟩ = some (.pointer (some ⟨g1, 0, none⟩)) ∧ V.cell? ⟨B2, 0, none⟩ = some (.pointer (some ⟨g2, 0, none⟩)) ∧ V.cell? ⟨g1, 1, none⟩ = some (.func (.func N1) x1 y1) ∧ V.cell? ⟨g2, 1, none⟩ = some (.func (.func N2) x2 y2))) (go_keep) (first | (refine (unhide HLS _ (by assumption)).mono ?_; rintro e w2 ⟨rfl, hS2⟩) | (refine (unhide HRS _ (by assumption)).mono ?_; rintro e w3 ⟨rfl, hS3⟩))
      go_wp2
      go_ret
      obtain ⟨ha1, ha2, ho1, ho2, hr1, hr2⟩ := unhide HQ
      exact ⟨.inl ⟨unhide Hmv, unhide Hm, by rw [ha1, ha2, ho1, ho2, hr1, hr2, txt_app]; rfl⟩, hS3.1⟩
    · exact ⟨rfl, .inr (.inr ⟨unhide Hmv, hm, rfl⟩), hk0.trans hk01⟩
  · exact ⟨rfl, .inr (.inl ⟨hmv, rfl⟩), hk0⟩

set_option maxRecDepth 100000 in
set_option maxHeartbeats 3200000 in
theorem swap2_said {Y : Nat → Prop} {W : World} {A B A' B' : PT} {Pv1 Ps1 Pv2 Ps2 : List UInt8 → Prop} {G1 G2 : List UInt8 → List UInt8 → List UInt8} {ba bb ca cb Bv Bs B1 B2 g1 g2 : Nat} {F1 F2 F3 E1 E2 E3 : Value} {v s : List UInt8}
    (hv : W.heap[Bv]? = some (pcell 2 ca cb)) (hs : W.heap[Bs]? = some (pcell 1 ba bb)) (hl : W.heap[B1]? = some (lcell g1)) (hk : W.heap[B2]? = some (lcell g2)) (hA : MachAt W A ba) (hB : MachAt W B bb) (hA' : MachAt W A' ca) (hB' : MachAt W B' cb) (hbl : W.heap[g1]? = some (fcell F1 F2 F3)) (hbk : W.heap[g2]? = some (fcell E1 E2 E3))
    (hf1 : Fn2 Y W F2 Pv1 Ps1 G1) (hf2 : Fn2 Y W E2 Pv2 Ps2 G2) (e1 : ∀ u, M B' u → Pv1 u) (e2 : ∀ u, M A' u → Pv2 u) (i1 : ∀ u, M A u → Ps1 u) (i2 : ∀ u, M B u → Ps2 u) (hvl : v.length ≤ 1000) (hsl : s.length ≤ 1000) (b1 : ∀ u x, Pv1 u → Ps1 x → u.length ≤ 1000 → x.length ≤ 1000 → (G1 u x).length ≤ 1000000000) (b2 : ∀ u x, Pv2 u → Ps2 x → u.length ≤ 1000 → x.length ≤ 1000 → (G2 u x).length ≤ 1000000000) :
    Calls Tryz.prog 104 #[.string (txt v), .string (txt s), .pointer (some ⟨Bv, 0, none⟩), .pointer (some ⟨Bs, 0, none⟩), .pointer (some ⟨B1, 0, none⟩), .pointer (some ⟨B2, 0, none⟩)] W fun e w' => LbPost W (CutAt A' B' v) (CutAt A B s) (G1 (v.drop (cutN A' B' v)) (s.take (cutN A B s)) ++ G2 (v.take (cutN A' B' v)) (s.drop (cutN A B s))) e w' := by
  have c0 := cellOf hv 0
  have c1 := cellOf hv 1
  have c2 := cellOf hv 2
  simp at c0 c1 c2
  have HV := hide (part_said (m := 2) (u := v) hA' hB' hvl)
  have HS := hide (fun (V : World) (hV : K0 W V) => part_said (m := 1) (u := s) (hA.k0 hV) (hB.k0 hV) hsl)
  obtain ⟨N1, x1, y1, rfl, n1, t1⟩ := hf1
  obtain ⟨N2, x2, y2, rfl, n2, t2⟩ := hf2
  have HB := hide (And.intro hs (And.intro hl (And.intro hk (And.intro hbl hbk))))
  have H1 : Hid (∀ V : World, K0 W V → M B' (v.drop (cutN A' B' v)) → M A (s.take (cutN A B s)) → Calls Tryz.prog N1 (x1 ++ (#[.string (txt (v.drop (cutN A' B' v))), .string (txt (s.take (cutN A B s)))] ++ y1)) V fun e V' => e = .returned (.string (txt (G1 (v.drop (cutN A' B' v)) (s.take (cutN A B s))))) ∧ K0 V V') := hide (fun V hV hM hM' => (t1 V (v.drop (cutN A' B' v)) (s.take (cutN A B s)) (hV.ky Y) (by first | (rw [List.length_take]; omega) | (rw [List.length_drop]; omega)) (by first | (rw [List.length_take]; omega) | (rw [List.length_drop]; omega))).mono (fun e V' h => by
    obtain ⟨(⟨_, _, h1⟩ | ⟨h1, _⟩ | ⟨_, h1, _⟩), h2⟩ := h
    · exact ⟨h1, h2⟩
    · exact absurd (e1 _ hM) h1
    · exact absurd (i1 _ hM') h1))
  have H2 : Hid (∀ V : World, K0 W V → M A' (v.take (cutN A' B' v)) → M B (s.drop (cutN A B s)) → Calls Tryz.prog N2 (x2 ++ (#[.string (txt (v.take (cutN A' B' v))), .string (txt (s.drop (cutN A B s)))] ++ y2)) V fun e V' => e = .returned (.string (txt (G2 (v.take (cutN A' B' v)) (s.drop (cutN A B s))))) ∧ K0 V V') := hide (fun V hV hM hM' => (t2 V (v.take (cutN A' B' v)) (s.drop (cutN A B s)) (hV.ky Y) (by first | (rw [List.length_take]; omega) | (rw [List.length_drop]; omega)) (by first | (rw [List.length_take]; omega) | (rw [List.length_drop]; omega))).mono (fun e V' h => by
    obtain ⟨(⟨_, _, h1⟩ | ⟨h1, _⟩ | ⟨_, h1, _⟩), h2⟩ := h
    · exact ⟨h1, h2⟩
    · exact absurd (e2 _ hM) h1
    · exact absurd (i2 _ hM') h1))
  have HZ := hide (And.intro e1 (And.intro e2 (And.intro i1 (And.intro i2 (And.intro b1 b2)))))
  clear hs hv hl hk hA hB hA' hB' hbl hbk t1 t2 e1 e2 i1 i2 b1 b2
  unfold Ent at n1 n2
  go_enter Tryz.func104, Tryz.ntmps104
  go_wp2_with fail
  refine (unhide HV).mono ?_
  rintro e w0 ⟨(⟨hmv, rfl⟩ | ⟨hmv, rfl⟩), hk0⟩
  · have hb0 := (hk0.heap (heap_lt (unhide HB).1)).trans (unhide HB).1
    have u0 := cellOf hb0 0
    have u1 := cellOf hb0 1
    have u2 := cellOf hb0 2
    simp at u0 u1 u2
    have Hmv := hide hmv
    clear hmv hb0
    go_wp2_with fail
    refine (unhide HS _ hk0).mono ?_
    rintro e w1 ⟨(⟨hm, rfl⟩ | ⟨hm, rfl⟩), hk01⟩
    · have hk1 : K0 W w1 := hk0.trans hk01
      obtain ⟨_, hl, hk, hbl, hbk⟩ := unhide HB
      obtain ⟨_, hcl, hcA, hcB, _⟩ := cut_spec hm
      obtain ⟨_, hcl', hcA', hcB', _⟩ := cut_spec (unhide Hmv)
      have d0 := cellOf ((hk1.heap (heap_lt hl)).trans hl) 0
      have d1 := cellOf ((hk1.heap (heap_lt hk)).trans hk) 0
      have d2 := cellOf ((hk1.heap (heap_lt hbl)).trans hbl) 1
      have d3 := cellOf ((hk1.heap (heap_lt hbk)).trans hbk) 1
      simp at d0 d1 d2 d3
      have z1 : (G1 (v.drop (cutN A' B' v)) (s.take (cutN A B s))).length ≤ 1000000000 := (unhide HZ).2.2.2.2.1 _ _ ((unhide HZ).1 _ hcB') ((unhide HZ).2.2.1 _ hcA) (by first | (rw [List.length_take]; omega) | (rw [List.length_drop]; omega)) (by first | (rw [List.length_take]; omega) | (rw [List.length_drop]; omega))
      have z2 : (G2 (v.take (cutN A' B' v)) (s.drop (cutN A B s))).length ≤ 1000000000 := (unhide HZ).2.2.2.2.2 _ _ ((unhide HZ).2.1 _ hcA') ((unhide HZ).2.2.2.1 _ hcB) (by first | (rw [List.length_take]; omega) | (rw [List.length_drop]; omega)) (by first | (rw [List.length_take]; omega) | (rw [List.length_drop]; omega))
      have hSS : ∀ V V' : World, (K0 W V ∧ V.cell? ⟨B1, 0, none⟩ = some (.pointer (some ⟨g1, 0, none⟩)) ∧ V.cell? ⟨B2, 0, none⟩ = some (.pointer (some ⟨g2, 0, none⟩)) ∧ V.cell? ⟨g1, 1, none⟩ = some (.func (.func N1) x1 y1) ∧ V.cell? ⟨g2, 1, none⟩ = some (.func (.func N2) x2 y2)) → K0 V V' → (K0 W V' ∧ V'.cell? ⟨B1, 0, none⟩ = some (.pointer (some ⟨g1, 0, none⟩)) ∧ V'.cell? ⟨B2, 0, none⟩ = some (.pointer (some ⟨g2, 0, none⟩)) ∧ V'.cell? ⟨g1, 1, none⟩ = some (.func (.func N1) x1 y1) ∧ V'.cell? ⟨g2, 1, none⟩ = some (.func (.func N2) x2 y2)) := fun V V' h hk => ⟨h.1.trans hk, hk.cellz h.2.1, hk.cellz h.2.2.1, hk.cellz h.2.2.2.1, hk.cellz h.2.2.2.2⟩
      have HLS : Hid (∀ V : World, (K0 W V ∧ V.cell? ⟨B1, 0, none⟩ = some (.pointer (some ⟨g1, 0, none⟩)) ∧ V.cell? ⟨B2, 0, none⟩ = some (.pointer (some ⟨g2, 0, none⟩)) ∧ V.cell? ⟨g1, 1, none⟩ = some (.func (.func N1) x1 y1) ∧ V.cell? ⟨g2, 1, none⟩ = some (.func (.func N2) x2 y2)) → Calls Tryz.prog N1 (x1 ++ (#[.string (txt (v.drop (cutN A' B' v))), .string (txt (s.take (cutN A B s)))] ++ y1)) V fun e V' => e = .returned (.string (txt (G1 (v.drop (cutN A' B' v)) (s.take (cutN A B s))))) ∧ (K0 W V' ∧ V'.cell? ⟨B1, 0, none⟩ = some (.pointer (some ⟨g1, 0, none⟩)) ∧ V'.cell? ⟨B2, 0, none⟩ = some (.pointer (some ⟨g2, 0, none⟩)) ∧ V'.cell? ⟨g1, 1, none⟩ = some (.func (.func N1) x1 y1) ∧ V'.cell? ⟨g2, 1, none⟩ = some (.func (.func N2) x2 y2))) := hide (fun V h => (unhide H1 V h.1 hcB' hcA).mono (fun e V' h2 => ⟨h2.1, hSS V V' h h2.2⟩))
      have HRS : Hid (∀ V : World, (K0 W V ∧ V.cell? ⟨B1, 0, none⟩ = some (.pointer (some ⟨g1, 0, none⟩)) ∧ V.cell? ⟨B2, 0, none⟩ = some (.pointer (some ⟨g2, 0, none⟩)) ∧ V.cell? ⟨g1, 1, none⟩ = some (.func (.func N1) x1 y1) ∧ V.cell? ⟨g2, 1, none⟩ = some (.func (.func N2) x2 y2)) → Calls Tryz.prog N2 (x2 ++ (#[.string (txt (v.take (cutN A' B' v))), .string (txt (s.drop (cutN A B s)))] ++ y2)) V fun e V' => e = .returned (.string (txt (G2 (v.take (cutN A' B' v)) (s.drop (cutN A B s))))) ∧ (K0 W V' ∧ V'.cell? ⟨B1, 0, none⟩ = some (.pointer (some ⟨g1, 0, none⟩)) ∧ V'.cell? ⟨B2, 0, none⟩ = some (.pointer (some ⟨g2, 0, none⟩)) ∧ V'.cell? ⟨g1, 1, none⟩ = some (.func (.func N1) x1 y1) ∧ V'.cell? ⟨g2, 1, none⟩ = some (.func (.func N2) x2 y2))) := hide (fun V h => (unhide H2 V h.1 hcA' hcB).mono (fun e V' h2 => ⟨h2.1, hSS V V' h h2.2⟩))
      have Hm := hide hm
      clear hm hl hk hbl hbk hSS H1 H2 HB HZ HS HV hcA hcB hcl hcA' hcB' hcl' c0 c1 c2 u0 u1 u2 hk01
      obtain ⟨a1, ha1⟩ : ∃ a1, v.drop (cutN A' B' v) = a1 := ⟨_, rfl⟩
      obtain ⟨a2, ha2⟩ : ∃ a2, v.take (cutN A' B' v) = a2 := ⟨_, rfl⟩
      obtain ⟨o1, ho1⟩ : ∃ o1, s.take (cutN A B s) = o1 := ⟨_, rfl⟩
      obtain ⟨o2, ho2⟩ : ∃ o2, s.drop (cutN A B s) = o2 := ⟨_, rfl⟩
      rw [ha1, ho1] at z1 HLS
      rw [ha2, ho2] at z2 HRS
      obtain ⟨r1, hr1⟩ : ∃ r1, G1 a1 o1 = r1 := ⟨_, rfl⟩
      obtain ⟨r2, hr2⟩ : ∃ r2, G2 a2 o2 = r2 := ⟨_, rfl⟩
      rw [hr1] at z1 HLS
      rw [hr2] at z2 HRS
      rw [ha1, ha2, ho1, ho2]
      have HQ := hide (And.intro ha1 (And.intro ha2 (And.intro ho1 (And.intro ho2 (And.intro hr1 hr2)))))
      clear ha1 ha2 ho1 ho2 hr1 hr2
      have hadd : ¬ 9223372036854775807 < (txt r1).size + (txt r2).size := by rw [txt_size, txt_size]; omega
      have hkd : K0 W w1.drew := hk1.trans (Kp.drew _ _)
      go_wp2_with fail
      go_region_held3 (fun V => (K0 W V ∧ V.cell? ⟨B1, 0, none⟩ = some (.pointer (some ⟨g1, 0, none⟩)) ∧ V.cell? ⟨B2, 0, none⟩ = some (.pointer (some ⟨g2, 0, none⟩)) ∧ V.cell? ⟨g1, 1, none⟩ = some (.func (.func N1) x1 y1) ∧ V.cell? ⟨g2, 1, none⟩ = some (.func (.func N2) x2 y2))) (go_keep) (first | (refine (unhide HLS _ (by assumption)).mono ?_; rintro e w2 ⟨rfl, hS2⟩) | (refine (unhide HRS _ (by assumption)).mono ?_; rintro e w3 ⟨rfl, hS3⟩))
      go_wp2
      go_ret
      obtain ⟨ha1, ha2, ho1, ho2, hr1, hr2⟩ := unhide HQ
      exact ⟨.inl ⟨unhide Hmv, unhide Hm, by rw [ha1, ha2, ho1, ho2, hr1, hr2, txt_app]; rfl⟩, hS3.1⟩
    · exact ⟨rfl, .inr (.inr ⟨unhide Hmv, hm, rfl⟩), hk0.trans hk01⟩
  · exact ⟨rfl, .inr (.inl ⟨hmv, rfl⟩), hk0⟩

end Go.Proofs.YtlljggefbngkeaaGreatDoor

namespace Go.Proofs.YtlljggefbngkeaaGreatDoor
open Go.RowKit Go.Shelf

theorem five_atz (W : World) (o1 o2 o3 o4 o5 : Obj) : ∃ w5, ((((W.alloc o1).alloc o2).alloc o3).alloc o4).alloc o5 = w5 ∧ w5.heap.size = W.heap.size + 5 ∧ w5.heap[W.heap.size]? = some o1 ∧ w5.heap[W.heap.size + 1]? = some o2 ∧ w5.heap[W.heap.size + 2]? = some o3 ∧ w5.heap[W.heap.size + 3]? = some o4 ∧ w5.heap[W.heap.size + 4]? = some o5 ∧ W.grownBy w5 none := by
  obtain ⟨w4, h4, s4, a, b, c, d, g4⟩ := four_at W o1 o2 o3 o4
  refine ⟨w4.alloc o5, by rw [h4], by simp; omega, heap_alloc_old _ a, heap_alloc_old _ b, heap_alloc_old _ c, heap_alloc_old _ d, ?_, g4.trans (World.grownBy_alloc _ _ none)⟩
  have := heap_alloc_new w4 o5
  rw [s4] at this
  exact this

theorem cut_iff {A B A' B' : PT} (hA : ∀ u, M A u ↔ M A' u) (hB : ∀ u, M B u ↔ M B' u) (u : List UInt8) : CutAt A B u ↔ M (.seq [A', B']) u := by
  constructor
  · rintro ⟨i, _, h1, h2⟩; exact cut_M ((hA _).1 h1) ((hB _).1 h2)
  · intro h
    obtain ⟨i, h1, h2, h3⟩ := M_cut h
    exact ⟨i, h1, (hA _).2 h2, (hB _).2 h3⟩

theorem bd_small {c : BT} (h : bsz c ≤ 800) (n : Nat) (hn : n ≤ 1000) : bd c n ≤ 96000000 := by
  unfold bd
  exact Nat.le_trans (Nat.mul_le_mul (Nat.mul_le_mul_left 120 h) (show max 1 n ≤ 1000 by omega)) (by decide)
theorem get_small {c : BT} (h : bNE c) (hz : bsz c ≤ 800) : ∀ u, M (bS c) u → u.length ≤ 1000 → (getF c u).length ≤ 1000000000 := fun u hu hl => by
  have := get_len c h u hu
  have := bd_small hz u.length hl
  omega
theorem make_small {c : BT} (h : bNE c) (hz : bsz c ≤ 800) : ∀ u, M (bV c) u → u.length ≤ 1000 → (makeF c u).length ≤ 1000000000 := fun u hu hl => by
  have := make_len c h u hu
  have := bd_small hz u.length hl
  omega
theorem put_small {c : BT} (h : bNE c) (hz : bsz c ≤ 800) : ∀ v s, M (bV c) v → M (bS c) s → v.length ≤ 1000 → s.length ≤ 1000 → (putF c v s).length ≤ 1000000000 := fun v s hv hs hl hl' => by
  have := put_len c h v s hv hs
  have := bd_small hz v.length hl
  omega

set_option maxRecDepth 100000 in
set_option maxHeartbeats 1600000 in
theorem pair_said {Y : Nat → Prop} {w : World} {a b : BT} (p : Nat) {A B A' B' : PT} {gl gk ba bb ca cb : Nat} (hY : ∀ k, Y k → k < w.heap.size) (hca : CL Y w gl a) (hcb : CL Y w gk b) (hA : MachO w Y A ba) (hB : MachO w Y B bb) (hA' : MachO w Y A' ca) (hB' : MachO w Y B' cb)
    (eA : ∀ u, M A u ↔ M (bS a) u) (eB : ∀ u, M B u ↔ M (bS b) u) (eA' : ∀ u, M A' u ↔ M (bV a) u) (eB' : ∀ u, M B' u ↔ M (bV b) u) (na : bNE a) (nb : bNE b) (za : bsz a ≤ 800) (zb : bsz b ≤ 800) :
    Calls Tryz.prog 115 #[.pointer (some ⟨gl, 0, none⟩), .pointer (some ⟨gk, 0, none⟩), pagg 1 ba bb, pagg 2 ca cb] w fun e w' => ClPost Y w (.two 114 p a b) e w' := by
  have hmf : ∀ (fn : Fn) (first cap : Array Value) (w : World), (Instr.makeFunc fn first cap).run Tryz.prog w = .ok (.func fn first cap) w := fun _ _ _ _ => rfl
  have sS : ∀ u, CutAt A B u ↔ M (bS (.two 114 p a b)) u := fun u => by rw [bS, if_neg (by decide)]; exact cut_iff eA eB u
  have sV : ∀ u, CutAt A' B' u ↔ M (bV (.two 114 p a b)) u := fun u => by rw [bV, if_neg (by decide), if_neg (by decide)]; exact cut_iff eA' eB' u
  have xS : ∀ u, cutN A B u = cutN (bS a) (bS b) u := cutN_congr eA eB
  have xV : ∀ u, cutN A' B' u = cutN (bV a) (bV b) u := cutN_congr eA' eB'
  have HH := hide (And.intro hY (And.intro hca (And.intro hcb (And.intro hA (And.intro hB (And.intro hA' (And.intro hB' (And.intro eA (And.intro eB (And.intro eA' (And.intro eB' (And.intro na (And.intro nb (And.intro za (And.intro zb (And.intro sS (And.intro sV (And.intro xS xV))))))))))))))))))
  clear hY hca hcb hA hB hA' hB' eA eB eA' eB' na nb za zb sS sV xS xV
  unfold pagg
  go_enter Tryz.func115, Tryz.ntmps115
  go_wp2
  go_ret
  obtain ⟨hY, ⟨f1, f2, f3, bl, yl, l1, l2, l3⟩, ⟨e1, e2, e3, bk, yk, k1, k2, k3⟩, hA, hB, hA', hB', eA, eB, eA', eB', na, nb, za, zb, sS, sV, xS, xV⟩ := unhide HH
  obtain ⟨w3, hw3, hs3, p0, p1, p2, p3, p4, hg3⟩ := five_atz w (.cells #[.pointer (some ⟨gl, 0, none⟩)] 57) (.cells #[.pointer (some ⟨gk, 0, none⟩)] 57) (.cells #[.int .i64 1, .pointer (some ⟨ba, 0, none⟩), .pointer (some ⟨bb, 0, none⟩)] 128) (.cells #[.int .i64 2, .pointer (some ⟨ca, 0, none⟩), .pointer (some ⟨cb, 0, none⟩)] 128) (.cells #[.func (.func 146) #[] #[.pointer (some ⟨w.heap.size + 2, 0, none⟩), .pointer (some ⟨w.heap.size, 0, none⟩), .pointer (some ⟨w.heap.size + 1, 0, none⟩)], .func (.func 147) #[] #[.pointer (some ⟨w.heap.size + 3, 0, none⟩), .pointer (some ⟨w.heap.size + 2, 0, none⟩), .pointer (some ⟨w.heap.size, 0, none⟩), .pointer (some ⟨w.heap.size + 1, 0, none⟩)], .func (.func 148) #[] #[.pointer (some ⟨w.heap.size + 3, 0, none⟩), .pointer (some ⟨w.heap.size, 0, none⟩), .pointer (some ⟨w.heap.size + 1, 0, none⟩)]] 88)
  have hk0 := K0.of_grownz hg3
  have hk := hk0.ky Y
  have ny : ∀ k, w.heap.size ≤ k → ¬ Y k := fun k h hy => by have := hY _ hy; omega
  refine ⟨w.heap.size + 4, rfl, ?_, ?_⟩
  · rw [hw3]
    refine ⟨_, _, _, p4, ny _ (by omega), ?_, ?_, ?_⟩
    · refine ⟨_, _, _, rfl, enters_of Tryz.func146 (by kernel_rfl) rfl, fun W u hW hu => ?_⟩
      have e : (#[] : Array Value).push (.string (txt u)) ++ #[.pointer (some ⟨w.heap.size + 2, 0, none⟩), .pointer (some ⟨w.heap.size, 0, none⟩), .pointer (some ⟨w.heap.size + 1, 0, none⟩)] = #[.string (txt u), .pointer (some ⟨w.heap.size + 2, 0, none⟩), .pointer (some ⟨w.heap.size, 0, none⟩), .pointer (some ⟨w.heap.size + 1, 0, none⟩)] := by simp
      rw [e]
      refine (pair1_said (hW.heap p2 (ny _ (by omega))) (hW.heap p0 (ny _ (by omega))) (hW.heap p1 (ny _ (by omega))) ((hA.ky hk).ky hW).at_ ((hB.ky hk).ky hW).at_ (hW.heap (hk.heap bl yl) yl) (hW.heap (hk.heap bk yk) yk) ((l1.ky hk).ky hW) ((k1.ky hk).ky hW) (fun x hx => (eA x).1 hx) (fun x hx => (eB x).1 hx) hu (get_small na za) (get_small nb zb)).mono ?_
      rintro e w' ⟨hh, hk'⟩
      rw [sS u, xS u] at hh
      rw [getF, if_neg (by decide), if_neg (by decide)]
      exact ⟨hh, hk'⟩
    · refine ⟨_, _, _, rfl, enters_of Tryz.func147 (by kernel_rfl) rfl, fun W v s hW hv hs => ?_⟩
      have e : (#[] : Array Value) ++ (#[.string (txt v), .string (txt s)] ++ #[.pointer (some ⟨w.heap.size + 3, 0, none⟩), .pointer (some ⟨w.heap.size + 2, 0, none⟩), .pointer (some ⟨w.heap.size, 0, none⟩), .pointer (some ⟨w.heap.size + 1, 0, none⟩)]) = #[.string (txt v), .string (txt s), .pointer (some ⟨w.heap.size + 3, 0, none⟩), .pointer (some ⟨w.heap.size + 2, 0, none⟩), .pointer (some ⟨w.heap.size, 0, none⟩), .pointer (some ⟨w.heap.size + 1, 0, none⟩)] := by simp
      rw [e]
      refine (pair2_said (hW.heap p3 (ny _ (by omega))) (hW.heap p2 (ny _ (by omega))) (hW.heap p0 (ny _ (by omega))) (hW.heap p1 (ny _ (by omega))) ((hA.ky hk).ky hW).at_ ((hB.ky hk).ky hW).at_ ((hA'.ky hk).ky hW).at_ ((hB'.ky hk).ky hW).at_ (hW.heap (hk.heap bl yl) yl) (hW.heap (hk.heap bk yk) yk) ((l2.ky hk).ky hW) ((k2.ky hk).ky hW) (fun x hx => (eA' x).1 hx) (fun x hx => (eB' x).1 hx) (fun x hx => (eA x).1 hx) (fun x hx => (eB x).1 hx) hv hs (put_small na za) (put_small nb zb)).mono ?_
      rintro e w' ⟨hh, hk'⟩
      rw [sS s, sV v, xS s, xV v] at hh
      rw [putF, if_neg (by decide), if_neg (by decide)]
      exact ⟨hh, hk'⟩
    · refine ⟨_, _, _, rfl, enters_of Tryz.func148 (by kernel_rfl) rfl, fun W u hW hu => ?_⟩
      have e : (#[] : Array Value).push (.string (txt u)) ++ #[.pointer (some ⟨w.heap.size + 3, 0, none⟩), .pointer (some ⟨w.heap.size, 0, none⟩), .pointer (some ⟨w.heap.size + 1, 0, none⟩)] = #[.string (txt u), .pointer (some ⟨w.heap.size + 3, 0, none⟩), .pointer (some ⟨w.heap.size, 0, none⟩), .pointer (some ⟨w.heap.size + 1, 0, none⟩)] := by simp
      rw [e]
      refine (pair3_said (hW.heap p3 (ny _ (by omega))) (hW.heap p0 (ny _ (by omega))) (hW.heap p1 (ny _ (by omega))) ((hA'.ky hk).ky hW).at_ ((hB'.ky hk).ky hW).at_ (hW.heap (hk.heap bl yl) yl) (hW.heap (hk.heap bk yk) yk) ((l3.ky hk).ky hW) ((k3.ky hk).ky hW) (fun x hx => (eA' x).1 hx) (fun x hx => (eB' x).1 hx) hu (make_small na za) (make_small nb zb)).mono ?_
      rintro e w' ⟨hh, hk'⟩
      rw [sV u, xV u] at hh
      rw [makeF, if_neg (by decide), if_neg (by decide)]
      exact ⟨hh, hk'⟩
  · rw [hw3]
    exact hk0

set_option maxRecDepth 100000 in
set_option maxHeartbeats 1600000 in
theorem swap_said {Y : Nat → Prop} {w : World} {a b : BT} (p : Nat) {A B A' B' : PT} {gl gk ba bb ca cb : Nat} (hY : ∀ k, Y k → k < w.heap.size) (hca : CL Y w gl a) (hcb : CL Y w gk b) (hA : MachO w Y A ba) (hB : MachO w Y B bb) (hA' : MachO w Y A' ca) (hB' : MachO w Y B' cb)
    (eA : ∀ u, M A u ↔ M (bS a) u) (eB : ∀ u, M B u ↔ M (bS b) u) (eA' : ∀ u, M A' u ↔ M (bV b) u) (eB' : ∀ u, M B' u ↔ M (bV a) u) (na : bNE a) (nb : bNE b) (za : bsz a ≤ 800) (zb : bsz b ≤ 800) :
    Calls Tryz.prog 71 #[.pointer (some ⟨gl, 0, none⟩), .pointer (some ⟨gk, 0, none⟩), pagg 1 ba bb, pagg 2 ca cb] w fun e w' => ClPost Y w (.two 126 p a b) e w' := by
  have hmf : ∀ (fn : Fn) (first cap : Array Value) (w : World), (Instr.makeFunc fn first cap).run Tryz.prog w = .ok (.func fn first cap) w := fun _ _ _ _ => rfl
  have sS : ∀ u, CutAt A B u ↔ M (bS (.two 126 p a b)) u := fun u => by rw [bS, if_neg (by decide)]; exact cut_iff eA eB u
  have sV : ∀ u, CutAt A' B' u ↔ M (bV (.two 126 p a b)) u := fun u => by rw [bV, if_neg (by decide), if_pos rfl]; exact cut_iff eA' eB' u
  have xS : ∀ u, cutN A B u = cutN (bS a) (bS b) u := cutN_congr eA eB
  have xV : ∀ u, cutN A' B' u = cutN (bV b) (bV a) u := cutN_congr eA' eB'
  have HH := hide (And.intro hY (And.intro hca (And.intro hcb (And.intro hA (And.intro hB (And.intro hA' (And.intro hB' (And.intro eA (And.intro eB (And.intro eA' (And.intro eB' (And.intro na (And.intro nb (And.intro za (And.intro zb (And.intro sS (And.intro sV (And.intro xS xV))))))))))))))))))
  clear hY hca hcb hA hB hA' hB' eA eB eA' eB' na nb za zb sS sV xS xV
  unfold pagg
  go_enter Tryz.func71, Tryz.ntmps71
  go_wp2
  go_ret
  obtain ⟨hY, ⟨f1, f2, f3, bl, yl, l1, l2, l3⟩, ⟨e1, e2, e3, bk, yk, k1, k2, k3⟩, hA, hB, hA', hB', eA, eB, eA', eB', na, nb, za, zb, sS, sV, xS, xV⟩ := unhide HH
  obtain ⟨w3, hw3, hs3, p0, p1, p2, p3, p4, hg3⟩ := five_atz w (.cells #[.pointer (some ⟨gl, 0, none⟩)] 57) (.cells #[.pointer (some ⟨gk, 0, none⟩)] 57) (.cells #[.int .i64 1, .pointer (some ⟨ba, 0, none⟩), .pointer (some ⟨bb, 0, none⟩)] 128) (.cells #[.int .i64 2, .pointer (some ⟨ca, 0, none⟩), .pointer (some ⟨cb, 0, none⟩)] 128) (.cells #[.func (.func 102) #[] #[.pointer (some ⟨w.heap.size + 2, 0, none⟩), .pointer (some ⟨w.heap.size + 1, 0, none⟩), .pointer (some ⟨w.heap.size, 0, none⟩)], .func (.func 104) #[] #[.pointer (some ⟨w.heap.size + 3, 0, none⟩), .pointer (some ⟨w.heap.size + 2, 0, none⟩), .pointer (some ⟨w.heap.size, 0, none⟩), .pointer (some ⟨w.heap.size + 1, 0, none⟩)], .func (.func 105) #[] #[.pointer (some ⟨w.heap.size + 3, 0, none⟩), .pointer (some ⟨w.heap.size, 0, none⟩), .pointer (some ⟨w.heap.size + 1, 0, none⟩)]] 88)
  have hk0 := K0.of_grownz hg3
  have hk := hk0.ky Y
  have ny : ∀ k, w.heap.size ≤ k → ¬ Y k := fun k h hy => by have := hY _ hy; omega
  refine ⟨w.heap.size + 4, rfl, ?_, ?_⟩
  · rw [hw3]
    refine ⟨_, _, _, p4, ny _ (by omega), ?_, ?_, ?_⟩
    · refine ⟨_, _, _, rfl, enters_of Tryz.func102 (by kernel_rfl) rfl, fun W u hW hu => ?_⟩
      have e : (#[] : Array Value).push (.string (txt u)) ++ #[.pointer (some ⟨w.heap.size + 2, 0, none⟩), .pointer (some ⟨w.heap.size + 1, 0, none⟩), .pointer (some ⟨w.heap.size, 0, none⟩)] = #[.string (txt u), .pointer (some ⟨w.heap.size + 2, 0, none⟩), .pointer (some ⟨w.heap.size + 1, 0, none⟩), .pointer (some ⟨w.heap.size, 0, none⟩)] := by simp
      rw [e]
      refine (swap1_said (hW.heap p2 (ny _ (by omega))) (hW.heap p1 (ny _ (by omega))) (hW.heap p0 (ny _ (by omega))) ((hA.ky hk).ky hW).at_ ((hB.ky hk).ky hW).at_ (hW.heap (hk.heap bk yk) yk) (hW.heap (hk.heap bl yl) yl) ((k1.ky hk).ky hW) ((l1.ky hk).ky hW) (fun x hx => (eB x).1 hx) (fun x hx => (eA x).1 hx) hu (get_small nb zb) (get_small na za)).mono ?_
      rintro e w' ⟨hh, hk'⟩
      rw [sS u, xS u] at hh
      rw [getF, if_neg (by decide), if_pos rfl]
      exact ⟨hh, hk'⟩
    · refine ⟨_, _, _, rfl, enters_of Tryz.func104 (by kernel_rfl) rfl, fun W v s hW hv hs => ?_⟩
      have e : (#[] : Array Value) ++ (#[.string (txt v), .string (txt s)] ++ #[.pointer (some ⟨w.heap.size + 3, 0, none⟩), .pointer (some ⟨w.heap.size + 2, 0, none⟩), .pointer (some ⟨w.heap.size, 0, none⟩), .pointer (some ⟨w.heap.size + 1, 0, none⟩)]) = #[.string (txt v), .string (txt s), .pointer (some ⟨w.heap.size + 3, 0, none⟩), .pointer (some ⟨w.heap.size + 2, 0, none⟩), .pointer (some ⟨w.heap.size, 0, none⟩), .pointer (some ⟨w.heap.size + 1, 0, none⟩)] := by simp
      rw [e]
      refine (swap2_said (hW.heap p3 (ny _ (by omega))) (hW.heap p2 (ny _ (by omega))) (hW.heap p0 (ny _ (by omega))) (hW.heap p1 (ny _ (by omega))) ((hA.ky hk).ky hW).at_ ((hB.ky hk).ky hW).at_ ((hA'.ky hk).ky hW).at_ ((hB'.ky hk).ky hW).at_ (hW.heap (hk.heap bl yl) yl) (hW.heap (hk.heap bk yk) yk) ((l2.ky hk).ky hW) ((k2.ky hk).ky hW) (fun x hx => (eB' x).1 hx) (fun x hx => (eA' x).1 hx) (fun x hx => (eA x).1 hx) (fun x hx => (eB x).1 hx) hv hs (put_small na za) (put_small nb zb)).mono ?_
      rintro e w' ⟨hh, hk'⟩
      rw [sS s, sV v, xS s, xV v] at hh
      rw [putF, if_neg (by decide), if_pos rfl]
      exact ⟨hh, hk'⟩
    · refine ⟨_, _, _, rfl, enters_of Tryz.func105 (by kernel_rfl) rfl, fun W u hW hu => ?_⟩
      have e : (#[] : Array Value).push (.string (txt u)) ++ #[.pointer (some ⟨w.heap.size + 3, 0, none⟩), .pointer (some ⟨w.heap.size, 0, none⟩), .pointer (some ⟨w.heap.size + 1, 0, none⟩)] = #[.string (txt u), .pointer (some ⟨w.heap.size + 3, 0, none⟩), .pointer (some ⟨w.heap.size, 0, none⟩), .pointer (some ⟨w.heap.size + 1, 0, none⟩)] := by simp
      rw [e]
      refine (swap3_said (hW.heap p3 (ny _ (by omega))) (hW.heap p0 (ny _ (by omega))) (hW.heap p1 (ny _ (by omega))) ((hA'.ky hk).ky hW).at_ ((hB'.ky hk).ky hW).at_ (hW.heap (hk.heap bl yl) yl) (hW.heap (hk.heap bk yk) yk) ((l3.ky hk).ky hW) ((k3.ky hk).ky hW) (fun x hx => (eB' x).1 hx) (fun x hx => (eA' x).1 hx) hu (make_small na za) (make_small nb zb)).mono ?_
      rintro e w' ⟨hh, hk'⟩
      rw [sV u, xV u] at hh
      rw [makeF, if_neg (by decide), if_pos rfl]
      exact ⟨hh, hk'⟩
  · rw [hw3]
    exact hk0

end Go.Proofs.YtlljggefbngkeaaGreatDoor
