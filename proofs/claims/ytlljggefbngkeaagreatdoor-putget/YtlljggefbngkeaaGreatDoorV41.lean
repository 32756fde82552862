import Derived.Test.YtlljggefbngkeaaGreatDoorV40
import Derived.Test.YtlljggefbngkeaaGreatDoorV22
namespace Go.Proofs.YtlljggefbngkeaaGreatDoor
open Go.RowKit Go.Shelf

theorem len_le_flat {x : List UInt8} : ∀ {l : List (List UInt8)}, x ∈ l → x.length ≤ l.flatten.length
  | [], h => by cases h
  | y :: l, h => by
    rw [List.flatten_cons, List.length_append]
    rcases List.mem_cons.1 h with e | h
    · rw [e]; omega
    · have := len_le_flat h; omega
theorem cnt_le_flat : ∀ {l : List (List UInt8)}, (∀ x, x ∈ l → x ≠ []) → l.length ≤ l.flatten.length
  | [], _ => by simp
  | y :: l, h => by
    have h1 := List.length_pos_iff.2 (h y List.mem_cons_self)
    have h2 := cnt_le_flat (l := l) (fun x hx => h x (List.mem_cons_of_mem _ hx))
    rw [List.flatten_cons, List.length_append, List.length_cons]
    omega
theorem flat_le {K : Nat} : ∀ {l : List (List UInt8)}, (∀ x, x ∈ l → x.length ≤ K) → l.flatten.length ≤ l.length * K
  | [], _ => by simp
  | y :: l, h => by
    have h1 := h y List.mem_cons_self
    have h2 := flat_le (l := l) (fun x hx => h x (List.mem_cons_of_mem _ hx))
    rw [List.flatten_cons, List.length_append, List.length_cons, Nat.add_mul, Nat.one_mul]
    omega
/-- the pieces of a short text -/
theorem pcs_few {A : PT} (h0 : ¬ M A []) {u : List UInt8} (hu : M (.rep 42 A) u) (hl : u.length ≤ 1000) : (pcF A u).length ≤ 1000 ∧ ∀ x, x ∈ pcF A u → M A x ∧ x.length ≤ 1000 := by
  obtain ⟨h1, h2⟩ := pcF_spec h0 hu
  have h3 := cnt_le_flat (fun x hx => (h1 x hx).2)
  rw [h2] at h3
  refine ⟨by omega, fun x hx => ⟨(h1 x hx).1, ?_⟩⟩
  have := len_le_flat hx
  rw [h2] at this
  omega

set_option maxRecDepth 100000 in
set_option maxHeartbeats 3200000 in
theorem many1_ok {Y : Nat → Prop} {W : World} {A : PT} {P : List UInt8 → Prop} {G : List UInt8 → List UInt8} {m : Int} {ba bb Bp Bl g : Nat} {F1 F2 F3 : Value} {u : List UInt8}
    (hp : W.heap[Bp]? = some (pcell m ba bb)) (hl : W.heap[Bl]? = some (lcell g)) (hA : MachAt W A ba) (hB : MachAt W (.rep 42 A) bb) (h0 : ¬ M A []) (hb : W.heap[g]? = some (fcell F1 F2 F3)) (hf : Fn1 Y W F1 P G m) (eP : ∀ x, M A x → P x) (hbd : ∀ x, P x → x.length ≤ 1000 → (G x).length ≤ 1000000000) (hul : u.length ≤ 1000) (hu : M (.rep 42 A) u) :
    Calls Tryz.prog 109 #[.string (txt u), .pointer (some ⟨Bp, 0, none⟩), .pointer (some ⟨Bl, 0, none⟩)] W fun e w' => e = .returned (.string (txt ((pcF A u).flatMap G))) ∧ K0 W w' := by
  have c0 := cellOf hp 0
  have c1 := cellOf hp 1
  have c2 := cellOf hp 2
  have l0 := cellOf hl 0
  have b0 := cellOf hb 0
  simp at c0 c1 c2 l0 b0
  obtain ⟨N, x, y, rfl, n1, s1⟩ := hf
  obtain ⟨few, pin⟩ := pcs_few h0 hu hul
  have hSS : ∀ V V' : World, (K0 W V ∧ V.cell? ⟨Bp, 0, none⟩ = some (.int .i64 m) ∧ V.cell? ⟨Bp, 1, none⟩ = some (.pointer (some ⟨ba, 0, none⟩)) ∧ V.cell? ⟨Bp, 2, none⟩ = some (.pointer (some ⟨bb, 0, none⟩)) ∧ V.cell? ⟨Bl, 0, none⟩ = some (.pointer (some ⟨g, 0, none⟩)) ∧ V.cell? ⟨g, 0, none⟩ = some (.func (.func N) x y)) → K0 V V' → (K0 W V' ∧ V'.cell? ⟨Bp, 0, none⟩ = some (.int .i64 m) ∧ V'.cell? ⟨Bp, 1, none⟩ = some (.pointer (some ⟨ba, 0, none⟩)) ∧ V'.cell? ⟨Bp, 2, none⟩ = some (.pointer (some ⟨bb, 0, none⟩)) ∧ V'.cell? ⟨Bl, 0, none⟩ = some (.pointer (some ⟨g, 0, none⟩)) ∧ V'.cell? ⟨g, 0, none⟩ = some (.func (.func N) x y)) := fun V V' h hk => ⟨h.1.trans hk, hk.cellz h.2.1, hk.cellz h.2.2.1, hk.cellz h.2.2.2.1, hk.cellz h.2.2.2.2.1, hk.cellz h.2.2.2.2.2⟩
  have HP : Hid (∀ V : World, (K0 W V ∧ V.cell? ⟨Bp, 0, none⟩ = some (.int .i64 m) ∧ V.cell? ⟨Bp, 1, none⟩ = some (.pointer (some ⟨ba, 0, none⟩)) ∧ V.cell? ⟨Bp, 2, none⟩ = some (.pointer (some ⟨bb, 0, none⟩)) ∧ V.cell? ⟨Bl, 0, none⟩ = some (.pointer (some ⟨g, 0, none⟩)) ∧ V.cell? ⟨g, 0, none⟩ = some (.func (.func N) x y)) → Calls Tryz.prog 112 #[.agg #[.int .i64 m, .pointer (some ⟨ba, 0, none⟩), .pointer (some ⟨bb, 0, none⟩)], .string (txt u)] V fun e V' => (∃ ao n cp, e = .returned (.slice ao n cp) ∧ V'.ownsRow 0 9 1 (.slice ao n cp) (pcF A u).length (strs_ (pcF A u))) ∧ (K0 W V' ∧ V'.cell? ⟨Bp, 0, none⟩ = some (.int .i64 m) ∧ V'.cell? ⟨Bp, 1, none⟩ = some (.pointer (some ⟨ba, 0, none⟩)) ∧ V'.cell? ⟨Bp, 2, none⟩ = some (.pointer (some ⟨bb, 0, none⟩)) ∧ V'.cell? ⟨Bl, 0, none⟩ = some (.pointer (some ⟨g, 0, none⟩)) ∧ V'.cell? ⟨g, 0, none⟩ = some (.func (.func N) x y))) := hide (fun V h => (ppieces_ok (m := m) (hA.k0 h.1) (hB.k0 h.1) h0 hu hul).mono (fun e V' h2 => by
    obtain ⟨vv, e1, e2, e3⟩ := h2
    obtain ⟨ao, cp, rfl⟩ := own_slice e2
    exact ⟨⟨ao, _, cp, e1, e2⟩, hSS V V' h e3⟩))
  have HE : Hid (∀ (V : World) (sl : Value), (K0 W V ∧ V.cell? ⟨Bp, 0, none⟩ = some (.int .i64 m) ∧ V.cell? ⟨Bp, 1, none⟩ = some (.pointer (some ⟨ba, 0, none⟩)) ∧ V.cell? ⟨Bp, 2, none⟩ = some (.pointer (some ⟨bb, 0, none⟩)) ∧ V.cell? ⟨Bl, 0, none⟩ = some (.pointer (some ⟨g, 0, none⟩)) ∧ V.cell? ⟨g, 0, none⟩ = some (.func (.func N) x y)) → V.ownsRow 0 9 1 sl (pcF A u).length (strs_ (pcF A u)) → Calls Tryz.prog 111 #[sl, .func (.func N) x y] V fun e V' => (∃ ao n cp, e = .returned (.slice ao n cp) ∧ V'.ownsRow 0 9 1 (.slice ao n cp) ((pcF A u).map G).length (strs_ ((pcF A u).map G))) ∧ (K0 W V' ∧ V'.cell? ⟨Bp, 0, none⟩ = some (.int .i64 m) ∧ V'.cell? ⟨Bp, 1, none⟩ = some (.pointer (some ⟨ba, 0, none⟩)) ∧ V'.cell? ⟨Bp, 2, none⟩ = some (.pointer (some ⟨bb, 0, none⟩)) ∧ V'.cell? ⟨Bl, 0, none⟩ = some (.pointer (some ⟨g, 0, none⟩)) ∧ V'.cell? ⟨g, 0, none⟩ = some (.func (.func N) x y))) := hide (fun V sl h ho => (eachS_said (G := G) ho few n1 (fun V2 z hk hz => (s1 V2 z ((h.1.trans hk).ky Y) (pin z hz).2).mono (fun e V' h2 => by
    obtain ⟨(⟨_, h3⟩ | ⟨h3, _⟩), h4⟩ := h2
    · exact ⟨h3, h4⟩
    · exact absurd (eP z (pin z hz).1) h3))).mono (fun e V' h2 => by
    obtain ⟨vv, e1, e2, e3⟩ := h2
    obtain ⟨ao, cp, rfl⟩ := own_slice e2
    exact ⟨⟨ao, _, cp, e1, e2⟩, hSS V V' h e3⟩))
  have hfl : ((pcF A u).map G).flatten.length ≤ 1000000000000 := by
    have h1 := flat_le (K := 1000000000) (l := (pcF A u).map G) (fun z hz => by
      obtain ⟨z', hz', rfl⟩ := List.mem_map.1 hz
      exact hbd z' (eP z' (pin z' hz').1) (pin z' hz').2)
    rw [List.length_map] at h1
    have h2 : (pcF A u).length * 1000000000 ≤ 1000 * 1000000000 := Nat.mul_le_mul_right _ few
    omega
  have HJ : Hid (∀ (V : World) (sl : Value), (K0 W V ∧ V.cell? ⟨Bp, 0, none⟩ = some (.int .i64 m) ∧ V.cell? ⟨Bp, 1, none⟩ = some (.pointer (some ⟨ba, 0, none⟩)) ∧ V.cell? ⟨Bp, 2, none⟩ = some (.pointer (some ⟨bb, 0, none⟩)) ∧ V.cell? ⟨Bl, 0, none⟩ = some (.pointer (some ⟨g, 0, none⟩)) ∧ V.cell? ⟨g, 0, none⟩ = some (.func (.func N) x y)) → V.ownsRow 0 9 1 sl ((pcF A u).map G).length (strs_ ((pcF A u).map G)) → Calls Tryz.prog 110 #[sl, .string ⟨#[]⟩] V fun e V' => e = .returned (.string (txt ((pcF A u).flatMap G))) ∧ (K0 W V' ∧ V'.cell? ⟨Bp, 0, none⟩ = some (.int .i64 m) ∧ V'.cell? ⟨Bp, 1, none⟩ = some (.pointer (some ⟨ba, 0, none⟩)) ∧ V'.cell? ⟨Bp, 2, none⟩ = some (.pointer (some ⟨bb, 0, none⟩)) ∧ V'.cell? ⟨Bl, 0, none⟩ = some (.pointer (some ⟨g, 0, none⟩)) ∧ V'.cell? ⟨g, 0, none⟩ = some (.func (.func N) x y))) := hide (fun V sl h ho => (join_said ho (by rw [List.length_map]; exact few) hfl).mono (fun e V' h2 => by
    rw [List.flatMap_def]
    exact ⟨h2.1, hSS V V' h h2.2⟩))
  have hkd : K0 W W.drew := Kp.drew _ _
  obtain ⟨r, hr⟩ : ∃ r, (pcF A u).flatMap G = r := ⟨_, rfl⟩
  rw [hr] at HJ ⊢
  obtain ⟨L1, hL1⟩ : ∃ L, pcF A u = L := ⟨_, rfl⟩
  rw [hL1] at HP HE HJ
  obtain ⟨L2, hL2⟩ : ∃ L, L1.map G = L := ⟨_, rfl⟩
  rw [hL2] at HE HJ
  clear hp hl hA hB h0 hb s1 eP hbd hu few pin hSS hfl hr hL1 hL2 n1
  go_enter Tryz.func109, Tryz.ntmps109
  go_wp2_with fail
  go_region_held3 (fun V => (K0 W V ∧ V.cell? ⟨Bp, 0, none⟩ = some (.int .i64 m) ∧ V.cell? ⟨Bp, 1, none⟩ = some (.pointer (some ⟨ba, 0, none⟩)) ∧ V.cell? ⟨Bp, 2, none⟩ = some (.pointer (some ⟨bb, 0, none⟩)) ∧ V.cell? ⟨Bl, 0, none⟩ = some (.pointer (some ⟨g, 0, none⟩)) ∧ V.cell? ⟨g, 0, none⟩ = some (.func (.func N) x y))) (go_keep) (first
    | (go_at_call 112; refine (unhide HP _ (by assumption)).mono ?_; rintro e w2 ⟨⟨ao, n, cp, rfl, hown2⟩, hS2⟩; have HO2 := hide hown2; clear hown2)
    | (go_at_call 111; refine (unhide HE _ _ (by assumption) (unhide HO2)).mono ?_; rintro e w3 ⟨⟨ao3, n3, cp3, rfl, hown3⟩, hS3⟩; have HO3 := hide hown3; clear hown3)
    | (go_at_call 110; refine (unhide HJ _ _ (by assumption) (unhide HO3)).mono ?_; rintro e w4 ⟨rfl, hS4⟩))
  go_wp2
  go_ret
  exact ⟨rfl, hS4.1⟩

set_option maxRecDepth 100000 in
set_option maxHeartbeats 3200000 in
theorem many1_no {W : World} {A : PT} {m : Int} {ba bb Bp Bl g N : Nat} {x y : Array Value} {u : List UInt8}
    (hp : W.heap[Bp]? = some (pcell m ba bb)) (hl : W.heap[Bl]? = some (lcell g)) (hA : MachAt W A ba) (hB : MachAt W (.rep 42 A) bb) (hg : W.cell? ⟨g, 0, none⟩ = some (.func (.func N) x y)) (hul : u.length ≤ 1000) (hu : ¬ M (.rep 42 A) u) :
    Calls Tryz.prog 109 #[.string (txt u), .pointer (some ⟨Bp, 0, none⟩), .pointer (some ⟨Bl, 0, none⟩)] W fun e w' => e = .panicked (misP m) ∧ K0 W w' := by
  have c0 := cellOf hp 0
  have c1 := cellOf hp 1
  have c2 := cellOf hp 2
  have l0 := cellOf hl 0
  simp at c0 c1 c2 l0
  have HP : Hid (∀ V : World, (K0 W V ∧ V.cell? ⟨Bp, 0, none⟩ = some (.int .i64 m) ∧ V.cell? ⟨Bp, 1, none⟩ = some (.pointer (some ⟨ba, 0, none⟩)) ∧ V.cell? ⟨Bp, 2, none⟩ = some (.pointer (some ⟨bb, 0, none⟩)) ∧ V.cell? ⟨Bl, 0, none⟩ = some (.pointer (some ⟨g, 0, none⟩)) ∧ V.cell? ⟨g, 0, none⟩ = some (.func (.func N) x y)) → Calls Tryz.prog 112 #[.agg #[.int .i64 m, .pointer (some ⟨ba, 0, none⟩), .pointer (some ⟨bb, 0, none⟩)], .string (txt u)] V fun e V' => e = .panicked (misP m) ∧ K0 W V') := hide (fun V h => (ppieces_no (m := m) (hA.k0 h.1) (hB.k0 h.1) hu hul).mono (fun e V' h2 => ⟨h2.1, h.1.trans h2.2⟩))
  have hkd : K0 W W.drew := Kp.drew _ _
  clear hp hl hA hB hu
  go_enter Tryz.func109, Tryz.ntmps109
  go_wp2_with fail
  refine wp_region_held_drew (S := fun V => (K0 W V ∧ V.cell? ⟨Bp, 0, none⟩ = some (.int .i64 m) ∧ V.cell? ⟨Bp, 1, none⟩ = some (.pointer (some ⟨ba, 0, none⟩)) ∧ V.cell? ⟨Bp, 2, none⟩ = some (.pointer (some ⟨bb, 0, none⟩)) ∧ V.cell? ⟨Bl, 0, none⟩ = some (.pointer (some ⟨g, 0, none⟩)) ∧ V.cell? ⟨g, 0, none⟩ = some (.func (.func N) x y))) (by kernel_rfl) ⟨hkd, by simp [*], by simp [*], by simp [*], by simp [*], by simp [*]⟩ ?_
  intro hHeld
  refine wpAnyH_take (i := 0) (v := .agg #[.int .i64 m, .pointer (some ⟨ba, 0, none⟩), .pointer (some ⟨bb, 0, none⟩)]) rfl (by kernel_rfl) (by kernel_rfl) (by kernel_rfl) (fun _ _ _ h => h) (Or.inl ⟨by rfl, ?_⟩) hHeld ?_
  · intro w hSw
    go_simp
  refine wpAnyH_take (i := 1) (v := .string (txt u)) rfl (by kernel_rfl) (by kernel_rfl) (by kernel_rfl) (fun _ _ _ h => h) (Or.inl ⟨by rfl, ?_⟩) hHeld ?_
  · intro w hSw
    go_simp
  refine wpAnyH_take (i := 3) (v := .pointer (some ⟨g, 0, none⟩)) rfl (by kernel_rfl) (by kernel_rfl) (by kernel_rfl) (fun _ _ _ h => h) (Or.inl ⟨by rfl, ?_⟩) hHeld ?_
  · intro w hSw
    go_simp
  refine wpAnyH_take (i := 4) (v := .pointer (some ⟨g, 0, none⟩)) rfl (by kernel_rfl) (by kernel_rfl) (by kernel_rfl) (fun _ _ _ h => h) (Or.inl ⟨by rfl, ?_⟩) hHeld ?_
  · intro w hSw
    go_simp
  refine wpAnyH_take (i := 5) (v := .pointer (some ⟨g, 0, none⟩)) rfl (by kernel_rfl) (by kernel_rfl) (by kernel_rfl) (fun _ _ _ h => h) (Or.inl ⟨by rfl, ?_⟩) hHeld ?_
  · intro w hSw
    go_simp
  refine wpAnyH_take (i := 6) (v := .func (.func N) x y) rfl (by kernel_rfl) (by kernel_rfl) (by kernel_rfl) (fun _ _ _ h => h) (Or.inl ⟨by rfl, ?_⟩) hHeld ?_
  · intro w hSw
    go_simp
  refine wpAnyH_ready (rs := [2]) (by kernel_rfl) (by simp) ?_
  refine AllReadyH.cons rfl (fun K' hK => ?_) AllReadyH.nil
  go_simp
  refine (unhide HP _ hHeld).mono ?_
  rintro e w2 ⟨rfl, hS2⟩
  exact ⟨rfl, rfl, hS2⟩

set_option maxRecDepth 100000 in
set_option maxHeartbeats 3200000 in
theorem many3_ok {Y : Nat → Prop} {W : World} {A : PT} {P : List UInt8 → Prop} {G : List UInt8 → List UInt8} {m : Int} {ba bb Bp Bl g : Nat} {F1 F2 F3 : Value} {u : List UInt8}
    (hp : W.heap[Bp]? = some (pcell m ba bb)) (hl : W.heap[Bl]? = some (lcell g)) (hA : MachAt W A ba) (hB : MachAt W (.rep 42 A) bb) (h0 : ¬ M A []) (hb : W.heap[g]? = some (fcell F1 F2 F3)) (hf : Fn1 Y W F3 P G m) (eP : ∀ x, M A x → P x) (hbd : ∀ x, P x → x.length ≤ 1000 → (G x).length ≤ 1000000000) (hul : u.length ≤ 1000) (hu : M (.rep 42 A) u) :
    Calls Tryz.prog 114 #[.string (txt u), .pointer (some ⟨Bp, 0, none⟩), .pointer (some ⟨Bl, 0, none⟩)] W fun e w' => e = .returned (.string (txt ((pcF A u).flatMap G))) ∧ K0 W w' := by
  have c0 := cellOf hp 0
  have c1 := cellOf hp 1
  have c2 := cellOf hp 2
  have l0 := cellOf hl 0
  have b0 := cellOf hb 2
  simp at c0 c1 c2 l0 b0
  obtain ⟨N, x, y, rfl, n1, s1⟩ := hf
  obtain ⟨few, pin⟩ := pcs_few h0 hu hul
  have hSS : ∀ V V' : World, (K0 W V ∧ V.cell? ⟨Bp, 0, none⟩ = some (.int .i64 m) ∧ V.cell? ⟨Bp, 1, none⟩ = some (.pointer (some ⟨ba, 0, none⟩)) ∧ V.cell? ⟨Bp, 2, none⟩ = some (.pointer (some ⟨bb, 0, none⟩)) ∧ V.cell? ⟨Bl, 0, none⟩ = some (.pointer (some ⟨g, 0, none⟩)) ∧ V.cell? ⟨g, 2, none⟩ = some (.func (.func N) x y)) → K0 V V' → (K0 W V' ∧ V'.cell? ⟨Bp, 0, none⟩ = some (.int .i64 m) ∧ V'.cell? ⟨Bp, 1, none⟩ = some (.pointer (some ⟨ba, 0, none⟩)) ∧ V'.cell? ⟨Bp, 2, none⟩ = some (.pointer (some ⟨bb, 0, none⟩)) ∧ V'.cell? ⟨Bl, 0, none⟩ = some (.pointer (some ⟨g, 0, none⟩)) ∧ V'.cell? ⟨g, 2, none⟩ = some (.func (.func N) x y)) := fun V V' h hk => ⟨h.1.trans hk, hk.cellz h.2.1, hk.cellz h.2.2.1, hk.cellz h.2.2.2.1, hk.cellz h.2.2.2.2.1, hk.cellz h.2.2.2.2.2⟩
  have HP : Hid (∀ V : World, (K0 W V ∧ V.cell? ⟨Bp, 0, none⟩ = some (.int .i64 m) ∧ V.cell? ⟨Bp, 1, none⟩ = some (.pointer (some ⟨ba, 0, none⟩)) ∧ V.cell? ⟨Bp, 2, none⟩ = some (.pointer (some ⟨bb, 0, none⟩)) ∧ V.cell? ⟨Bl, 0, none⟩ = some (.pointer (some ⟨g, 0, none⟩)) ∧ V.cell? ⟨g, 2, none⟩ = some (.func (.func N) x y)) → Calls Tryz.prog 112 #[.agg #[.int .i64 m, .pointer (some ⟨ba, 0, none⟩), .pointer (some ⟨bb, 0, none⟩)], .string (txt u)] V fun e V' => (∃ ao n cp, e = .returned (.slice ao n cp) ∧ V'.ownsRow 0 9 1 (.slice ao n cp) (pcF A u).length (strs_ (pcF A u))) ∧ (K0 W V' ∧ V'.cell? ⟨Bp, 0, none⟩ = some (.int .i64 m) ∧ V'.cell? ⟨Bp, 1, none⟩ = some (.pointer (some ⟨ba, 0, none⟩)) ∧ V'.cell? ⟨Bp, 2, none⟩ = some (.pointer (some ⟨bb, 0, none⟩)) ∧ V'.cell? ⟨Bl, 0, none⟩ = some (.pointer (some ⟨g, 0, none⟩)) ∧ V'.cell? ⟨g, 2, none⟩ = some (.func (.func N) x y))) := hide (fun V h => (ppieces_ok (m := m) (hA.k0 h.1) (hB.k0 h.1) h0 hu hul).mono (fun e V' h2 => by
    obtain ⟨vv, e1, e2, e3⟩ := h2
    obtain ⟨ao, cp, rfl⟩ := own_slice e2
    exact ⟨⟨ao, _, cp, e1, e2⟩, hSS V V' h e3⟩))
  have HE : Hid (∀ (V : World) (sl : Value), (K0 W V ∧ V.cell? ⟨Bp, 0, none⟩ = some (.int .i64 m) ∧ V.cell? ⟨Bp, 1, none⟩ = some (.pointer (some ⟨ba, 0, none⟩)) ∧ V.cell? ⟨Bp, 2, none⟩ = some (.pointer (some ⟨bb, 0, none⟩)) ∧ V.cell? ⟨Bl, 0, none⟩ = some (.pointer (some ⟨g, 0, none⟩)) ∧ V.cell? ⟨g, 2, none⟩ = some (.func (.func N) x y)) → V.ownsRow 0 9 1 sl (pcF A u).length (strs_ (pcF A u)) → Calls Tryz.prog 111 #[sl, .func (.func N) x y] V fun e V' => (∃ ao n cp, e = .returned (.slice ao n cp) ∧ V'.ownsRow 0 9 1 (.slice ao n cp) ((pcF A u).map G).length (strs_ ((pcF A u).map G))) ∧ (K0 W V' ∧ V'.cell? ⟨Bp, 0, none⟩ = some (.int .i64 m) ∧ V'.cell? ⟨Bp, 1, none⟩ = some (.pointer (some ⟨ba, 0, none⟩)) ∧ V'.cell? ⟨Bp, 2, none⟩ = some (.pointer (some ⟨bb, 0, none⟩)) ∧ V'.cell? ⟨Bl, 0, none⟩ = some (.pointer (some ⟨g, 0, none⟩)) ∧ V'.cell? ⟨g, 2, none⟩ = some (.func (.func N) x y))) := hide (fun V sl h ho => (eachS_said (G := G) ho few n1 (fun V2 z hk hz => (s1 V2 z ((h.1.trans hk).ky Y) (pin z hz).2).mono (fun e V' h2 => by
    obtain ⟨(⟨_, h3⟩ | ⟨h3, _⟩), h4⟩ := h2
    · exact ⟨h3, h4⟩
    · exact absurd (eP z (pin z hz).1) h3))).mono (fun e V' h2 => by
    obtain ⟨vv, e1, e2, e3⟩ := h2
    obtain ⟨ao, cp, rfl⟩ := own_slice e2
    exact ⟨⟨ao, _, cp, e1, e2⟩, hSS V V' h e3⟩))
  have hfl : ((pcF A u).map G).flatten.length ≤ 1000000000000 := by
    have h1 := flat_le (K := 1000000000) (l := (pcF A u).map G) (fun z hz => by
      obtain ⟨z', hz', rfl⟩ := List.mem_map.1 hz
      exact hbd z' (eP z' (pin z' hz').1) (pin z' hz').2)
    rw [List.length_map] at h1
    have h2 : (pcF A u).length * 1000000000 ≤ 1000 * 1000000000 := Nat.mul_le_mul_right _ few
    omega
  have HJ : Hid (∀ (V : World) (sl : Value), (K0 W V ∧ V.cell? ⟨Bp, 0, none⟩ = some (.int .i64 m) ∧ V.cell? ⟨Bp, 1, none⟩ = some (.pointer (some ⟨ba, 0, none⟩)) ∧ V.cell? ⟨Bp, 2, none⟩ = some (.pointer (some ⟨bb, 0, none⟩)) ∧ V.cell? ⟨Bl, 0, none⟩ = some (.pointer (some ⟨g, 0, none⟩)) ∧ V.cell? ⟨g, 2, none⟩ = some (.func (.func N) x y)) → V.ownsRow 0 9 1 sl ((pcF A u).map G).length (strs_ ((pcF A u).map G)) → Calls Tryz.prog 110 #[sl, .string ⟨#[]⟩] V fun e V' => e = .returned (.string (txt ((pcF A u).flatMap G))) ∧ (K0 W V' ∧ V'.cell? ⟨Bp, 0, none⟩ = some (.int .i64 m) ∧ V'.cell? ⟨Bp, 1, none⟩ = some (.pointer (some ⟨ba, 0, none⟩)) ∧ V'.cell? ⟨Bp, 2, none⟩ = some (.pointer (some ⟨bb, 0, none⟩)) ∧ V'.cell? ⟨Bl, 0, none⟩ = some (.pointer (some ⟨g, 0, none⟩)) ∧ V'.cell? ⟨g, 2, none⟩ = some (.func (.func N) x y))) := hide (fun V sl h ho => (join_said ho (by rw [List.length_map]; exact few) hfl).mono (fun e V' h2 => by
    rw [List.flatMap_def]
    exact ⟨h2.1, hSS V V' h h2.2⟩))
  have hkd : K0 W W.drew := Kp.drew _ _
  obtain ⟨r, hr⟩ : ∃ r, (pcF A u).flatMap G = r := ⟨_, rfl⟩
  rw [hr] at HJ ⊢
  obtain ⟨L1, hL1⟩ : ∃ L, pcF A u = L := ⟨_, rfl⟩
  rw [hL1] at HP HE HJ
  obtain ⟨L2, hL2⟩ : ∃ L, L1.map G = L := ⟨_, rfl⟩
  rw [hL2] at HE HJ
  clear hp hl hA hB h0 hb s1 eP hbd hu few pin hSS hfl hr hL1 hL2 n1
  go_enter Tryz.func114, Tryz.ntmps114
  go_wp2_with fail
  go_region_held3 (fun V => (K0 W V ∧ V.cell? ⟨Bp, 0, none⟩ = some (.int .i64 m) ∧ V.cell? ⟨Bp, 1, none⟩ = some (.pointer (some ⟨ba, 0, none⟩)) ∧ V.cell? ⟨Bp, 2, none⟩ = some (.pointer (some ⟨bb, 0, none⟩)) ∧ V.cell? ⟨Bl, 0, none⟩ = some (.pointer (some ⟨g, 0, none⟩)) ∧ V.cell? ⟨g, 2, none⟩ = some (.func (.func N) x y))) (go_keep) (first
    | (go_at_call 112; refine (unhide HP _ (by assumption)).mono ?_; rintro e w2 ⟨⟨ao, n, cp, rfl, hown2⟩, hS2⟩; have HO2 := hide hown2; clear hown2)
    | (go_at_call 111; refine (unhide HE _ _ (by assumption) (unhide HO2)).mono ?_; rintro e w3 ⟨⟨ao3, n3, cp3, rfl, hown3⟩, hS3⟩; have HO3 := hide hown3; clear hown3)
    | (go_at_call 110; refine (unhide HJ _ _ (by assumption) (unhide HO3)).mono ?_; rintro e w4 ⟨rfl, hS4⟩))
  go_wp2
  go_ret
  exact ⟨rfl, hS4.1⟩

set_option maxRecDepth 100000 in
set_option maxHeartbeats 3200000 in
theorem many3_no {W : World} {A : PT} {m : Int} {ba bb Bp Bl g N : Nat} {x y : Array Value} {u : List UInt8}
    (hp : W.heap[Bp]? = some (pcell m ba bb)) (hl : W.heap[Bl]? = some (lcell g)) (hA : MachAt W A ba) (hB : MachAt W (.rep 42 A) bb) (hg : W.cell? ⟨g, 2, none⟩ = some (.func (.func N) x y)) (hul : u.length ≤ 1000) (hu : ¬ M (.rep 42 A) u) :
    Calls Tryz.prog 114 #[.string (txt u), .pointer (some ⟨Bp, 0, none⟩), .pointer (some ⟨Bl, 0, none⟩)] W fun e w' => e = .panicked (misP m) ∧ K0 W w' := by
  have c0 := cellOf hp 0
  have c1 := cellOf hp 1
  have c2 := cellOf hp 2
  have l0 := cellOf hl 0
  simp at c0 c1 c2 l0
  have HP : Hid (∀ V : World, (K0 W V ∧ V.cell? ⟨Bp, 0, none⟩ = some (.int .i64 m) ∧ V.cell? ⟨Bp, 1, none⟩ = some (.pointer (some ⟨ba, 0, none⟩)) ∧ V.cell? ⟨Bp, 2, none⟩ = some (.pointer (some ⟨bb, 0, none⟩)) ∧ V.cell? ⟨Bl, 0, none⟩ = some (.pointer (some ⟨g, 0, none⟩)) ∧ V.cell? ⟨g, 2, none⟩ = some (.func (.func N) x y)) → Calls Tryz.prog 112 #[.agg #[.int .i64 m, .pointer (some ⟨ba, 0, none⟩), .pointer (some ⟨bb, 0, none⟩)], .string (txt u)] V fun e V' => e = .panicked (misP m) ∧ K0 W V') := hide (fun V h => (ppieces_no (m := m) (hA.k0 h.1) (hB.k0 h.1) hu hul).mono (fun e V' h2 => ⟨h2.1, h.1.trans h2.2⟩))
  have hkd : K0 W W.drew := Kp.drew _ _
  clear hp hl hA hB hu
  go_enter Tryz.func114, Tryz.ntmps114
  go_wp2_with fail
  refine wp_region_held_drew (S := fun V => (K0 W V ∧ V.cell? ⟨Bp, 0, none⟩ = some (.int .i64 m) ∧ V.cell? ⟨Bp, 1, none⟩ = some (.pointer (some ⟨ba, 0, none⟩)) ∧ V.cell? ⟨Bp, 2, none⟩ = some (.pointer (some ⟨bb, 0, none⟩)) ∧ V.cell? ⟨Bl, 0, none⟩ = some (.pointer (some ⟨g, 0, none⟩)) ∧ V.cell? ⟨g, 2, none⟩ = some (.func (.func N) x y))) (by kernel_rfl) ⟨hkd, by simp [*], by simp [*], by simp [*], by simp [*], by simp [*]⟩ ?_
  intro hHeld
  refine wpAnyH_take (i := 0) (v := .agg #[.int .i64 m, .pointer (some ⟨ba, 0, none⟩), .pointer (some ⟨bb, 0, none⟩)]) rfl (by kernel_rfl) (by kernel_rfl) (by kernel_rfl) (fun _ _ _ h => h) (Or.inl ⟨by rfl, ?_⟩) hHeld ?_
  · intro w hSw
    go_simp
  refine wpAnyH_take (i := 1) (v := .string (txt u)) rfl (by kernel_rfl) (by kernel_rfl) (by kernel_rfl) (fun _ _ _ h => h) (Or.inl ⟨by rfl, ?_⟩) hHeld ?_
  · intro w hSw
    go_simp
  refine wpAnyH_take (i := 3) (v := .pointer (some ⟨g, 0, none⟩)) rfl (by kernel_rfl) (by kernel_rfl) (by kernel_rfl) (fun _ _ _ h => h) (Or.inl ⟨by rfl, ?_⟩) hHeld ?_
  · intro w hSw
    go_simp
  refine wpAnyH_take (i := 4) (v := .pointer (some ⟨g, 0, none⟩)) rfl (by kernel_rfl) (by kernel_rfl) (by kernel_rfl) (fun _ _ _ h => h) (Or.inl ⟨by rfl, ?_⟩) hHeld ?_
  · intro w hSw
    go_simp
  refine wpAnyH_take (i := 5) (v := .pointer (some ⟨g, 2, none⟩)) rfl (by kernel_rfl) (by kernel_rfl) (by kernel_rfl) (fun _ _ _ h => h) (Or.inl ⟨by rfl, ?_⟩) hHeld ?_
  · intro w hSw
    go_simp
  refine wpAnyH_take (i := 6) (v := .func (.func N) x y) rfl (by kernel_rfl) (by kernel_rfl) (by kernel_rfl) (fun _ _ _ h => h) (Or.inl ⟨by rfl, ?_⟩) hHeld ?_
  · intro w hSw
    go_simp
  refine wpAnyH_ready (rs := [2]) (by kernel_rfl) (by simp) ?_
  refine AllReadyH.cons rfl (fun K' hK => ?_) AllReadyH.nil
  go_simp
  refine (unhide HP _ hHeld).mono ?_
  rintro e w2 ⟨rfl, hS2⟩
  exact ⟨rfl, rfl, hS2⟩

end Go.Proofs.YtlljggefbngkeaaGreatDoor

namespace Go.Proofs.YtlljggefbngkeaaGreatDoor
open Go.RowKit Go.Shelf

theorem ownF_same {w w' : World} {base : Nat} {e : TypeId} {size : Nat} {v : Value} {n : Nat} {xs : List Value} (h : w.ownsRowF base e size v n xs) (hk : ∀ k, k < w.heap.size → w'.heap[k]? = w.heap[k]?) : w'.ownsRowF base e size v n xs := by
  obtain ⟨h1, h2⟩ := h
  refine ⟨h1, ?_⟩
  rcases h2 with h2 | ⟨g, cap, cur, fz, e1, e2, e3, e4⟩
  · exact .inl h2
  · exact .inr ⟨g, cap, cur, fz, e1, e2, (hk g (heap_lt e3)).trans e3, e4⟩
theorem BH.k0 {B b : Nat} {l : List UInt8} {w w' : World} (h : BH B b l w) (hk : K0 w w') : BH B b l w' := by
  rcases h with ⟨hB, v, hb, hown, hne⟩ | ⟨hB, v, hb, hown, hne⟩
  · exact .inl ⟨hB, v, (hk.heap (heap_lt hb)).trans hb, ownF_same hown (fun k h => hk.heap h), hne⟩
  · exact .inr ⟨hB, v, (hk.heap (heap_lt hb)).trans hb, ownF_same hown (fun k h => hk.heap h), hne⟩

set_option maxHeartbeats 2000000 in
set_option maxRecDepth 100000 in
/-- WriteString, of longer texts -/
theorem bwriteB {B b : Nat} {l : List UInt8} {w : World} (s : ByteArray) (h : BH B b l w) (hlen : l.length + s.size ≤ 1000000000000) (hBw : B ≤ w.heap.size) :
    Calls Tryz.prog 84 #[.pointer (some ⟨b, 0, none⟩), .string s] w fun e w' => e = .returned (.tuple #[.int .i64 s.size, .nilIface]) ∧ BH B b (l ++ s.data.toList) w' ∧ Below B w w' := by
  obtain ⟨i0, hi, hz0, hz1, hz2⟩ := info_parts bextra.infoByte
  have HC := hide (bcheck h)
  have hl := Lib.byteCells_length l
  clear h
  go_enter Tryz.func84, Tryz.ntmps84
  go_wp2_with fail
  refine (unhide HC).mono ?_
  rintro e w1 ⟨rfl, h1, hb1⟩
  obtain ⟨hB, v, hbk, hown, hne⟩ := h1
  have c0 : w1.cell? ⟨b, 0, none⟩ = some (.pointer (some ⟨b, 0, none⟩)) := by rw [Lib.cell_of_heap hbk]; rfl
  have c1 : w1.cell? ⟨b, 1, none⟩ = some v := by rw [Lib.cell_of_heap hbk]; rfl
  have hB1 := hb1.size
  clear HC
  go_wp2_with (at_builtin; refine Lib.wpList_append_own_stringF _ rfl _ _ 96 9 rfl B 5 i0 Tryz.underlying96 Tryz.underlying9 hi hz0 hz1 hz2 _ _ _ rfl hown s rfl (by unfold maxLen; omega) (by omega) (by omega) ?_)
  intro v' w2 hown' hgrow _
  have hlt : b < w1.heap.size := heap_lt hbk
  have hb2 : w2.heap[b]? = some (.cells #[.pointer (some ⟨b, 0, none⟩), v] 98 (0, 0)) := by
    rw [hgrow.block b hlt (fun e => hne e.symm)]
    exact hbk
  have d0 : w2.cell? ⟨b, 0, none⟩ = some (.pointer (some ⟨b, 0, none⟩)) := by rw [Lib.cell_of_heap hb2]; rfl
  have d1 : w2.cell? ⟨b, 1, none⟩ = some v := by rw [Lib.cell_of_heap hb2]; rfl
  have f1 : w2.frozen? ⟨b, 1, none⟩ = false := Lib.frozen_of_heap hb2 1
  obtain ⟨ao, n', cap, rfl⟩ : ∃ ao n' cap, v' = .slice ao n' cap := by
    rcases hown'.2 with ⟨hv, _⟩ | ⟨g, cap, cur, fz, hv, _⟩
    · exact ⟨_, _, _, hv⟩
    · exact ⟨_, _, _, hv⟩
  go_wp2
  go_ret2
  refine ⟨rfl, Or.inr ?_, ?_⟩
  · have hx := Lib.BuilderAtF.put (T := 98) (e := 5) hB hb2 (bs' := Lib.byteCells l ++ Lib.strCells s) (by simpa [Lib.strCells_length, hl] using hown') (by decide)
    have e : Lib.byteCells (l ++ s.data.toList) = Lib.byteCells l ++ Lib.strCells s := by simp [Lib.byteCells, Lib.strCells]
    rw [e]
    exact hx
  · exact (hb1.grown hgrow (Nat.le_trans hBw hB1) (fun k hk => (hown.lt k hk).1)).setCell (p := ⟨b, 1, none⟩) hB _

/-- the pieces laid back, then the pieces made anew -/
theorem rowPut_zip (f : List UInt8 → List UInt8 → List UInt8) (g : List UInt8 → List UInt8) : ∀ (p q : List (List UInt8)), rowPutF f g p q = (List.zipWith f p q).flatten ++ ((p.drop (min p.length q.length)).map g).flatten
  | [], q => by rw [rowPutF]; simp
  | x :: p, [] => by
    have := rowPut_zip f g p []
    rw [rowPutF, this]
    simp
  | x :: p, y :: q => by
    have := rowPut_zip f g p q
    rw [rowPutF, this, List.zipWith_cons_cons, List.flatten_cons, List.length_cons, List.length_cons, Nat.add_min_add_right, List.drop_succ_cons, List.append_assoc]

set_option maxRecDepth 100000 in
set_option maxHeartbeats 3200000 in
theorem many2_noV {W : World} {A' : PT} {ca cb Bv Bs Bl : Nat} {v s : List UInt8} (hv : W.heap[Bv]? = some (pcell 2 ca cb)) (hA : MachAt W A' ca) (hB : MachAt W (.rep 42 A') cb) (hvl : v.length ≤ 1000) (hn : ¬ M (.rep 42 A') v) :
    Calls Tryz.prog 113 #[.string (txt v), .string (txt s), .pointer (some ⟨Bv, 0, none⟩), .pointer (some ⟨Bs, 0, none⟩), .pointer (some ⟨Bl, 0, none⟩)] W fun e w' => e = .panicked (misP 2) ∧ K0 W w' := by
  have c0 := cellOf hv 0
  have c1 := cellOf hv 1
  have c2 := cellOf hv 2
  simp at c0 c1 c2
  have HV := hide (ppieces_no (m := 2) hA hB hn hvl)
  unfold pagg at HV
  clear hv hA hB hn
  go_enter Tryz.func113, Tryz.ntmps113
  go_wp2_with fail
  refine (unhide HV).mono ?_
  rintro e w1 ⟨rfl, hk1⟩
  exact ⟨rfl, rfl, hk1⟩

set_option maxRecDepth 100000 in
set_option maxHeartbeats 3200000 in
theorem many2_noS {W : World} {A' A : PT} {ca cb ba bb Bv Bs Bl : Nat} {v s : List UInt8} (hv : W.heap[Bv]? = some (pcell 2 ca cb)) (hs : W.heap[Bs]? = some (pcell 1 ba bb)) (hA' : MachAt W A' ca) (hB' : MachAt W (.rep 42 A') cb) (hA : MachAt W A ba) (hB : MachAt W (.rep 42 A) bb) (h0 : ¬ M A' []) (hvl : v.length ≤ 1000) (hsl : s.length ≤ 1000) (hm : M (.rep 42 A') v) (hn : ¬ M (.rep 42 A) s) :
    Calls Tryz.prog 113 #[.string (txt v), .string (txt s), .pointer (some ⟨Bv, 0, none⟩), .pointer (some ⟨Bs, 0, none⟩), .pointer (some ⟨Bl, 0, none⟩)] W fun e w' => e = .panicked (misP 1) ∧ K0 W w' := by
  have c0 := cellOf hv 0
  have c1 := cellOf hv 1
  have c2 := cellOf hv 2
  simp at c0 c1 c2
  have HV := hide (ppieces_ok (m := 2) hA' hB' h0 hm hvl)
  have HS := hide (fun (V : World) (hk : K0 W V) => ppieces_no (m := 1) (hA.k0 hk) (hB.k0 hk) hn hsl)
  unfold pagg at HV HS
  have HB := hide hs
  clear hv hs hA hB hA' hB' hm hn h0
  go_enter Tryz.func113, Tryz.ntmps113
  go_wp2_with fail
  refine (unhide HV).mono ?_
  rintro e w1 ⟨v1, rfl, hown1, hk1⟩
  have hb1 := (hk1.heap (heap_lt (unhide HB))).trans (unhide HB)
  have d0 := cellOf hb1 0
  have d1 := cellOf hb1 1
  have d2 := cellOf hb1 2
  simp at d0 d1 d2
  clear hb1 c0 c1 c2 hown1
  go_wp2_with fail
  refine (unhide HS _ hk1).mono ?_
  rintro e w2 ⟨rfl, hk2⟩
  exact ⟨rfl, rfl, hk1.trans hk2⟩

end Go.Proofs.YtlljggefbngkeaaGreatDoor

namespace Go.Proofs.YtlljggefbngkeaaGreatDoor
open Go.RowKit Go.Shelf

theorem flat_take (l : List (List UInt8)) (k : Nat) : (l.take k).flatten.length ≤ l.flatten.length := by
  have h : (l.take k).flatten ++ (l.drop k).flatten = l.flatten := by rw [← List.flatten_append, List.take_append_drop]
  rw [← h, List.length_append]
  omega
theorem flat_next {l : List (List UInt8)} {k : Nat} {x : List UInt8} (h : l[k]? = some x) : (l.take (k + 1)).flatten = (l.take k).flatten ++ x := by
  rw [List.take_add_one, h]
  simp

/-- what the builder holds in a later world -/
structure BI (w2 : World) (Bb : Nat) (l : List UInt8) (V : World) : Prop where
  bh : BH w2.heap.size Bb l V
  bel : K0 w2 V
theorem BI.below {w2 V V' : World} {Bb : Nat} {l' : List UInt8} (h : K0 w2 V) (hb : BH w2.heap.size Bb l' V') (hB : Below w2.heap.size V V') : BI w2 Bb l' V' :=
  ⟨hb, hB.os.trans h.os, hB.tape.trans h.tape, hB.output.trans h.output, Nat.le_trans h.size hB.size, fun k hk _ => (hB.block k hk).trans (h.heap hk)⟩

set_option maxRecDepth 100000 in
set_option maxHeartbeats 6400000 in
theorem many2_ok {Y : Nat → Prop} {W : World} {A' A : PT} {Pv Ps : List UInt8 → Prop} {G2 : List UInt8 → List UInt8 → List UInt8} {G1 : List UInt8 → List UInt8} {ca cb ba bb Bv Bs Bl g : Nat} {F1 F2 F3 : Value} {v s : List UInt8} (hv : W.heap[Bv]? = some (pcell 2 ca cb)) (hs : W.heap[Bs]? = some (pcell 1 ba bb)) (hl : W.heap[Bl]? = some (lcell g)) (hb : W.heap[g]? = some (fcell F1 F2 F3)) (hA' : MachAt W A' ca) (hB' : MachAt W (.rep 42 A') cb) (hA : MachAt W A ba) (hB : MachAt W (.rep 42 A) bb) (h0v : ¬ M A' []) (h0s : ¬ M A [])
    (hf2 : Fn2 Y W F2 Pv Ps G2) (hf3 : Fn1 Y W F3 Pv G1 2) (eV : ∀ x, M A' x → Pv x) (eS : ∀ x, M A x → Ps x) (hbd : (rowPutF G2 G1 (pcF A' v) (pcF A s)).length ≤ 1000000000) (hvl : v.length ≤ 1000) (hsl : s.length ≤ 1000) (hmv : M (.rep 42 A') v) (hms : M (.rep 42 A) s) :
    Calls Tryz.prog 113 #[.string (txt v), .string (txt s), .pointer (some ⟨Bv, 0, none⟩), .pointer (some ⟨Bs, 0, none⟩), .pointer (some ⟨Bl, 0, none⟩)] W fun e w' => e = .returned (.string (txt (rowPutF G2 G1 (pcF A' v) (pcF A s)))) ∧ K0 W w' := by
  have c0 := cellOf hv 0
  have c1 := cellOf hv 1
  have c2 := cellOf hv 2
  simp at c0 c1 c2
  obtain ⟨fewv, pinv⟩ := pcs_few h0v hmv hvl
  obtain ⟨fews, pins⟩ := pcs_few h0s hms hsl
  have HV := hide (ppieces_ok (m := 2) hA' hB' h0v hmv hvl)
  have HS := hide (fun (V : World) (hk : K0 W V) => ppieces_ok (m := 1) (hA.k0 hk) (hB.k0 hk) h0s hms hsl)
  unfold pagg at HV HS
  obtain ⟨N2, x2, y2, rfl, n2, t2⟩ := hf2
  obtain ⟨N3, x3, y3, rfl, n3, t3⟩ := hf3
  have hzip := rowPut_zip G2 G1 (pcF A' v) (pcF A s)
  generalize pcF A' v = pv at *
  generalize pcF A s = ps at *
  rw [hzip] at hbd ⊢
  clear hzip
  have H2 : Hid (∀ (V : World) (p q : List UInt8), K0 W V → p ∈ pv → q ∈ ps → Calls Tryz.prog N2 (x2 ++ (#[.string (txt p), .string (txt q)] ++ y2)) V fun e V' => e = .returned (.string (txt (G2 p q))) ∧ K0 V V') := hide (fun V p q hk hp hq => (t2 V p q (hk.ky Y) (pinv p hp).2 (pins q hq).2).mono (fun e V' h => by
    obtain ⟨(⟨_, _, h1⟩ | ⟨h1, _⟩ | ⟨_, h1, _⟩), h2⟩ := h
    · exact ⟨h1, h2⟩
    · exact absurd (eV p (pinv p hp).1) h1
    · exact absurd (eS q (pins q hq).1) h1))
  have H3 : Hid (∀ (V : World) (p : List UInt8), K0 W V → p ∈ pv → Calls Tryz.prog N3 (x3.push (.string (txt p)) ++ y3) V fun e V' => e = .returned (.string (txt (G1 p))) ∧ K0 V V') := hide (fun V p hk hp => (t3 V p (hk.ky Y) (pinv p hp).2).mono (fun e V' h => by
    obtain ⟨(⟨_, h1⟩ | ⟨h1, _⟩), h2⟩ := h
    · exact ⟨h1, h2⟩
    · exact absurd (eV p (pinv p hp).1) h1))
  have HB := hide (And.intro hs (And.intro hl hb))
  have HD := hide hbd
  clear hv hs hl hb hA hB hA' hB' h0v h0s hmv hms t2 t3 eV eS pinv pins hbd
  unfold Ent at n2 n3
  go_enter Tryz.func113, Tryz.ntmps113
  go_wp2_with fail
  refine (unhide HV).mono ?_
  rintro e w1 ⟨v1, rfl, hown1, hk1⟩
  obtain ⟨ao, cp, rfl⟩ := own_slice hown1
  have hb1 := (hk1.heap (heap_lt (unhide HB).1)).trans (unhide HB).1
  have d0 := cellOf hb1 0
  have d1 := cellOf hb1 1
  have d2 := cellOf hb1 2
  simp at d0 d1 d2
  have HO1 := hide hown1
  clear hb1 c0 c1 c2 hown1 HV
  go_wp2_with fail
  refine (unhide HS _ hk1).mono ?_
  rintro e w2 ⟨v2, rfl, hown2, hk2⟩
  obtain ⟨as_, cs, rfl⟩ := own_slice hown2
  have hown1 := own_same (unhide HO1) (fun j e => hk2.heap (own_lt (unhide HO1) j e))
  have HO := hide (And.intro hown1 hown2)
  have hk12 := hk1.trans hk2
  clear d0 d1 d2 hown1 hown2 HO1 HS
  have hwB : BI w2 w2.heap.size [] (w2.alloc (.cells #[.pointer none, .slice none 0 0] 98)) := ⟨Or.inl ⟨Nat.le_refl _, .slice none 0 0, heap_alloc_new w2 _, ⟨by simp [Lib.byteCells], Or.inl ⟨rfl, by simp [Lib.byteCells]⟩⟩, by simp [Value.ownBlock]⟩, Kp.alloc _ _ _⟩
  have HI0 := hide hwB
  clear hwB
  go_wp2_with fail
  obtain ⟨w3, hw3⟩ : ∃ w3, w2.alloc (.cells #[.pointer none, .slice none 0 0] 98 (0, 0)) = w3 := ⟨_, rfl⟩
  rw [hw3] at HI0 ⊢
  clear hw3
  obtain ⟨mm, hmm⟩ : ∃ mm : Nat, mm = min pv.length ps.length := ⟨_, rfl⟩
  have hmi : min (pv.length : Int) (ps.length : Int) = (mm : Int) := by omega
  rw [hmi]
  have hmv : mm ≤ pv.length := by omega
  have hms : mm ≤ ps.length := by omega
  have HMM := hide hmm
  have hz1 : (List.zipWith G2 pv ps).length = mm := by rw [List.length_zipWith, hmm]
  have HZ := hide hz1
  clear hmm hmi hz1
  go_loopg [27] (mm + 2) (fun gk v27 wv => ∃ (k : Nat), v27 = .int .i64 (k : Int) ∧ k ≤ mm ∧ mm - k < gk ∧ BI w2 w2.heap.size (((List.zipWith G2 pv ps).take k).flatten) wv)
  case atStart => exact ⟨0, rfl, Nat.zero_le _, by omega, by simpa using unhide HI0⟩
  case round =>
    obtain ⟨k, rfl, hk, hgk, hI⟩ := hrel
    by_cases hlt : k < mm
    · have hd : (k : Int) < (mm : Int) := by omega
      obtain ⟨hown1, hown2⟩ := unhide HO
      obtain ⟨vb, cap, hveq, _, hvbl⟩ := hown1.form (by omega)
      injection hveq with hao _ hcp
      subst hao
      subst hcp
      obtain ⟨sb, cap2, hseq, _, hsbl⟩ := hown2.form (by omega)
      injection hseq with hao2 _ hcp2
      subst hao2
      subst hcp2
      obtain ⟨p, hp⟩ : ∃ p, pv[k]? = some p := ⟨_, List.getElem?_eq_getElem (by omega)⟩
      obtain ⟨q, hq⟩ : ∃ q, ps[k]? = some q := ⟨_, List.getElem?_eq_getElem (by omega)⟩
      have hdv : (k : Int) < (pv.length : Int) := by omega
      have hds : (k : Int) < (ps.length : Int) := by omega
      have a1 : w2.cell? ⟨vb, k, none⟩ = some (.string (txt p)) := by
        rw [hown1.cellAt k (by omega)]
        simp [strs_, hp]
      have a2 : w2.cell? ⟨sb, k, none⟩ = some (.string (txt q)) := by
        rw [hown2.cellAt k (by omega)]
        simp [strs_, hq]
      have a3 : w2.cell? ⟨Bl, 0, none⟩ = some (.pointer (some ⟨g, 0, none⟩)) := by
        rw [cellOf ((hk12.heap (heap_lt (unhide HB).2.1)).trans (unhide HB).2.1) 0]; rfl
      have a4 : w2.cell? ⟨g, 1, none⟩ = some (.func (.func N2) x2 y2) := by
        rw [cellOf ((hk12.heap (heap_lt (unhide HB).2.2)).trans (unhide HB).2.2) 1]; rfl
      have hSS : ∀ V : World, K0 w2 V → (K0 w2 V ∧ V.cell? ⟨Bl, 0, none⟩ = some (.pointer (some ⟨g, 0, none⟩)) ∧ V.cell? ⟨g, 1, none⟩ = some (.func (.func N2) x2 y2) ∧ V.cell? ⟨vb, k, none⟩ = some (.string (txt p)) ∧ V.cell? ⟨sb, k, none⟩ = some (.string (txt q))) := fun V hk => ⟨hk, hk.cellz a3, hk.cellz a4, hk.cellz a1, hk.cellz a2⟩
      have hr : (List.zipWith G2 pv ps)[k]? = some (G2 p q) := by rw [List.getElem?_zipWith, hp, hq]
      have hnx := flat_next hr
      have hln : ((List.zipWith G2 pv ps).take k).flatten.length + (G2 p q).length ≤ 1000000000 := by
        have h1 := flat_take (List.zipWith G2 pv ps) (k + 1)
        have h2 := unhide HD
        rw [hnx, List.length_append] at h1
        rw [List.length_append] at h2
        omega
      have HLS : Hid (∀ V : World, (K0 w2 V ∧ V.cell? ⟨Bl, 0, none⟩ = some (.pointer (some ⟨g, 0, none⟩)) ∧ V.cell? ⟨g, 1, none⟩ = some (.func (.func N2) x2 y2) ∧ V.cell? ⟨vb, k, none⟩ = some (.string (txt p)) ∧ V.cell? ⟨sb, k, none⟩ = some (.string (txt q))) → Calls Tryz.prog N2 (x2 ++ (#[.string (txt p), .string (txt q)] ++ y2)) V fun e V' => e = .returned (.string (txt (G2 p q))) ∧ K0 V V' ∧ (K0 w2 V' ∧ V'.cell? ⟨Bl, 0, none⟩ = some (.pointer (some ⟨g, 0, none⟩)) ∧ V'.cell? ⟨g, 1, none⟩ = some (.func (.func N2) x2 y2) ∧ V'.cell? ⟨vb, k, none⟩ = some (.string (txt p)) ∧ V'.cell? ⟨sb, k, none⟩ = some (.string (txt q)))) := hide (fun V h => (unhide H2 V p q (hk12.trans h.1) (List.mem_of_getElem? hp) (List.mem_of_getElem? hq)).mono (fun e V' h2 => ⟨h2.1, h2.2, hSS V' (h.1.trans h2.2)⟩))
      have HWS : Hid (∀ V : World, (K0 w2 V ∧ V.cell? ⟨Bl, 0, none⟩ = some (.pointer (some ⟨g, 0, none⟩)) ∧ V.cell? ⟨g, 1, none⟩ = some (.func (.func N2) x2 y2) ∧ V.cell? ⟨vb, k, none⟩ = some (.string (txt p)) ∧ V.cell? ⟨sb, k, none⟩ = some (.string (txt q))) → BH w2.heap.size w2.heap.size (((List.zipWith G2 pv ps).take k).flatten) V → Calls Tryz.prog 84 #[.pointer (some ⟨w2.heap.size, 0, none⟩), .string (txt (G2 p q))] V fun e V' => (∃ n, e = .returned (.tuple #[.int .i64 n, .nilIface])) ∧ BI w2 w2.heap.size (((List.zipWith G2 pv ps).take (k + 1)).flatten) V' ∧ (K0 w2 V' ∧ V'.cell? ⟨Bl, 0, none⟩ = some (.pointer (some ⟨g, 0, none⟩)) ∧ V'.cell? ⟨g, 1, none⟩ = some (.func (.func N2) x2 y2) ∧ V'.cell? ⟨vb, k, none⟩ = some (.string (txt p)) ∧ V'.cell? ⟨sb, k, none⟩ = some (.string (txt q)))) := hide (fun V h hb => (bwriteB (txt (G2 p q)) hb (by rw [txt_size]; omega) h.1.size).mono (fun e V' h2 => by
        obtain ⟨h3, h4, h5⟩ := h2
        have e1 : (txt (G2 p q)).data.toList = G2 p q := by simp [txt]
        rw [e1, ← hnx] at h4
        have hBI := BI.below h.1 h4 h5
        exact ⟨⟨_, h3⟩, hBI, hSS V' hBI.bel⟩))
      have x1 := (hSS wr hI.bel).2.1
      have x2' := (hSS wr hI.bel).2.2.1
      have x3' := (hSS wr hI.bel).2.2.2.1
      have x4' := (hSS wr hI.bel).2.2.2.2
      have hkd : K0 w2 wr.drew := hI.bel.trans (Kp.drew _ _)
      have HI := hide hI
      obtain ⟨r, hr9⟩ : ∃ r, G2 p q = r := ⟨_, rfl⟩
      rw [hr9] at HLS HWS
      clear hI hown1 hown2 hp hq a1 a2 a3 a4 hSS hr hnx hln hr9 HI0
      go_wp2_with fail
      go_region_held3 (fun V => (K0 w2 V ∧ V.cell? ⟨Bl, 0, none⟩ = some (.pointer (some ⟨g, 0, none⟩)) ∧ V.cell? ⟨g, 1, none⟩ = some (.func (.func N2) x2 y2) ∧ V.cell? ⟨vb, k, none⟩ = some (.string (txt p)) ∧ V.cell? ⟨sb, k, none⟩ = some (.string (txt q)))) (go_keep) (first
        | (go_at_call 84; refine (unhide HWS _ (by assumption) (unhide HB4)).mono ?_; rintro e w5 ⟨⟨n5, rfl⟩, hBI5, hS5⟩)
        | (refine (unhide HLS _ (by assumption)).mono ?_; rintro e w4 ⟨rfl, hk4, hS4⟩; have HB4 := hide (((unhide HI).bh.k0 (Kp.drew _ _)).k0 hk4)))
      have H5 := hide hBI5
      clear hBI5 hS5 hS4 hk4
      go_wp2_with fail
      go_roundg (gk - 1)
      case measure => omega
      case rel => exact ⟨k + 1, by simp, by omega, by omega, unhide H5⟩
    · have hd : ¬ (k : Int) < (mm : Int) := by omega
      obtain rfl : k = mm := by omega
      rw [List.take_of_length_le (by rw [unhide HZ]; exact Nat.le_refl _)] at hI
      have HI := hide hI
      clear hI HI0
      obtain ⟨hown1, hown2⟩ := unhide HO
      rcases hown1.2 with ⟨h', h''⟩ | ⟨vb, cap, cur, h', _, hcur, hnc, hcm, _, _⟩
      · injection h' with e1 e2 e3
        subst e1 e3
        obtain rfl : pv = [] := List.eq_nil_of_length_eq_zero h''
        obtain rfl : k = 0 := by simp at hmv; exact hmv
        clear hown1 hown2 h''
        simp only [List.length_nil, Int.natCast_zero] at *
        go_wp2_with fail
        refine wp_loop_rounds 1 ?_
        rw [rounds_succ]
        go_wp2_with fail
        refine (bstring (unhide HI).bh (unhide HI).bel.size).mono ?_
        rintro e w5 ⟨rfl, hb5⟩
        go_wp2
        go_ret
        refine ⟨by simp, hk12.trans ?_⟩
        have hbel := (unhide HI).bel
        exact ⟨hb5.os.trans hbel.os, hb5.tape.trans hbel.tape, hb5.output.trans hbel.output, Nat.le_trans hbel.size hb5.size, fun j hj _ => (hb5.block j hj).trans (hbel.heap hj)⟩
      · injection h' with e1 e2 e3
        subst e1 e3
        unfold maxLen at hcm
        have i1 : (0 : Int) ≤ (k : Int) := by omega
        have i2 : (k : Int) ≤ (pv.length : Int) := by omega
        have i3 : (pv.length : Int) ≤ (cp : Int) := by omega
        have HC := hide hown1
        clear hown1 hown2 hcur
        by_cases hck : cp = k
        · have hpk : pv.length = k := by omega
          have Hpk := hide hpk
          subst hck
          rw [hpk] at HC ⊢
          clear hpk
          have hsub : cp - cp = 0 := by omega
          go_wp2_with fail
          refine wp_loop_rounds 1 ?_
          rw [rounds_succ]
          go_wp2_with fail
          refine (bstring (unhide HI).bh (unhide HI).bel.size).mono ?_
          rintro e w5 ⟨rfl, hb5⟩
          go_wp2
          go_ret
          rw [← unhide HMM, List.drop_of_length_le (by rw [unhide Hpk]; exact Nat.le_refl _), List.map_nil, List.flatten_nil, List.append_nil]
          refine ⟨rfl, hk12.trans ?_⟩
          have hbel := (unhide HI).bel
          exact ⟨hb5.os.trans hbel.os, hb5.tape.trans hbel.tape, hb5.output.trans hbel.output, Nat.le_trans hbel.size hb5.size, fun j hj _ => (hb5.block j hj).trans (hbel.heap hj)⟩
        · have hck2 : ¬ (cp - k = 0) := by omega
          go_wp2_with fail
          obtain ⟨nz, hnz⟩ : ∃ nz, pv.length - k = nz := ⟨_, rfl⟩
          rw [hnz]
          rename World => wo
          have hnz2 : nz ≤ 1000 := by omega
          have Hnz := hide hnz
          clear hnz
          go_loopg [49] (nz + 2) (fun gk v49 wv => ∃ (j : Nat), v49 = .int .i64 (j : Int) ∧ j ≤ nz ∧ nz - j < gk ∧ BI w2 w2.heap.size ((List.zipWith G2 pv ps).flatten ++ (((pv.drop k).map G1).take j).flatten) wv)
          case atStart => exact ⟨0, rfl, Nat.zero_le _, by omega, by simpa using unhide HI⟩
          case round =>
            obtain ⟨j, rfl, hj, hgk, hI⟩ := hrel
            have hnz := unhide Hnz
            by_cases hjt : j < nz
            · have hd2 : (j : Int) < (nz : Int) := by omega
              obtain ⟨p, hp⟩ : ∃ p, pv[k + j]? = some p := ⟨_, List.getElem?_eq_getElem (by omega)⟩
              have a1 : w2.cell? ⟨vb, k + j, none⟩ = some (.string (txt p)) := by
                rw [(unhide HC).cellAt (k + j) (by omega)]
                simp [strs_, hp]
              have a3 : w2.cell? ⟨Bl, 0, none⟩ = some (.pointer (some ⟨g, 0, none⟩)) := by
                rw [cellOf ((hk12.heap (heap_lt (unhide HB).2.1)).trans (unhide HB).2.1) 0]; rfl
              have a4 : w2.cell? ⟨g, 2, none⟩ = some (.func (.func N3) x3 y3) := by
                rw [cellOf ((hk12.heap (heap_lt (unhide HB).2.2)).trans (unhide HB).2.2) 2]; rfl
              have x1 := hI.bel.cellz a1
              have x3' := hI.bel.cellz a3
              have x4' := hI.bel.cellz a4
              have hr : ((pv.drop k).map G1)[j]? = some (G1 p) := by rw [List.getElem?_map, List.getElem?_drop, hp]; rfl
              have hnx := flat_next hr
              have hln : ((List.zipWith G2 pv ps).flatten ++ (((pv.drop k).map G1).take j).flatten).length + (G1 p).length ≤ 1000000000 := by
                have h1 := flat_take ((pv.drop k).map G1) (j + 1)
                have h2 := unhide HD
                rw [← unhide HMM, List.length_append] at h2
                rw [hnx, List.length_append] at h1
                rw [List.length_append]
                omega
              have HLS := hide (unhide H3 wr p (hk12.trans hI.bel) (List.mem_of_getElem? hp))
              have HWS : Hid (∀ V : World, K0 wr V → Calls Tryz.prog 84 #[.pointer (some ⟨w2.heap.size, 0, none⟩), .string (txt (G1 p))] V fun e V' => (∃ n, e = .returned (.tuple #[.int .i64 n, .nilIface])) ∧ BI w2 w2.heap.size ((List.zipWith G2 pv ps).flatten ++ (((pv.drop k).map G1).take (j + 1)).flatten) V') := hide (fun V h => (bwriteB (txt (G1 p)) (hI.bh.k0 h) (by rw [txt_size]; omega) (hI.bel.trans h).size).mono (fun e V' h2 => by
                obtain ⟨h3, h4, h5⟩ := h2
                have e1 : (txt (G1 p)).data.toList = G1 p := by simp [txt]
                rw [e1, List.append_assoc, ← hnx] at h4
                exact ⟨⟨_, h3⟩, BI.below (hI.bel.trans h) h4 h5⟩))
              obtain ⟨r, hr9⟩ : ∃ r, G1 p = r := ⟨_, rfl⟩
              rw [hr9] at HLS HWS
              clear hI hp a1 a3 a4 hr hnx hln hr9 hnz
              go_wp2_with fail
              refine (unhide HLS).mono ?_
              rintro e w4 ⟨rfl, hk4⟩
              go_wp2_with fail
              refine (unhide HWS _ hk4).mono ?_
              rintro e w5 ⟨⟨n5, rfl⟩, hBI5⟩
              have H5 := hide hBI5
              clear hBI5 hk4
              go_wp2_with fail
              go_roundg (gk - 1)
              case measure => omega
              case rel => exact ⟨j + 1, by go_num, by omega, by omega, unhide H5⟩
            · have hd2 : ¬ (j : Int) < (nz : Int) := by omega
              obtain rfl : j = nz := by omega
              rw [List.take_of_length_le (by rw [List.length_map, List.length_drop]; omega)] at hI
              have HI2 := hide hI
              clear hI hnz
              go_wp2_with fail
              refine (bstring (unhide HI2).bh (unhide HI2).bel.size).mono ?_
              rintro e w5 ⟨rfl, hb5⟩
              go_wp2
              go_ret
              rw [← unhide HMM, List.map_drop]
              refine ⟨rfl, hk12.trans ?_⟩
              have hbel := (unhide HI2).bel
              exact ⟨hb5.os.trans hbel.os, hb5.tape.trans hbel.tape, hb5.output.trans hbel.output, Nat.le_trans hbel.size hb5.size, fun j hj _ => (hb5.block j hj).trans (hbel.heap hj)⟩

end Go.Proofs.YtlljggefbngkeaaGreatDoor

namespace Go.Proofs.YtlljggefbngkeaaGreatDoor
open Go.RowKit Go.Shelf

set_option maxRecDepth 100000 in
set_option maxHeartbeats 1600000 in
theorem many_said {Y : Nat → Prop} {w : World} {a : BT} (p : Nat) {A A' : PT} {gl ba bb ca cb : Nat} (hY : ∀ k, Y k → k < w.heap.size) (hca : CL Y w gl a) (hA : MachO w Y A ba) (hB : MachO w Y (.rep 42 A) bb) (hA' : MachO w Y A' ca) (hB' : MachO w Y (.rep 42 A') cb)
    (eA : ∀ u, M A u ↔ M (bS a) u) (eA' : ∀ u, M A' u ↔ M (bV a) u) (na : bNE (.star p a)) (za : bsz (.star p a) ≤ 800) :
    Calls Tryz.prog 73 #[.pointer (some ⟨gl, 0, none⟩), pagg 1 ba bb, pagg 2 ca cb] w fun e w' => ClPost Y w (.star p a) e w' := by
  have hmf : ∀ (fn : Fn) (first cap : Array Value) (w : World), (Instr.makeFunc fn first cap).run Tryz.prog w = .ok (.func fn first cap) w := fun _ _ _ _ => rfl
  have HH := hide (And.intro hY (And.intro hca (And.intro hA (And.intro hB (And.intro hA' (And.intro hB' (And.intro eA (And.intro eA' (And.intro na za)))))))))
  clear hY hca hA hB hA' hB' eA eA' na za
  unfold pagg
  go_enter Tryz.func73, Tryz.ntmps73
  go_wp2
  go_ret
  obtain ⟨hY, ⟨f1, f2, f3, bl, yl, l1, l2, l3⟩, hA, hB, hA', hB', eA, eA', na, za⟩ := unhide HH
  have na0 := na
  obtain ⟨z1, z2, na⟩ := na
  have za1 : bsz a ≤ 800 := by rw [bsz] at za; omega
  have h0s : ¬ M A [] := fun h => z1 ((eA _).1 h)
  have h0v : ¬ M A' [] := fun h => z2 ((eA' _).1 h)
  have rS : ∀ u, M (.rep 42 A) u ↔ M (bS (.star p a)) u := fun u => by rw [bS]; exact rep_iff eA u
  have rV : ∀ u, M (.rep 42 A') u ↔ M (bV (.star p a)) u := fun u => by rw [bV]; exact rep_iff eA' u
  have xS : ∀ u, pcF A u = pcF (bS a) u := pcF_congr eA
  have xV : ∀ u, pcF A' u = pcF (bV a) u := pcF_congr eA'
  obtain ⟨w3, hw3, hs3, p0, p1, p2, p3, hg3⟩ := four_at w (.cells #[.pointer (some ⟨gl, 0, none⟩)] 57) (.cells #[.int .i64 1, .pointer (some ⟨ba, 0, none⟩), .pointer (some ⟨bb, 0, none⟩)] 128) (.cells #[.int .i64 2, .pointer (some ⟨ca, 0, none⟩), .pointer (some ⟨cb, 0, none⟩)] 128) (.cells #[.func (.func 109) #[] #[.pointer (some ⟨w.heap.size + 1, 0, none⟩), .pointer (some ⟨w.heap.size, 0, none⟩)], .func (.func 113) #[] #[.pointer (some ⟨w.heap.size + 2, 0, none⟩), .pointer (some ⟨w.heap.size + 1, 0, none⟩), .pointer (some ⟨w.heap.size, 0, none⟩)], .func (.func 114) #[] #[.pointer (some ⟨w.heap.size + 2, 0, none⟩), .pointer (some ⟨w.heap.size, 0, none⟩)]] 88)
  have hk0 := K0.of_grownz hg3
  have hk := hk0.ky Y
  have ny : ∀ k, w.heap.size ≤ k → ¬ Y k := fun k h hy => by have := hY _ hy; omega
  refine ⟨w.heap.size + 3, rfl, ?_, ?_⟩
  · rw [hw3]
    refine ⟨_, _, _, p3, ny _ (by omega), ?_, ?_, ?_⟩
    · refine ⟨_, _, _, rfl, enters_of Tryz.func109 (by kernel_rfl) rfl, fun W u hW hu => ?_⟩
      have e : (#[] : Array Value).push (.string (txt u)) ++ #[.pointer (some ⟨w.heap.size + 1, 0, none⟩), .pointer (some ⟨w.heap.size, 0, none⟩)] = #[.string (txt u), .pointer (some ⟨w.heap.size + 1, 0, none⟩), .pointer (some ⟨w.heap.size, 0, none⟩)] := by simp
      rw [e]
      rcases Classical.em (M (.rep 42 A) u) with hm | hm
      · refine (many1_ok (hW.heap p1 (ny _ (by omega))) (hW.heap p0 (ny _ (by omega))) ((hA.ky hk).ky hW).at_ ((hB.ky hk).ky hW).at_ h0s (hW.heap (hk.heap bl yl) yl) ((l1.ky hk).ky hW) (fun x hx => (eA x).1 hx) (get_small na za1) hu hm).mono ?_
        rintro e w' ⟨rfl, hk'⟩
        exact ⟨.inl ⟨(rS u).1 hm, by rw [getF, xS]⟩, hk'⟩
      · obtain ⟨N, x, y, rfl, _, _⟩ := l1
        refine (many1_no (hW.heap p1 (ny _ (by omega))) (hW.heap p0 (ny _ (by omega))) ((hA.ky hk).ky hW).at_ ((hB.ky hk).ky hW).at_ (N := N) (x := x) (y := y) (by rw [cellOf (hW.heap (hk.heap bl yl) yl) 0]; rfl) hu hm).mono ?_
        rintro e w' ⟨rfl, hk'⟩
        exact ⟨.inr ⟨fun h => hm ((rS u).2 h), rfl⟩, hk'⟩
    · refine ⟨_, _, _, rfl, enters_of Tryz.func113 (by kernel_rfl) rfl, fun W v s hW hv hs => ?_⟩
      have e : (#[] : Array Value) ++ (#[.string (txt v), .string (txt s)] ++ #[.pointer (some ⟨w.heap.size + 2, 0, none⟩), .pointer (some ⟨w.heap.size + 1, 0, none⟩), .pointer (some ⟨w.heap.size, 0, none⟩)]) = #[.string (txt v), .string (txt s), .pointer (some ⟨w.heap.size + 2, 0, none⟩), .pointer (some ⟨w.heap.size + 1, 0, none⟩), .pointer (some ⟨w.heap.size, 0, none⟩)] := by simp
      rw [e]
      rcases Classical.em (M (.rep 42 A') v) with hm | hm
      · rcases Classical.em (M (.rep 42 A) s) with hn | hn
        · have hb := put_small na0 za v s ((rV v).1 hm) ((rS s).1 hn) hv hs
          rw [putF, ← xS, ← xV] at hb
          refine (many2_ok (hW.heap p2 (ny _ (by omega))) (hW.heap p1 (ny _ (by omega))) (hW.heap p0 (ny _ (by omega))) (hW.heap (hk.heap bl yl) yl) ((hA'.ky hk).ky hW).at_ ((hB'.ky hk).ky hW).at_ ((hA.ky hk).ky hW).at_ ((hB.ky hk).ky hW).at_ h0v h0s ((l2.ky hk).ky hW) ((l3.ky hk).ky hW) (fun x hx => (eA' x).1 hx) (fun x hx => (eA x).1 hx) hb hv hs hm hn).mono ?_
          rintro e w' ⟨rfl, hk'⟩
          exact ⟨.inl ⟨(rV v).1 hm, (rS s).1 hn, by rw [putF, xS, xV]⟩, hk'⟩
        · refine (many2_noS (hW.heap p2 (ny _ (by omega))) (hW.heap p1 (ny _ (by omega))) ((hA'.ky hk).ky hW).at_ ((hB'.ky hk).ky hW).at_ ((hA.ky hk).ky hW).at_ ((hB.ky hk).ky hW).at_ h0v hv hs hm hn).mono ?_
          rintro e w' ⟨rfl, hk'⟩
          exact ⟨.inr (.inr ⟨(rV v).1 hm, fun h => hn ((rS s).2 h), rfl⟩), hk'⟩
      · refine (many2_noV (hW.heap p2 (ny _ (by omega))) ((hA'.ky hk).ky hW).at_ ((hB'.ky hk).ky hW).at_ hv hm).mono ?_
        rintro e w' ⟨rfl, hk'⟩
        exact ⟨.inr (.inl ⟨fun h => hm ((rV v).2 h), rfl⟩), hk'⟩
    · refine ⟨_, _, _, rfl, enters_of Tryz.func114 (by kernel_rfl) rfl, fun W u hW hu => ?_⟩
      have e : (#[] : Array Value).push (.string (txt u)) ++ #[.pointer (some ⟨w.heap.size + 2, 0, none⟩), .pointer (some ⟨w.heap.size, 0, none⟩)] = #[.string (txt u), .pointer (some ⟨w.heap.size + 2, 0, none⟩), .pointer (some ⟨w.heap.size, 0, none⟩)] := by simp
      rw [e]
      rcases Classical.em (M (.rep 42 A') u) with hm | hm
      · refine (many3_ok (hW.heap p2 (ny _ (by omega))) (hW.heap p0 (ny _ (by omega))) ((hA'.ky hk).ky hW).at_ ((hB'.ky hk).ky hW).at_ h0v (hW.heap (hk.heap bl yl) yl) ((l3.ky hk).ky hW) (fun x hx => (eA' x).1 hx) (make_small na za1) hu hm).mono ?_
        rintro e w' ⟨rfl, hk'⟩
        exact ⟨.inl ⟨(rV u).1 hm, by rw [makeF, xV]⟩, hk'⟩
      · obtain ⟨N, x, y, rfl, _, _⟩ := l3
        refine (many3_no (hW.heap p2 (ny _ (by omega))) (hW.heap p0 (ny _ (by omega))) ((hA'.ky hk).ky hW).at_ ((hB'.ky hk).ky hW).at_ (N := N) (x := x) (y := y) (by rw [cellOf (hW.heap (hk.heap bl yl) yl) 2]; rfl) hu hm).mono ?_
        rintro e w' ⟨rfl, hk'⟩
        exact ⟨.inr ⟨fun h => hm ((rV u).2 h), rfl⟩, hk'⟩
  · rw [hw3]
    exact hk0

end Go.Proofs.YtlljggefbngkeaaGreatDoor
